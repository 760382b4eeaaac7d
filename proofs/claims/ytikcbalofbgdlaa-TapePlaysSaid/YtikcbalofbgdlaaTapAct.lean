/-
  Acts; a call on both tapes (does), and whether they are the same (is).
-/
import Derived.Test.YtikcbalofbgdlaaTapRef
namespace Go.Proofs.Ytikcbalofbgdlaa
open Go.RowKit

structure ActV where
  what : Nat
  s : ByteArray
  n : Nat
  m : Nat
instance : Inhabited ActV := ⟨⟨0, ⟨#[]⟩, 0, 0⟩⟩
namespace ActV
def cells (x : ActV) : List Value := [.int .u8 (x.what : Int), .string x.s, .int .u64 (x.n : Int), .int .u64 (x.m : Int)]
def val (x : ActV) : Value := .agg #[.int .u8 (x.what : Int), .string x.s, .int .u64 (x.n : Int), .int .u64 (x.m : Int)]
structure Ok (x : ActV) : Prop where
  what : x.what < 256
  n : x.n < 18446744073709551616
  m : x.m < 18446744073709551616
  s : x.s.size ≤ 9223372036854775807
end ActV

def ST.act (s : ST) (x : ActV) : ST :=
  if x.what % 8 = 3 then s.force else if x.what % 8 = 4 then s.drop x.n else if x.what % 8 = 5 then s.cut x.n else if x.what % 8 = 6 then s.crash ((x.n : Int) % 400 - 20) else if x.what % 8 = 7 then s else s.append x.s
theorem ST.fin_append (s : ST) (t : ByteArray) : (s.append t).fin ≤ s.fin + t.size := by
  unfold ST.append
  split
  · unfold ST.fin; show s.base + (s.l ++ txt t).length ≤ _; rw [List.length_append, txt_length]; omega
  · omega
theorem ST.Ok.act {s : ST} (h : s.Ok) (x : ActV) (ht : s.fin + x.s.size ≤ 100000000) : (s.act x).Ok ∧ (s.act x).fin ≤ s.fin + x.s.size := by
  have hd : ∀ to, (s.drop to).fin ≤ s.fin := fun to => by
    unfold ST.drop; split
    · rename_i hh; unfold ST.fin; show to + (s.l.drop (to - s.base)).length ≤ _; rw [List.length_drop]; have := hh.1; have := hh.2; have := h.sf; unfold ST.fin at this; omega
    · exact Nat.le_refl _
  have hsh : ∀ to, s.base ≤ to → to ≤ s.fin → (s.shorten to).fin ≤ s.fin := fun to h1 h2 => by rw [(h.shorten h1 h2).2]; exact h2
  unfold ST.act
  split
  · exact ⟨h.force, by show s.fin ≤ _; omega⟩
  split
  · exact ⟨h.drop _, by have := hd x.n; omega⟩
  split
  · refine ⟨h.cut _, ?_⟩
    unfold ST.cut; split
    · rename_i hh; have := hsh _ hh.1 hh.2; omega
    · omega
  split
  · refine ⟨h.crash _, ?_⟩
    have := s.kept_le ((x.n : Int) % 400 - 20)
    have hb := h.bs
    have hf := h.sf
    show (s.shorten (s.sure + s.kept ((x.n : Int) % 400 - 20))).fin ≤ _
    have := hsh (s.sure + s.kept ((x.n : Int) % 400 - 20)) (by omega) (by omega)
    omega
  split
  · exact ⟨h, by omega⟩
  · exact ⟨h.append _ ht, s.fin_append _⟩

theorem TV.In.notMine {d : TV} {w : World} {g : Nat} {t : TypeId} {cs : List Value} {m : Nat × Nat} (h : d.In w) (hr : Row w g t cs m) (h1 : 50 ≠ t) (h2 : 5 ≠ t) : ¬ d.mine g := by
  rintro (e | e)
  · exact (h.dev.ne_ hr h1) e.symm
  · obtain ⟨cs', hr'⟩ := h.bts.u8 e
    exact (hr'.ne_ hr h2) rfl

/-- What does leaves. -/
def Did (d : TV) (B : Nat) (r : RT) (x : ActV) (w : World) (e : Ending) (w' : World) : Prop :=
  ∃ (b : Bool) (d' : TV) (r' : RT), e = .returned (.bool b) ∧ (d.s = r.st → b = true) ∧ d'.A = d.A ∧ d'.s = d.s.act x ∧ d'.In w' ∧ RIn B r' w' ∧ r'.st = r.st.act x ∧ Only (fun k => d.mine k ∨ k = B) w w' ∧ ∀ k, d'.mine k → d.mine k ∨ w.heap.size ≤ k

section
variable {d : TV} {B : Nat} {r : RT} {x : ActV} {w wa wb wc : World} {s1 s2 : ST} {a1 a2 : Value} {e1 e2 : Ending}
theorem did_tq (hr : RIn B r w) (hd : d.In w) (hb : Below w.heap.size w wa) (ht : d.Turned wa s1 a1 e1 wb) (hq : RTurned B wb s2 a2 e2 wc) (b : Bool) (h1 : s1 = d.s.act x) (h2 : s2 = r.st.act x) (hbb : d.s = r.st → b = true) : Did d B r x w (.returned (.bool b)) wc := by
  obtain ⟨d', _, e2, e3, h4, h5, h6⟩ := ht
  obtain ⟨_, r', k1, k2, k3⟩ := hq
  have hRb := h4.notMine (t := 58) ((hr.keeps hb).row.only h5 ((hd.keeps hb).notMine (hr.keeps hb).row (by decide) (by decide))) (by decide) (by decide)
  refine ⟨b, d', r', rfl, hbb, e2, e3.trans h1, h4.only k3 (fun k hk e => hRb (e ▸ hk)), k1, k2.trans h2, ?_, fun k hk => ?_⟩
  · exact (((Only.below hb d.mine).trans h5).imp fun _ _ h => .inl h).trans (k3.imp fun _ _ h => .inr h)
  · rcases h6 k hk with h7 | h7
    · exact .inl h7
    · exact .inr (Nat.le_trans hb.size h7)
theorem did_qt (hr : RIn B r w) (hd : d.In w) (hb : Below w.heap.size w wa) (hq : RTurned B wa s2 a2 e2 wb) (ht : d.Turned wb s1 a1 e1 wc) (b : Bool) (h1 : s1 = d.s.act x) (h2 : s2 = r.st.act x) (hbb : d.s = r.st → b = true) : Did d B r x w (.returned (.bool b)) wc := by
  obtain ⟨d', _, e2, e3, h4, h5, h6⟩ := ht
  obtain ⟨_, r', k1, k2, k3⟩ := hq
  have hdB := (hd.keeps hb).notMine (hr.keeps hb).row (by decide) (by decide)
  refine ⟨b, d', r', rfl, hbb, e2, e3.trans h1, h4, k1.only h5 hdB, k2.trans h2, ?_, fun k hk => ?_⟩
  · exact ((Only.below hb _).trans (k3.imp fun _ _ h => .inr h)).trans (h5.imp fun _ _ h => .inl h)
  · rcases h6 k hk with h7 | h7
    · exact .inl h7
    · exact .inr (Nat.le_trans hb.size (Nat.le_trans k3.size h7))
theorem turned_q (hr : RIn B r wa) (hd : d.In wa) (ht : d.Turned wa s1 a1 e1 wb) : RIn B r wb := by
  obtain ⟨d', _, e2, e3, h4, h5, h6⟩ := ht
  exact hr.only h5 (hd.notMine hr.row (by decide) (by decide))
theorem turned_cell (hd : d.In wa) (ht : d.Turned wa s1 a1 e1 wb) {X : Nat} {cs : List Value} (hX : Row wa X 31 cs (0, 0)) : Row wb X 31 cs (0, 0) := by
  obtain ⟨d', _, e2, e3, h4, h5, h6⟩ := ht
  exact hX.only h5 (hd.notMine hX (by decide) (by decide))
theorem rturned_cell (hr : RIn B r wa) (hq : RTurned B wa s2 a2 e2 wb) {X : Nat} {cs : List Value} (hX : Row wa X 31 cs (0, 0)) : Row wb X 31 cs (0, 0) := by
  obtain ⟨_, r', k1, k2, k3⟩ := hq
  exact hX.only k3 (fun e => hX.ne_ hr.row (by decide) e)
theorem rturned_t (hr : RIn B r wa) (hd : d.In wa) (hq : RTurned B wa s2 a2 e2 wb) : d.In wb := by
  obtain ⟨_, r', k1, k2, k3⟩ := hq
  exact hd.only k3 (fun k hk e => hd.notMine hr.row (by decide) (by decide) (e ▸ hk))
end

/-- The world behind the box of an act. -/
theorem boxed (x : ActV) (w : World) : ∀ w0, w.alloc (.cells #[.int .u8 (x.what : Int), .string x.s, .int .u64 (x.n : Int), .int .u64 (x.m : Int)] 31) = w0 → Row w0 w.heap.size 31 x.cells (0, 0) ∧ Below w.heap.size w w0 := fun w0 h => by
  subst h
  exact ⟨Row.new w 31 x.cells (0, 0), (Below.refl _ _).alloc (Nat.le_refl _) _⟩

set_option maxRecDepth 100000 in
theorem great_any (x : ActV) (w : World) (hs : x.s.size ≤ 9223372036854775807) : Calls Try.prog 11 #[x.val] w fun e w' => e = .returned (.bool (decide (300 < x.s.size))) ∧ Below w.heap.size w w' := by
  have HB := Lib.hid (boxed x w)
  have h1 : (x.s.size : Int) ≤ 9223372036854775807 := by omega
  have hd : decide (300 < x.s.size) = decide ((300 : Int) < x.s.size) := by simp; omega
  rw [hd]
  unfold ActV.val
  go_enter Try.func11, Try.ntmps11
  go_wp2
  go_ret
  exact ⟨rfl, (HB.out _ rfl).2⟩

section
variable (d : TV) (B : Nat) (r : RT) (x : ActV) (w : World) (hd : d.In w) (hr : RIn B r w) (hx : x.Ok)

set_option maxRecDepth 100000 in
set_option maxHeartbeats 2000000 in
include hd hr hx in
theorem does_force (hw : x.what % 8 = 3) : Calls Try.prog 15 #[d.ptr, rptr B, x.val] w (Did d B r x w) := by
  have HB := Lib.hid (boxed x w)
  have hw' : (x.what : Int) % 8 = 3 := by omega
  have hwl : (x.what : Int) < 256 := by have := hx.what; omega
  have HQ := Lib.hid (fun (w0 : World) (hb : Below w.heap.size w w0) => rforce_any B r w0 (hr.keeps hb))
  have HT := Lib.hid (fun (w0 w1 : World) (e : Ending) (hb : Below w.heap.size w w0) (hq : RTurned B w0 r.st.force (.tuple #[]) e w1) => force_any d w1 (rturned_t (hr.keeps hb) (hd.keeps hb) hq))
  have HF := Lib.hid (fun (w0 w1 w2 : World) (e e' : Ending) (hb : Below w.heap.size w w0) (hq : RTurned B w0 r.st.force (.tuple #[]) e w1) (ht : d.Turned w1 d.s.force (.int .i64 0) e' w2) => did_qt (x := x) hr hd hb hq ht true (by rw [ST.act, if_pos hw]) (by rw [ST.act, if_pos hw]) (fun _ => rfl))
  obtain ⟨P, hP⟩ : ∃ P, Did d B r x w = P := ⟨_, rfl⟩
  simp only [hP] at HF ⊢
  clear hP hd hr hx hw
  unfold ActV.val
  generalize d.ptr = p at *
  generalize rptr B = q at *
  go_enter Try.func15, Try.ntmps15
  go_wp2_with fail
  generalize hw0 : w.alloc _ = w0
  have hb0 := (HB.out w0 hw0).2
  clear hw0
  refine (HQ.out _ hb0).mono ?_
  intro e w1 hq
  obtain rfl := hq.1
  have hq1 := Lib.hid hq
  clear hq
  go_wp2_with fail
  refine (HT.out _ _ _ hb0 hq1.out).mono ?_
  intro e w2 ht
  obtain rfl : e = .returned (.int .i64 0) := by obtain ⟨_, e1, _⟩ := ht; exact e1
  have HE := Lib.hid (HF.out _ _ _ _ _ hb0 hq1.out ht)
  clear ht hq1 hb0
  go_wp2
  exact HE.out

set_option maxRecDepth 100000 in
set_option maxHeartbeats 2000000 in
include hd hr hx in
theorem does_drop (hw : x.what % 8 = 4) : Calls Try.prog 15 #[d.ptr, rptr B, x.val] w (Did d B r x w) := by
  have HB := Lib.hid (boxed x w)
  have hwl : (x.what : Int) < 256 := by have := hx.what; omega
  obtain ⟨a1, ha1⟩ : ∃ a1 : Int, (if d.s.drops x.n then 0 else 2) = a1 := ⟨_, rfl⟩
  obtain ⟨a2, ha2⟩ : ∃ a2 : Int, (if r.st.drops x.n then 0 else 2) = a2 := ⟨_, rfl⟩
  have hs1 : d.s.act x = d.s.drop x.n := by rw [ST.act, if_neg (by omega), if_pos hw]
  have hs2 : r.st.act x = r.st.drop x.n := by rw [ST.act, if_neg (by omega), if_pos hw]
  have HS := Lib.hid (show ∀ wx X, Row wx X 31 x.cells (0, 0) → wx.cell? ⟨X, 2, none⟩ = some (.int .u64 (x.n : Int)) from fun wx X hX => hX.cell 2)
  have HT := Lib.hid (show ∀ wx, Below w.heap.size w wx → Row wx w.heap.size 31 x.cells (0, 0) → Calls Try.prog 24 #[d.ptr, .int .u64 (x.n : Int)] wx fun e w1 => e = .returned (.int .i64 a1) ∧ Hid (d.Turned wx (d.s.drop x.n) (.int .i64 a1) e w1) ∧ Row w1 w.heap.size 31 x.cells (0, 0) from fun wx hb hX => by
    rw [← ha1]
    refine (drop_any d x.n wx (hd.keeps hb)).mono fun e w1 ht => ⟨?_, Lib.hid ht, turned_cell (hd.keeps hb) ht hX⟩
    obtain ⟨_, e1, _⟩ := ht; exact e1)
  have HQ := Lib.hid (show ∀ wx w1 e, Below w.heap.size w wx → Hid (d.Turned wx (d.s.drop x.n) (.int .i64 a1) e w1) → Row w1 w.heap.size 31 x.cells (0, 0) → Calls Try.prog 30 #[rptr B, .int .u64 (x.n : Int)] w1 fun e' w2 => e' = .returned (.int .i64 a2) ∧ Hid (RTurned B w1 (r.st.drop x.n) (.int .i64 a2) e' w2) ∧ Row w2 w.heap.size 31 x.cells (0, 0) from fun wx w1 e hb ht hX => by
    rw [← ha2]
    have hr1 := turned_q (hr.keeps hb) (hd.keeps hb) ht.out
    exact (rdrop_any B r w1 x.n hr1 hx.n).mono fun e' w2 hq => ⟨hq.1, Lib.hid hq, rturned_cell hr1 hq hX⟩)
  have HF := Lib.hid (fun (w0 w1 w2 : World) (e e' : Ending) (hb : Below w.heap.size w w0) (ht : Hid (d.Turned w0 (d.s.drop x.n) (.int .i64 a1) e w1)) (hq : Hid (RTurned B w1 (r.st.drop x.n) (.int .i64 a2) e' w2)) => did_tq (x := x) hr hd hb ht.out hq.out (a1 == a2) hs1.symm hs2.symm (fun he => by rw [← ha1, ← ha2, he]; simp))
  obtain ⟨P, hP⟩ : ∃ P, Did d B r x w = P := ⟨_, rfl⟩
  simp only [hP] at HF ⊢
  obtain ⟨T, hT⟩ : ∃ T : World → Ending → World → Prop, (fun w0 e w1 => Hid (d.Turned w0 (d.s.drop x.n) (.int .i64 a1) e w1)) = T := ⟨_, rfl⟩
  obtain ⟨Q, hQ⟩ : ∃ Q : World → Ending → World → Prop, (fun w1 e w2 => Hid (RTurned B w1 (r.st.drop x.n) (.int .i64 a2) e w2)) = Q := ⟨_, rfl⟩
  have HT1 := Lib.hid (show ∀ wx, Below w.heap.size w wx → Row wx w.heap.size 31 x.cells (0, 0) → Calls Try.prog 24 #[d.ptr, .int .u64 (x.n : Int)] wx fun e w1 => e = .returned (.int .i64 a1) ∧ T wx e w1 ∧ Row w1 w.heap.size 31 x.cells (0, 0) from hT ▸ HT.out)
  have HQ1 := Lib.hid (show ∀ wx w1 e, Below w.heap.size w wx → T wx e w1 → Row w1 w.heap.size 31 x.cells (0, 0) → Calls Try.prog 30 #[rptr B, .int .u64 (x.n : Int)] w1 fun e' w2 => e' = .returned (.int .i64 a2) ∧ Q w1 e' w2 ∧ Row w2 w.heap.size 31 x.cells (0, 0) from by subst hT hQ; exact HQ.out)
  have HF1 := Lib.hid (show ∀ w0 w1 w2 e e', Below w.heap.size w w0 → T w0 e w1 → Q w1 e' w2 → P (.returned (.bool (a1 == a2))) w2 from by subst hT hQ; exact fun w0 w1 w2 e e' => HF.out w0 w1 w2 e e')
  have hw' : (x.what : Int) % 8 = 4 := by omega
  clear hP hd hr hx hw hs1 hs2 ha1 ha2 HT HQ HF hT hQ
  unfold ActV.val
  generalize d.ptr = p at *
  generalize rptr B = q at *
  go_enter Try.func15, Try.ntmps15
  go_wp2_with fail
  generalize hw0 : w.alloc _ = w0
  obtain ⟨hX, hb0⟩ := HB.out w0 hw0
  have hk0 : Below w.heap.size w w0.drew := hb0.drew
  have hXd : Row w0.drew w.heap.size 31 x.cells (0, 0) := hX
  have cX := HS.out w0.drew _ hXd
  clear hw0 hX hb0
  go_region_held3 (fun wx => wx.cell? ⟨w.heap.size, 2, none⟩ = some (.int .u64 (x.n : Int))) (first | exact cX | exact HS.out _ _ (by assumption) | go_keep)
    (first
      | ((with_reducible refine (HT1.out _ hk0 hXd).mono ?_); rintro e wa ⟨rfl, ht, hXa⟩)
      | ((with_reducible refine (HQ1.out _ _ _ hk0 ht hXa).mono ?_); rintro e wb ⟨rfl, hq, hXb⟩))
  have HE := Lib.hid (HF1.out _ _ _ _ _ hk0 ht hq)
  clear ht hq hXa hXb
  go_wp2
  exact HE.out

set_option maxRecDepth 100000 in
set_option maxHeartbeats 2000000 in
include hd hr hx in
theorem does_cut (hw : x.what % 8 = 5) : Calls Try.prog 15 #[d.ptr, rptr B, x.val] w (Did d B r x w) := by
  have HB := Lib.hid (boxed x w)
  have hwl : (x.what : Int) < 256 := by have := hx.what; omega
  obtain ⟨a1, ha1⟩ : ∃ a1 : Int, (if d.s.cuts x.n then 0 else 2) = a1 := ⟨_, rfl⟩
  obtain ⟨a2, ha2⟩ : ∃ a2 : Int, (if r.st.cuts x.n then 0 else 2) = a2 := ⟨_, rfl⟩
  have hs1 : d.s.act x = d.s.cut x.n := by rw [ST.act, if_neg (by omega), if_neg (by omega), if_pos hw]
  have hs2 : r.st.act x = r.st.cut x.n := by rw [ST.act, if_neg (by omega), if_neg (by omega), if_pos hw]
  have HS := Lib.hid (show ∀ wx X, Row wx X 31 x.cells (0, 0) → wx.cell? ⟨X, 2, none⟩ = some (.int .u64 (x.n : Int)) from fun wx X hX => hX.cell 2)
  have HT := Lib.hid (show ∀ wx, Below w.heap.size w wx → Row wx w.heap.size 31 x.cells (0, 0) → Calls Try.prog 25 #[d.ptr, .int .u64 (x.n : Int)] wx fun e w1 => e = .returned (.int .i64 a1) ∧ Hid (d.Turned wx (d.s.cut x.n) (.int .i64 a1) e w1) ∧ Row w1 w.heap.size 31 x.cells (0, 0) from fun wx hb hX => by
    rw [← ha1]
    refine (cut_any d x.n wx (hd.keeps hb)).mono fun e w1 ht => ⟨?_, Lib.hid ht, turned_cell (hd.keeps hb) ht hX⟩
    obtain ⟨_, e1, _⟩ := ht; exact e1)
  have HQ := Lib.hid (show ∀ wx w1 e, Below w.heap.size w wx → Hid (d.Turned wx (d.s.cut x.n) (.int .i64 a1) e w1) → Row w1 w.heap.size 31 x.cells (0, 0) → Calls Try.prog 31 #[rptr B, .int .u64 (x.n : Int)] w1 fun e' w2 => e' = .returned (.int .i64 a2) ∧ Hid (RTurned B w1 (r.st.cut x.n) (.int .i64 a2) e' w2) ∧ Row w2 w.heap.size 31 x.cells (0, 0) from fun wx w1 e hb ht hX => by
    rw [← ha2]
    have hr1 := turned_q (hr.keeps hb) (hd.keeps hb) ht.out
    exact (rcut_any B r w1 x.n hr1 hx.n).mono fun e' w2 hq => ⟨hq.1, Lib.hid hq, rturned_cell hr1 hq hX⟩)
  have HF := Lib.hid (fun (w0 w1 w2 : World) (e e' : Ending) (hb : Below w.heap.size w w0) (ht : Hid (d.Turned w0 (d.s.cut x.n) (.int .i64 a1) e w1)) (hq : Hid (RTurned B w1 (r.st.cut x.n) (.int .i64 a2) e' w2)) => did_tq (x := x) hr hd hb ht.out hq.out (a1 == a2) hs1.symm hs2.symm (fun he => by rw [← ha1, ← ha2, he]; simp))
  obtain ⟨P, hP⟩ : ∃ P, Did d B r x w = P := ⟨_, rfl⟩
  simp only [hP] at HF ⊢
  obtain ⟨T, hT⟩ : ∃ T : World → Ending → World → Prop, (fun w0 e w1 => Hid (d.Turned w0 (d.s.cut x.n) (.int .i64 a1) e w1)) = T := ⟨_, rfl⟩
  obtain ⟨Q, hQ⟩ : ∃ Q : World → Ending → World → Prop, (fun w1 e w2 => Hid (RTurned B w1 (r.st.cut x.n) (.int .i64 a2) e w2)) = Q := ⟨_, rfl⟩
  have HT1 := Lib.hid (show ∀ wx, Below w.heap.size w wx → Row wx w.heap.size 31 x.cells (0, 0) → Calls Try.prog 25 #[d.ptr, .int .u64 (x.n : Int)] wx fun e w1 => e = .returned (.int .i64 a1) ∧ T wx e w1 ∧ Row w1 w.heap.size 31 x.cells (0, 0) from hT ▸ HT.out)
  have HQ1 := Lib.hid (show ∀ wx w1 e, Below w.heap.size w wx → T wx e w1 → Row w1 w.heap.size 31 x.cells (0, 0) → Calls Try.prog 31 #[rptr B, .int .u64 (x.n : Int)] w1 fun e' w2 => e' = .returned (.int .i64 a2) ∧ Q w1 e' w2 ∧ Row w2 w.heap.size 31 x.cells (0, 0) from by subst hT hQ; exact HQ.out)
  have HF1 := Lib.hid (show ∀ w0 w1 w2 e e', Below w.heap.size w w0 → T w0 e w1 → Q w1 e' w2 → P (.returned (.bool (a1 == a2))) w2 from by subst hT hQ; exact fun w0 w1 w2 e e' => HF.out w0 w1 w2 e e')
  have hw' : (x.what : Int) % 8 = 5 := by omega
  clear hP hd hr hx hw hs1 hs2 ha1 ha2 HT HQ HF hT hQ
  unfold ActV.val
  generalize d.ptr = p at *
  generalize rptr B = q at *
  go_enter Try.func15, Try.ntmps15
  go_wp2_with fail
  generalize hw0 : w.alloc _ = w0
  obtain ⟨hX, hb0⟩ := HB.out w0 hw0
  have hk0 : Below w.heap.size w w0.drew := hb0.drew
  have hXd : Row w0.drew w.heap.size 31 x.cells (0, 0) := hX
  have cX := HS.out w0.drew _ hXd
  clear hw0 hX hb0
  go_region_held3 (fun wx => wx.cell? ⟨w.heap.size, 2, none⟩ = some (.int .u64 (x.n : Int))) (first | exact cX | exact HS.out _ _ (by assumption) | go_keep)
    (first
      | ((with_reducible refine (HT1.out _ hk0 hXd).mono ?_); rintro e wa ⟨rfl, ht, hXa⟩)
      | ((with_reducible refine (HQ1.out _ _ _ hk0 ht hXa).mono ?_); rintro e wb ⟨rfl, hq, hXb⟩))
  have HE := Lib.hid (HF1.out _ _ _ _ _ hk0 ht hq)
  clear ht hq hXa hXb
  go_wp2
  exact HE.out

set_option maxRecDepth 100000 in
set_option maxHeartbeats 2000000 in
include hd hr hx in
theorem does_append (hw : x.what % 8 < 3) (hz1 : d.s.fin + x.s.size ≤ 100000000) (hz2 : r.st.fin + x.s.size ≤ 100000000) : Calls Try.prog 15 #[d.ptr, rptr B, x.val] w (Did d B r x w) := by
  have HB := Lib.hid (boxed x w)
  have hwl : (x.what : Int) < 256 := by have := hx.what; omega
  obtain ⟨a1, ha1⟩ : ∃ a1 : Int, (if d.s.fits x.s then 0 else 6) = a1 := ⟨_, rfl⟩
  obtain ⟨a2, ha2⟩ : ∃ a2 : Int, (if r.st.fits x.s then 0 else 6) = a2 := ⟨_, rfl⟩
  have hs1 : d.s.act x = d.s.append x.s := by rw [ST.act, if_neg (by omega), if_neg (by omega), if_neg (by omega), if_neg (by omega), if_neg (by omega)]
  have hs2 : r.st.act x = r.st.append x.s := by rw [ST.act, if_neg (by omega), if_neg (by omega), if_neg (by omega), if_neg (by omega), if_neg (by omega)]
  have HS := Lib.hid (show ∀ wx X, Row wx X 31 x.cells (0, 0) → wx.cell? ⟨X, 1, none⟩ = some (.string x.s) from fun wx X hX => hX.cell 1)
  have HT := Lib.hid (show ∀ wx, Below w.heap.size w wx → Row wx w.heap.size 31 x.cells (0, 0) → Calls Try.prog 16 #[d.ptr, .string x.s] wx fun e w1 => e = .returned (.int .i64 a1) ∧ Hid (d.Turned wx (d.s.append x.s) (.int .i64 a1) e w1) ∧ Row w1 w.heap.size 31 x.cells (0, 0) from fun wx hb hX => by
    rw [← ha1]
    refine (append_any d x.s wx (hd.keeps hb) hz1).mono fun e w1 ht => ⟨?_, Lib.hid ht, turned_cell (hd.keeps hb) ht hX⟩
    obtain ⟨_, e1, _⟩ := ht; exact e1)
  have HQ := Lib.hid (show ∀ wx w1 e, Below w.heap.size w wx → Hid (d.Turned wx (d.s.append x.s) (.int .i64 a1) e w1) → Row w1 w.heap.size 31 x.cells (0, 0) → Calls Try.prog 34 #[rptr B, .string x.s] w1 fun e' w2 => e' = .returned (.int .i64 a2) ∧ Hid (RTurned B w1 (r.st.append x.s) (.int .i64 a2) e' w2) ∧ Row w2 w.heap.size 31 x.cells (0, 0) from fun wx w1 e hb ht hX => by
    rw [← ha2]
    have hr1 := turned_q (hr.keeps hb) (hd.keeps hb) ht.out
    exact (rappend_any B r w1 x.s hr1 hz2).mono fun e' w2 hq => ⟨hq.1, Lib.hid hq, rturned_cell hr1 hq hX⟩)
  have HF := Lib.hid (fun (w0 w1 w2 : World) (e e' : Ending) (hb : Below w.heap.size w w0) (ht : Hid (d.Turned w0 (d.s.append x.s) (.int .i64 a1) e w1)) (hq : Hid (RTurned B w1 (r.st.append x.s) (.int .i64 a2) e' w2)) => did_tq (x := x) hr hd hb ht.out hq.out (a1 == a2) hs1.symm hs2.symm (fun he => by rw [← ha1, ← ha2, he]; simp))
  obtain ⟨P, hP⟩ : ∃ P, Did d B r x w = P := ⟨_, rfl⟩
  simp only [hP] at HF ⊢
  obtain ⟨T, hT⟩ : ∃ T : World → Ending → World → Prop, (fun w0 e w1 => Hid (d.Turned w0 (d.s.append x.s) (.int .i64 a1) e w1)) = T := ⟨_, rfl⟩
  obtain ⟨Q, hQ⟩ : ∃ Q : World → Ending → World → Prop, (fun w1 e w2 => Hid (RTurned B w1 (r.st.append x.s) (.int .i64 a2) e w2)) = Q := ⟨_, rfl⟩
  have HT1 := Lib.hid (show ∀ wx, Below w.heap.size w wx → Row wx w.heap.size 31 x.cells (0, 0) → Calls Try.prog 16 #[d.ptr, .string x.s] wx fun e w1 => e = .returned (.int .i64 a1) ∧ T wx e w1 ∧ Row w1 w.heap.size 31 x.cells (0, 0) from hT ▸ HT.out)
  have HQ1 := Lib.hid (show ∀ wx w1 e, Below w.heap.size w wx → T wx e w1 → Row w1 w.heap.size 31 x.cells (0, 0) → Calls Try.prog 34 #[rptr B, .string x.s] w1 fun e' w2 => e' = .returned (.int .i64 a2) ∧ Q w1 e' w2 ∧ Row w2 w.heap.size 31 x.cells (0, 0) from by subst hT hQ; exact HQ.out)
  have HF1 := Lib.hid (show ∀ w0 w1 w2 e e', Below w.heap.size w w0 → T w0 e w1 → Q w1 e' w2 → P (.returned (.bool (a1 == a2))) w2 from by subst hT hQ; exact fun w0 w1 w2 e e' => HF.out w0 w1 w2 e e')
  have hw3 : ¬ (x.what : Int) % 8 = 3 := by omega
  have hw4 : ¬ (x.what : Int) % 8 = 4 := by omega
  have hw5 : ¬ (x.what : Int) % 8 = 5 := by omega
  have hw6 : ¬ (x.what : Int) % 8 = 6 := by omega
  have hw7 : ¬ (x.what : Int) % 8 = 7 := by omega
  clear hP hd hr hx hw hs1 hs2 ha1 ha2 HT HQ HF hT hQ
  unfold ActV.val
  generalize d.ptr = p at *
  generalize rptr B = q at *
  go_enter Try.func15, Try.ntmps15
  go_wp2_with fail
  generalize hw0 : w.alloc _ = w0
  obtain ⟨hX, hb0⟩ := HB.out w0 hw0
  have hk0 : Below w.heap.size w w0.drew := hb0.drew
  have hXd : Row w0.drew w.heap.size 31 x.cells (0, 0) := hX
  have cX := HS.out w0.drew _ hXd
  clear hw0 hX hb0
  go_region_held3 (fun wx => wx.cell? ⟨w.heap.size, 1, none⟩ = some (.string x.s)) (first | exact cX | exact HS.out _ _ (by assumption) | go_keep)
    (first
      | ((with_reducible refine (HT1.out _ hk0 hXd).mono ?_); rintro e wa ⟨rfl, ht, hXa⟩)
      | ((with_reducible refine (HQ1.out _ _ _ hk0 ht hXa).mono ?_); rintro e wb ⟨rfl, hq, hXb⟩))
  have HE := Lib.hid (HF1.out _ _ _ _ _ hk0 ht hq)
  clear ht hq hXa hXb
  go_wp2
  exact HE.out

set_option maxRecDepth 100000 in
set_option maxHeartbeats 2000000 in
include hd hr hx in
theorem does_crash (hw : x.what % 8 = 6) : Calls Try.prog 15 #[d.ptr, rptr B, x.val] w (Did d B r x w) := by
  have HB := Lib.hid (boxed x w)
  have hw' : (x.what : Int) % 8 = 6 := by omega
  have hwl : (x.what : Int) < 256 := by have := hx.what; omega
  have hn : (x.n : Int) < 18446744073709551616 := by have := hx.n; omega
  have hs1 : ∀ s : ST, s.act x = s.crash ((x.n : Int) % 400 - 20) := fun s => by rw [ST.act, if_neg (by omega), if_neg (by omega), if_neg (by omega), if_pos hw]
  have h400 : 0 ≤ (x.n : Int) % 400 := by omega
  have h400' : (x.n : Int) % 400 ≤ 400 := by omega
  have HT := Lib.hid (fun (w0 : World) (hb : Below w.heap.size w w0) => crash_any d ((x.n : Int) % 400 - 20) w0 (hd.keeps hb) (by omega))
  have HQ := Lib.hid (fun (w0 w1 : World) (e : Ending) (hb : Below w.heap.size w w0) (ht : d.Turned w0 (d.s.crash ((x.n : Int) % 400 - 20)) (.tuple #[]) e w1) => rcrash_any B r w1 ((x.n : Int) % 400 - 20) (turned_q (hr.keeps hb) (hd.keeps hb) ht) (by omega))
  have HF := Lib.hid (fun (w0 w1 w2 : World) (e e' : Ending) (hb : Below w.heap.size w w0) (ht : d.Turned w0 (d.s.crash ((x.n : Int) % 400 - 20)) (.tuple #[]) e w1) (hq : RTurned B w1 (r.st.crash ((x.n : Int) % 400 - 20)) (.tuple #[]) e' w2) => did_tq (x := x) hr hd hb ht hq true (hs1 _).symm (hs1 _).symm (fun _ => rfl))
  obtain ⟨P, hP⟩ : ∃ P, Did d B r x w = P := ⟨_, rfl⟩
  simp only [hP] at HF ⊢
  have HX := Lib.hid (fun wx (hX : Row wx w.heap.size 31 x.cells (0, 0)) => show wx.cell? ⟨w.heap.size, 2, none⟩ = some (.int .u64 (x.n : Int)) from hX.cell 2)
  generalize hK : (x.n : Int) % 400 = K at *
  have hrem : (x.n : Int) % 400 = K := hK
  clear hP hd hr hx hw hs1 hK
  unfold ActV.val
  generalize d.ptr = p at *
  generalize rptr B = q at *
  go_enter Try.func15, Try.ntmps15
  go_wp2_with fail
  generalize hw0 : w.alloc _ = w0
  obtain ⟨hX, hb0⟩ := HB.out w0 hw0
  clear hw0
  refine (HT.out _ hb0).mono ?_
  intro e w1 ht
  obtain rfl : e = .returned (.tuple #[]) := by obtain ⟨_, e1, _⟩ := ht; exact e1
  have ht1 := Lib.hid ht
  clear ht
  go_wp2_with fail
  refine (HQ.out _ _ _ hb0 ht1.out).mono ?_
  intro e w2 hq
  obtain rfl := hq.1
  have HE := Lib.hid (HF.out _ _ _ _ _ hb0 ht1.out hq)
  clear ht1 hq hb0 hX
  go_wp2
  exact HE.out

set_option maxRecDepth 100000 in
set_option maxHeartbeats 2000000 in
include hd hr hx in
theorem does_read (hw : x.what % 8 = 7) : Calls Try.prog 15 #[d.ptr, rptr B, x.val] w (Did d B r x w) := by
  have HB := Lib.hid (boxed x w)
  have hw' : (x.what : Int) % 8 = 7 := by omega
  have hwl : (x.what : Int) < 256 := by have := hx.what; omega
  have hs1 : ∀ s : ST, s.act x = s := fun s => by rw [ST.act, if_neg (by omega), if_neg (by omega), if_neg (by omega), if_neg (by omega), if_pos hw]
  obtain ⟨a1, ha1⟩ : ∃ a1 : Int, (if d.s.reads x.m x.n then 0 else 2) = a1 := ⟨_, rfl⟩
  obtain ⟨a2, ha2⟩ : ∃ a2 : Int, (if r.st.reads x.m x.n then 0 else 2) = a2 := ⟨_, rfl⟩
  obtain ⟨b1, hb1⟩ : ∃ b1, d.s.read x.m x.n = b1 := ⟨_, rfl⟩
  obtain ⟨b2, hb2⟩ : ∃ b2, r.st.read x.m x.n = b2 := ⟨_, rfl⟩
  have HT := Lib.hid (show ∀ w0, Below w.heap.size w w0 → Calls Try.prog 19 #[d.ptr, .int .u64 (x.m : Int), .int .u64 (x.n : Int)] w0 fun e w1 => e = .returned (.tuple #[.string b1, .int .i64 a1]) ∧ Below w.heap.size w w1 from fun w0 hb => by
    rw [← ha1, ← hb1]
    exact (read_any d x.m x.n w0 (hd.keeps hb)).mono fun e w1 hh => ⟨hh.1, hb.trans (hh.2.mono hb.size)⟩)
  have HQ := Lib.hid (show ∀ w0, Below w.heap.size w w0 → Calls Try.prog 33 #[rptr B, .int .u64 (x.m : Int), .int .u64 (x.n : Int)] w0 fun e w1 => e = .returned (.tuple #[.string b2, .int .i64 a2]) ∧ w0 = w1 from fun w0 hb => by
    rw [← ha2, ← hb2]
    exact rread_any B r w0 x.m x.n (hr.keeps hb) hx.m hx.n)
  have HF := Lib.hid (show ∀ w0, Below w.heap.size w w0 → ∀ b, (d.s = r.st → b = true) → Did d B r x w (.returned (.bool b)) w0 from fun w0 hb b hbb => ⟨b, d, r, rfl, hbb, rfl, (hs1 _).symm, hd.keeps hb, hr.keeps hb, (hs1 _).symm, Only.below hb _, fun k hk => .inl hk⟩)
  have HS := Lib.hid (show d.s = r.st → b1 = b2 ∧ a1 = a2 from fun he => ⟨by rw [← hb1, ← hb2, he], by rw [← ha1, ← ha2, he]⟩)
  have HX := Lib.hid (fun wx (hX : Row wx w.heap.size 31 x.cells (0, 0)) => show wx.cell? ⟨w.heap.size, 2, none⟩ = some (.int .u64 (x.n : Int)) ∧ wx.cell? ⟨w.heap.size, 3, none⟩ = some (.int .u64 (x.m : Int)) from ⟨hX.cell 2, hX.cell 3⟩)
  have HXB := Lib.hid (show ∀ w0 w1, Row w0 w.heap.size 31 x.cells (0, 0) → Below w0.heap.size w0 w1 → Row w1 w.heap.size 31 x.cells (0, 0) from fun w0 w1 h1 h2 => h1.below h2 h1.lt)
  obtain ⟨P, hP⟩ : ∃ P, Did d B r x w = P := ⟨_, rfl⟩
  simp only [hP] at HF ⊢
  have HT1 := Lib.hid (show ∀ w0, Below w.heap.size w w0 → Row w0 w.heap.size 31 x.cells (0, 0) → Calls Try.prog 19 #[d.ptr, .int .u64 (x.m : Int), .int .u64 (x.n : Int)] w0 fun e w1 => e = .returned (.tuple #[.string b1, .int .i64 a1]) ∧ Below w.heap.size w w1 ∧ Row w1 w.heap.size 31 x.cells (0, 0) from fun w0 hb hX => by
    rw [← ha1, ← hb1]
    exact (read_any d x.m x.n w0 (hd.keeps hb)).mono fun e w1 hh => ⟨hh.1, hb.trans (hh.2.mono hb.size), hX.below hh.2 hX.lt⟩)
  clear hP hd hr hx hw hs1 ha1 ha2 hb1 hb2 HT
  unfold ActV.val
  generalize d.ptr = p at *
  generalize rptr B = q at *
  go_enter Try.func15, Try.ntmps15
  go_wp2_with fail
  generalize hw0 : w.alloc _ = w0
  obtain ⟨hX, hb0⟩ := HB.out w0 hw0
  clear hw0
  refine (HT1.out _ hb0 hX).mono ?_
  rintro e w1 ⟨rfl, hbw1, hX1⟩
  obtain ⟨c2, c3⟩ := HX.out _ hX1
  clear hX hX1 hb0
  go_wp2_with fail
  refine (HQ.out _ hbw1).mono ?_
  rintro e w2 ⟨rfl, rfl⟩
  have HE := Lib.hid (fun b => HF.out _ hbw1 b)
  clear hbw1 c2 c3
  by_cases he : b1 = b2 ∧ a1 = a2
  · obtain ⟨rfl, rfl⟩ := he
    go_wp2
    exact HE.out _ (fun _ => rfl)
  · go_wp2
    all_goals exact HE.out _ (fun hh => absurd (HS.out hh) he)
end

set_option maxRecDepth 100000 in
/-- A call on both. -/
theorem does_any (d : TV) (B : Nat) (r : RT) (x : ActV) (w : World) (hd : d.In w) (hr : RIn B r w) (hx : x.Ok) (hz1 : d.s.fin + x.s.size ≤ 100000000) (hz2 : r.st.fin + x.s.size ≤ 100000000) : Calls Try.prog 15 #[d.ptr, rptr B, x.val] w (Did d B r x w) := by
  rcases (show x.what % 8 < 3 ∨ x.what % 8 = 3 ∨ x.what % 8 = 4 ∨ x.what % 8 = 5 ∨ x.what % 8 = 6 ∨ x.what % 8 = 7 by omega) with h | h | h | h | h | h
  · exact does_append d B r x w hd hr hx h hz1 hz2
  · exact does_force d B r x w hd hr hx h
  · exact does_drop d B r x w hd hr hx h
  · exact does_cut d B r x w hd hr hx h
  · exact does_crash d B r x w hd hr hx h
  · exact does_read d B r x w hd hr hx h

end Go.Proofs.Ytikcbalofbgdlaa
