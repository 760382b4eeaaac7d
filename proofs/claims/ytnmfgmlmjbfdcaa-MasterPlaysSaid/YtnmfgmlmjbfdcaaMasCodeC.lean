/-
  The code's master: a text that is written; Open; Sync.
-/
import Derived.Test.YtnmfgmlmjbfdcaaMasCodeB
import Derived.Test.YtnmfgmlmjbfdcaaMBlkEF
namespace Go.Proofs.Ytnmfgmlmjbfdcaa
open Go.RowKit

theorem drewP {w wx : World} (h : Below w.heap.size w wx) : Below w.heap.size w wx.drew := ⟨h.os, h.tape, h.output, h.size, h.block⟩
/-- The two boxes of put. -/
structure PutW (w : World) (D b v : Nat) (s : ByteArray) (wr : World) : Prop where
  below : Below w.heap.size w wr
  box : Row wr w.heap.size 72 [.pointer (some ⟨D, 0, none⟩)] (0, 0)
  held : Row wr (w.heap.size + 1) 74 [.int .i64 (b : Int), .int .u64 (v : Int), .string s] (0, 0)
theorem PutW.below_ {w wr w' : World} {D b v : Nat} {s : ByteArray} (k : PutW w D b v s wr) (hb : Below wr.heap.size wr w') : PutW w D b v s w' :=
  ⟨k.below.trans (hb.mono k.below.size), k.box.below hb k.box.lt, k.held.below hb k.held.lt⟩
theorem PutW.new (w : World) (D b v : Nat) (s : ByteArray) : PutW w D b v s ((w.alloc (.cells #[.pointer (some ⟨D, 0, none⟩)] 72)).alloc (.cells #[.int .i64 (b : Int), .int .u64 (v : Int), .string s] 74)) := by
  have r1 := Row.new w 72 [.pointer (some ⟨D, 0, none⟩)] (0, 0)
  have b1 : Below w.heap.size w (w.alloc (.cells #[.pointer (some ⟨D, 0, none⟩)] 72)) := (Below.refl _ _).alloc (Nat.le_refl _) _
  have s1 : (w.alloc (.cells #[.pointer (some ⟨D, 0, none⟩)] 72)).heap.size = w.heap.size + 1 := by simp
  rw [show ([.pointer (some ⟨D, 0, none⟩)] : List Value).toArray = #[.pointer (some ⟨D, 0, none⟩)] from rfl] at r1
  generalize w.alloc (.cells #[.pointer (some ⟨D, 0, none⟩)] 72) = w1 at *
  have r2 := Row.new w1 74 [.int .i64 (b : Int), .int .u64 (v : Int), .string s] (0, 0)
  rw [s1] at r2
  exact ⟨b1.alloc b1.size _, r1.alloc _, r2⟩

def PutP (d : DV) (b : Nat) (X : List UInt8) (w : World) (e : Ending) (w' : World) : Prop :=
  ∃ p, e = .returned (.int .i64 0) ∧ (d.wrote b (tb X) p).In w' ∧ Only d.mine w w' ∧ ∀ k, p.ownBlock = some k → d.p.ownBlock = some k ∨ w.heap.size ≤ k
set_option maxRecDepth 100000 in
set_option maxHeartbeats 2000000 in
theorem dput_any (d : DV) (b v : Nat) (s : List UInt8) (w : World) (h : d.In w) (hb : b < d.nb) (hf : Fits v s d.ns) (hl : d.pend.length ≤ 1000000) : Calls Try.prog 61 #[.agg #[d.ptr], .agg #[.int .i64 (b : Int), .int .u64 (v : Int), .string (tb s)]] w (PutP d b (packed v s d.ns) w) := by
  have HS := Lib.hid (fun wx (hx : Below w.heap.size w wx) => size_any d wx (h.keeps hx).toTop)
  have HPK := Lib.hid (fun wx => pack_any v (tb s) ((d.sz : Nat) : Int) wx hf.v1 (by rw [tb_size]; have := hf.s1; have := hf.k1; omega) (by omega) (by have := hf.k1; show ((d.ns * 64 : Nat) : Int) ≤ _; omega))
  have e1 : ((d.sz : Nat) : Int) = (d.ns : Int) * 64 := by show ((d.ns * 64 : Nat) : Int) = _; omega
  have e2 : packE v (tb s).size ((d.sz : Nat) : Int) = 0 := by rw [e1, tb_size]; exact packE_of hf
  have e3 : packT v (txt (tb s)) ((d.sz : Nat) : Int) = packed v s d.ns := by rw [e1, show txt (tb s) = s from tb_list s]; exact packT_of hf
  rw [e2, e3] at HPK
  have HW := Lib.hid (fun wx (hx : Below w.heap.size w wx) => (write_good d b (tb (packed v s d.ns)) wx (h.keeps hx) hb (by rw [tb_size, packed_length]; exact Nat.le_refl _) hl).mono (R' := PutP d b (packed v s d.ns) w) (by
    rintro e w' ⟨p, k1, k2, k3, k4⟩
    exact ⟨p, k1, k2, (Only.below hx _).trans k3, fun k hk => (k4 k hk).imp id (Nat.le_trans hx.size)⟩))
  obtain ⟨Q, hQ⟩ : ∃ Q, PutP d b (packed v s d.ns) w = Q := ⟨_, rfl⟩
  have HQ : ∀ e w', Q e w' → e = .returned (.int .i64 0) ∧ Q e w' := fun e w' hq => ⟨by rw [← hQ] at hq; obtain ⟨p, k1, -⟩ := hq; exact k1, hq⟩
  have HQQ := Lib.hid HQ
  rw [hQ] at HW ⊢
  clear hQ HQ h e1 e2 e3
  generalize tb (packed v s d.ns) = X at *
  generalize tb s = Z at *
  obtain ⟨sz, hsz⟩ : ∃ sz, d.sz = sz := ⟨_, rfl⟩
  rw [hsz] at HS HPK
  clear hsz hf hl
  have HN := Lib.hid (PutW.new w d.A b v Z)
  unfold DV.ptr at HS HW ⊢
  go_enter Try.func61, Try.ntmps61
  go_wp2_with fail
  obtain ⟨w2, hw2⟩ : ∃ w2, (w.alloc (.cells #[.pointer (some ⟨d.A, 0, none⟩)] 72)).alloc (.cells #[.int .i64 (b : Int), .int .u64 (v : Int), .string Z] 74) = w2 := ⟨_, rfl⟩
  rw [hw2] at HN ⊢
  clear hw2
  obtain ⟨w3, hw3⟩ : ∃ w3, w2.drew = w3 := ⟨_, rfl⟩
  have HN3 := Lib.hid (show PutW w d.A b v Z w3 from hw3 ▸ HN.out.below_ (Below.refl _ _).drew)
  clear HN
  have hHeld := And.intro (HN3.out.box.cell 0) (And.intro (HN3.out.held.cell 1) (HN3.out.held.cell 2))
  simp only [List.getElem?_cons_zero, List.getElem?_cons_succ] at hHeld
  try go_wp2_with fail
  refine wp_region_noPanic ?_
  refine wp_region_sch (fun wx => wx.cell? ⟨w.heap.size, 0, none⟩ = some (.pointer (some ⟨d.A, 0, none⟩)) ∧ wx.cell? ⟨w.heap.size + 1, 1, none⟩ = some (.int .u64 (v : Int)) ∧ wx.cell? ⟨w.heap.size + 1, 2, none⟩ = some (.string Z)) (fun i => [6, 7].contains i)
    (.takes [0, 1, 2, 3, 4, 5] (.run 6 (.run 7 (.takes [8, 9, 10, 11, 12] .done)))) (by kernel_rfl) (fun _ _ _ _ _ h => h) (by kernel_rfl) ?_
  rw [hw3]
  clear hw3
  iterate 6 (
    refine sch_takes_cons ?_
    first
      | (refine sch_take (v := ?_) rfl (by assumption) (by rfl) ?_ ?_; rotate_left; (focus (intro wy hSy; (try dsimp only at hSy); go_simp; (try with_reducible rfl))))
      | (refine sch_pass rfl (by assumption) (by rfl) ?_)
    simp only [Act.put, List.setIfInBounds_toArray, List.set_cons_zero, List.set_cons_succ])
  refine sch_takes_nil ?_
  refine sch_run rfl (fun K hK => ?_)
  go_simp
  with_reducible refine (HS.out _ HN3.out.below).mono ?_
  rintro e w4 ⟨rfl, rfl⟩
  refine hK.out _ _ (fun _ => hHeld) ?_
  clear hK K
  try simp only [Act.put, List.setIfInBounds_toArray, List.set_cons_zero, List.set_cons_succ]
  refine sch_run rfl (fun K hK => ?_)
  go_simp
  with_reducible refine (HPK.out _).mono ?_
  rintro e w5 ⟨rfl, hb5⟩
  have HN5 := Lib.hid (HN3.out.below_ hb5)
  have hHeld := And.intro (HN5.out.box.cell 0) (And.intro (HN5.out.held.cell 1) (HN5.out.held.cell 2))
  simp only [List.getElem?_cons_zero, List.getElem?_cons_succ] at hHeld
  clear hb5
  refine hK.out _ _ (fun _ => hHeld) ?_
  clear hK K
  try simp only [Act.put, List.setIfInBounds_toArray, List.set_cons_zero, List.set_cons_succ]
  iterate 5 (
    refine sch_takes_cons ?_
    first
      | (refine sch_take (v := ?_) rfl (by assumption) (by rfl) ?_ ?_; rotate_left; (focus (intro wy hSy; (try dsimp only at hSy); go_simp; (try with_reducible rfl))))
      | (refine sch_pass rfl (by assumption) (by rfl) ?_)
    simp only [Act.put, List.setIfInBounds_toArray, List.set_cons_zero, List.set_cons_succ])
  refine sch_takes_nil ?_
  refine sch_done ?_
  refine NoPanic.normal ?_
  clear hHeld HN3
  have c0 : w5.cell? ⟨w.heap.size, 0, none⟩ = some (.pointer (some ⟨d.A, 0, none⟩)) := HN5.out.box.cell 0
  have c1 : w5.cell? ⟨w.heap.size + 1, 0, none⟩ = some (.int .i64 (b : Int)) := HN5.out.held.cell 0
  go_wp2_with fail
  refine (HW.out w5 HN5.out.below).mono ?_
  rintro e w6 hq
  obtain ⟨rfl, hq2⟩ := HQQ.out e w6 hq
  have HF := Lib.hid hq2
  clear hq hq2 c0 c1
  go_wp2_with fail
  exact HF.out

set_option maxRecDepth 100000 in
set_option maxHeartbeats 1000000 in
theorem mopen_none (w : World) : Calls Try.prog 18 #[.pointer none] w fun e w' => e = .returned (.tuple #[.pointer none, .int .i64 1]) ∧ Below w.heap.size w w' := by
  have HP := Lib.hid (fun wx => mpair_none wx)
  unfold pairV at HP
  go_enter Try.func18, Try.ntmps18
  have x0 := (Row.new w 72 [.pointer none] (0, 0)).cell 0
  go_wp2_with fail
  refine (HP.out _).mono ?_
  rintro e w1 ⟨rfl, hb1⟩
  have HB := Lib.hid (((Below.refl w.heap.size w).alloc (Nat.le_refl _) (.cells #[.pointer none] 72)).trans (hb1.mono (by simp)))
  clear hb1 x0
  go_wp2_with fail
  go_ret2
  exact ⟨rfl, HB.out.alloc HB.out.size _⟩

set_option maxRecDepth 100000 in
set_option maxHeartbeats 1000000 in
theorem mopen_one (d : DV) (w : World) (h : d.In w) (h1 : d.nb = 1) : Calls Try.prog 18 #[d.ptr] w fun e w' => e = .returned (.tuple #[.pointer none, .int .i64 2]) ∧ Below w.heap.size w w' := by
  have HP := Lib.hid (fun wx (hx : Below w.heap.size w wx) => mpair_one d wx (h.keeps hx) h1)
  clear h
  unfold pairV DV.ptr at HP
  unfold DV.ptr
  go_enter Try.func18, Try.ntmps18
  have HB0 := Lib.hid ((Below.refl w.heap.size w).alloc (Nat.le_refl _) (.cells #[.pointer (some ⟨d.A, 0, none⟩)] 72))
  go_wp2_with fail
  refine (HP.out _ HB0.out).mono ?_
  rintro e w1 ⟨rfl, hb1⟩
  have HB := Lib.hid (HB0.out.trans (hb1.mono (by simp)))
  clear hb1
  go_wp2_with fail
  go_ret2
  exact ⟨rfl, HB.out.alloc HB.out.size _⟩

set_option maxRecDepth 100000 in
set_option maxHeartbeats 2000000 in
theorem mopen_any (d : DV) (w : World) (h : d.In w) (h2 : 2 ≤ d.nb) : Calls Try.prog 18 #[d.ptr] w fun e w' => ∃ A, e = .returned (.tuple #[.pointer (some ⟨A, 0, none⟩), .int .i64 0]) ∧ (MV.mk A d d.opened 0).In w' ∧ Below w.heap.size w w' ∧ w.heap.size ≤ A := by
  have hl0 : (d.bl 0).length ≤ 100000000 := by rw [bl_length h (by omega)]; have := h.ns2; omega
  have hl1 : (d.bl 1).length ≤ 100000000 := by rw [bl_length h (by omega)]; have := h.ns2; omega
  have HP := Lib.hid (fun wx (hx : Below w.heap.size w wx) => mpair_any d wx (h.keeps hx) h2)
  have HL := Lib.hid (fun wx => latest_any (d.bl 0) (d.bl 1) wx hl0 hl1)
  have hv : (best (d.bl 0) (d.bl 1)).v < 18446744073709551616 := by
    have h3 := best_top (d.bl 0) (d.bl 1)
    have := topP_lt (d.bl 0)
    have := topP_lt (d.bl 1)
    omega
  have HFIN := Lib.hid (show ∀ (A : Nat) (w' : World), Below w.heap.size w w' → Row w' A 76 [.pointer (some ⟨d.A, 0, none⟩), .int .i64 ((best (d.bl 0) (d.bl 1)).at_ : Int), .int .u64 ((best (d.bl 0) (d.bl 1)).v : Int), .string (tb (best (d.bl 0) (d.bl 1)).s), .int .i64 0, .int .u64 0, .string ⟨#[]⟩] (0, 0) → (MV.mk A d d.opened 0).In w' from fun A w' hb hr =>
    ⟨hr, h.keeps hb, h2, best_at _ _, hv, fun e => by cases e⟩)
  clear h hl0 hl1 hv
  unfold pairV DV.ptr at HP
  unfold pairV heldV at HL
  unfold DV.ptr
  obtain ⟨X, hX⟩ : ∃ X, best (d.bl 0) (d.bl 1) = X := ⟨_, rfl⟩
  rw [hX] at HL HFIN
  clear hX
  obtain ⟨a, ha⟩ : ∃ a, tb (d.bl 0) = a := ⟨_, rfl⟩
  obtain ⟨b, hb⟩ : ∃ b, tb (d.bl 1) = b := ⟨_, rfl⟩
  rw [ha, hb] at HL HP
  clear ha hb
  go_enter Try.func18, Try.ntmps18
  have HB0 := Lib.hid ((Below.refl w.heap.size w).alloc (Nat.le_refl _) (.cells #[.pointer (some ⟨d.A, 0, none⟩)] 72))
  have HR0 := Lib.hid (Row.new w 72 [.pointer (some ⟨d.A, 0, none⟩)] (0, 0))
  go_wp2_with fail
  refine (HP.out _ HB0.out).mono ?_
  rintro e w1 ⟨rfl, hb1⟩
  have HB := Lib.hid (HB0.out.trans (hb1.mono (by simp)))
  have HR1 := Lib.hid (HR0.out.below hb1 (by simp))
  clear hb1 HB0 HR0 HP
  have hB2 := HB.out.alloc HB.out.size (.cells #[.string a, .string b] 102)
  have hR2 := HR1.out.alloc (.cells #[.string a, .string b] 102)
  have hP2 := Row.new w1 102 [.string a, .string b] (0, 0)
  rw [show ([.string a, .string b] : List Value).toArray = #[.string a, .string b] from rfl] at hP2
  obtain ⟨w2, hw2⟩ : ∃ w2, (w1.alloc (.cells #[.string a, .string b] 102)) = w2 := ⟨_, rfl⟩
  rw [hw2] at hB2 hR2 hP2
  obtain ⟨w3, hw3⟩ : ∃ w3, w2.drew = w3 := ⟨_, rfl⟩
  have HB3 := Lib.hid (show Below w.heap.size w w3 from hw3 ▸ drewP hB2)
  have HR3 := Lib.hid (show Row w3 w.heap.size 72 [.pointer (some ⟨d.A, 0, none⟩)] (0, 0) from hw3 ▸ hR2)
  have HP3 := Lib.hid (show Row w3 w1.heap.size 102 [.string a, .string b] (0, 0) from hw3 ▸ hP2)
  obtain ⟨g, hg⟩ : ∃ g, w1.heap.size = g := ⟨_, rfl⟩
  have HW2 := Lib.hid hw2
  have HG := Lib.hid hg
  have HW3 := Lib.hid hw3
  rw [hg] at HP3
  clear hB2 hR2 hP2 hw2 hw3 hg HB HR1
  have hHeld := And.intro (HR3.out.cell 0) (And.intro (HP3.out.cell 0) (HP3.out.cell 1))
  simp only [List.getElem?_cons_zero, List.getElem?_cons_succ] at hHeld
  go_wp2_with fail
  rw [HW2.out, HG.out]
  refine wp_region_noPanic ?_
  refine wp_region_sch (fun wx => wx.cell? ⟨w.heap.size, 0, none⟩ = some (.pointer (some ⟨d.A, 0, none⟩)) ∧ wx.cell? ⟨g, 0, none⟩ = some (.string a) ∧ wx.cell? ⟨g, 1, none⟩ = some (.string b)) (fun i => [2, 4].contains i)
    (.takes [0, 1] (.run 2 (.takes [3] (.run 4 (.takes [5, 6] .done))))) (by kernel_rfl) (fun _ _ _ _ _ h => h) (by kernel_rfl) ?_
  rw [HW3.out]
  iterate 2 (
    refine sch_takes_cons ?_
    first
      | (refine sch_take (v := ?_) rfl (by assumption) (by rfl) ?_ ?_; rotate_left; (focus (intro wy hSy; (try dsimp only at hSy); go_simp; (try with_reducible rfl))))
      | (refine sch_pass rfl (by assumption) (by rfl) ?_)
    simp only [Act.put, List.setIfInBounds_toArray, List.set_cons_zero, List.set_cons_succ])
  refine sch_takes_nil ?_
  refine sch_run rfl (fun K hK => ?_)
  go_simp
  with_reducible refine (HL.out _).mono ?_
  rintro e w4 ⟨rfl, hb4⟩
  have HB4 := Lib.hid (HB3.out.trans (hb4.mono HB3.out.size))
  have HR4 := Lib.hid (HR3.out.below hb4 HR3.out.lt)
  have HP4 := Lib.hid (HP3.out.below hb4 HP3.out.lt)
  have hHeld := And.intro (HR4.out.cell 0) (And.intro (HP4.out.cell 0) (HP4.out.cell 1))
  simp only [List.getElem?_cons_zero, List.getElem?_cons_succ] at hHeld
  clear hb4
  refine hK.out _ _ (fun _ => hHeld) ?_
  clear hK K
  try simp only [Act.put, List.setIfInBounds_toArray, List.set_cons_zero, List.set_cons_succ]
  refine sch_takes_cons ?_
  first
    | (refine sch_take (v := ?_) rfl (by assumption) (by rfl) ?_ ?_; rotate_left; (focus (intro wy hSy; (try dsimp only at hSy); go_simp; (try with_reducible rfl))))
    | (refine sch_pass rfl (by assumption) (by rfl) ?_)
  simp only [Act.put, List.setIfInBounds_toArray, List.set_cons_zero, List.set_cons_succ]
  refine sch_takes_nil ?_
  refine sch_run rfl (fun K hK => ?_)
  go_simp
  have HB5 := Lib.hid (HB4.out.alloc HB4.out.size (.cells #[.pointer (some ⟨d.A, 0, none⟩), .int .i64 (X.at_ : Int), .int .u64 (X.v : Int), .string (tb X.s), .int .i64 0, .int .u64 0, .string ⟨#[]⟩] 76))
  have HM5 := Lib.hid (Row.new w4 76 [.pointer (some ⟨d.A, 0, none⟩), .int .i64 (X.at_ : Int), .int .u64 (X.v : Int), .string (tb X.s), .int .i64 0, .int .u64 0, .string ⟨#[]⟩] (0, 0))
  have HX5 := Lib.hid (HR4.out.alloc (.cells #[.pointer (some ⟨d.A, 0, none⟩), .int .i64 (X.at_ : Int), .int .u64 (X.v : Int), .string (tb X.s), .int .i64 0, .int .u64 0, .string ⟨#[]⟩] 76))
  have HY5 := Lib.hid (HP4.out.alloc (.cells #[.pointer (some ⟨d.A, 0, none⟩), .int .i64 (X.at_ : Int), .int .u64 (X.v : Int), .string (tb X.s), .int .i64 0, .int .u64 0, .string ⟨#[]⟩] 76))
  rw [show ([.pointer (some ⟨d.A, 0, none⟩), .int .i64 (X.at_ : Int), .int .u64 (X.v : Int), .string (tb X.s), .int .i64 0, .int .u64 0, .string ⟨#[]⟩] : List Value).toArray = #[.pointer (some ⟨d.A, 0, none⟩), .int .i64 (X.at_ : Int), .int .u64 (X.v : Int), .string (tb X.s), .int .i64 0, .int .u64 0, .string ⟨#[]⟩] from rfl] at HM5
  obtain ⟨w5, hw5⟩ : ∃ w5, w4.alloc (.cells #[.pointer (some ⟨d.A, 0, none⟩), .int .i64 (X.at_ : Int), .int .u64 (X.v : Int), .string (tb X.s), .int .i64 0, .int .u64 0, .string ⟨#[]⟩] 76) = w5 := ⟨_, rfl⟩
  rw [hw5] at HB5 HM5 HX5 HY5 ⊢
  have hHeld := And.intro (HX5.out.cell 0) (And.intro (HY5.out.cell 0) (HY5.out.cell 1))
  simp only [List.getElem?_cons_zero, List.getElem?_cons_succ] at hHeld
  clear hw5
  refine hK.out _ _ (fun _ => hHeld) ?_
  clear hK K
  try simp only [Act.put, List.setIfInBounds_toArray, List.set_cons_zero, List.set_cons_succ]
  iterate 2 (
    refine sch_takes_cons ?_
    first
      | (refine sch_take (v := ?_) rfl (by assumption) (by rfl) ?_ ?_; rotate_left; (focus (intro wy hSy; (try dsimp only at hSy); go_simp; (try with_reducible rfl))))
      | (refine sch_pass rfl (by assumption) (by rfl) ?_)
    simp only [Act.put, List.setIfInBounds_toArray, List.set_cons_zero, List.set_cons_succ])
  refine sch_takes_nil ?_
  refine sch_done ?_
  refine NoPanic.normal ?_
  clear hHeld
  have HE := Lib.hid (HFIN.out w4.heap.size w5 HB5.out HM5.out)
  have HS4 := Lib.hid HB4.out.size
  go_wp2_with fail
  go_ret2
  exact ⟨_, rfl, HE.out, HB5.out, HS4.out⟩
end Go.Proofs.Ytnmfgmlmjbfdcaa
