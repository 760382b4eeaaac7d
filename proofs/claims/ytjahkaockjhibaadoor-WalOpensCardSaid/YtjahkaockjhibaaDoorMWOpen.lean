/-
  Opening a log, in plain words.
-/
import Derived.Test.YtjahkaockjhibaaDoorMWDoc
import Derived.Test.YtjahkaockjhibaaDoorMWRef
import Derived.Test.YtjahkaockjhibaaDoorMTapB
namespace Go.Proofs.YtjahkaockjhibaaDoor
open Go.RowKit

theorem logRead_is {b : List UInt8} {m : List Ent} {n : Nat} (h : logRead b = some (m, n)) :
    n ≤ b.length ∧ b.take n = logB m ∧ (∀ e ∈ m, e.n ≠ 0 ∧ e.n ≤ 281474976710656 ∧ e.d.length ≤ 262136) ∧ (∀ e, m.head? = some e → Row1 e.n m) := by
  unfold logRead at h
  split at h
  · cases h
  · obtain ⟨m', hm, he⟩ := Option.map_eq_some_iff.1 h
    simp only [Prod.mk.injEq] at he
    obtain ⟨rfl, rfl⟩ := he
    obtain ⟨h1, h2, h3, h4⟩ := entsOf_rec hm
    obtain ⟨t1, _, _, t4⟩ := scan_takes _ b (Nat.le_refl _)
    refine ⟨t1, ?_, fun e he => ⟨(h2 e he).1, (h2 e he).2, ?_⟩, h4⟩
    · rw [scan_prefix _ b (Nat.le_refl _), h1]; rfl
    · have := t4 (recE e) (by rw [h1]; exact List.mem_map_of_mem he)
      rw [recE_len] at this
      omega
/-- The last number of records, or another if there are none. -/
def lastOr (k : Nat) (m : List Ent) : Nat := if m = [] then k else lastN m
def openAt (s : ST) (m : List Ent) (n least : Nat) : LG := ⟨(s.shorten (s.base + n)).force, m, lastOr least m, lastOr least m⟩
/-- The log that a tape bears, if it bears one. -/
def opens (s : ST) (least : Nat) : Option LG := match logRead s.l with
  | none => none
  | some (m, n) => if least ≤ 281474976710656 ∧ (m = [] ∨ least ≤ lastN m) then some (openAt s m n least) else none
theorem lastN_at {m : List Ent} (h : m ≠ []) : lastN m = (m[m.length - 1]'(by have := List.length_pos_iff.2 h; omega)).n := by
  have := List.length_pos_iff.2 h
  unfold lastN
  rw [List.getLast?_eq_getElem?, List.getElem?_eq_getElem (by omega)]
  rfl
theorem openAt_ok {s : ST} {m : List Ent} {n least : Nat} (hs : s.Ok) (h : logRead s.l = some (m, n)) (hl : least ≤ 281474976710656) : (openAt s m n least).Ok := by
  obtain ⟨h1, h2, h3, h4⟩ := logRead_is h
  have hsh : (s.shorten (s.base + n)).Ok ∧ (s.shorten (s.base + n)).fin = s.base + n := hs.shorten (Nat.le_add_right _ _) (by unfold ST.fin; omega)
  have hrow : m ≠ [] → Row1 (lastN m + 1 - m.length) m ∧ m.length ≤ lastN m ∧ lastN m ≤ 281474976710656 := by
    intro hm
    cases m with
    | nil => exact absurd rfl hm
    | cons x l =>
      have hr := h4 x rfl
      have e1 := lastN_at hm
      have e2 := row1_get hr ((x :: l).length - 1) (by simp)
      have hx := (h3 x (by simp)).1
      have hlen : (x :: l).length = l.length + 1 := rfl
      rw [e2] at e1
      have e3 : lastN (x :: l) + 1 - (x :: l).length = x.n := by omega
      refine ⟨by rw [e3]; exact hr, by omega, ?_⟩
      rw [e1, ← e2]
      exact (h3 _ (List.getElem_mem _)).2.1
  have hb : s.l.take (s.base + n - s.base) = logB m := by rw [Nat.add_sub_cancel_left]; exact h2
  refine { st := hsh.1.force, bytes := hb, row := ?_, le := ?_, max := ?_, stb := Nat.le_refl _, sure := ?_, dat := fun e he => (h3 e he).2.2 }
  · show Row1 (lastOr least m + 1 - m.length) m
    unfold lastOr
    split
    · rename_i hm; subst hm; trivial
    · rename_i hm; exact (hrow hm).1
  · show m.length ≤ lastOr least m
    unfold lastOr
    split
    · rename_i hm; subst hm; exact Nat.zero_le _
    · rename_i hm; exact (hrow hm).2.1
  · show lastOr least m ≤ _
    unfold lastOr
    split
    · exact hl
    · rename_i hm; exact (hrow hm).2.2
  · have e : (openAt s m n least).sured = m.length := by
      show m.length - (lastOr least m - lastOr least m) = _
      omega
    rw [e]
    show s.base + (s.l.take (s.base + n - s.base)).length = s.base + (logB (m.take m.length)).length
    rw [hb, List.take_length]
theorem opens_ok {s : ST} {least : Nat} {g : LG} (hs : s.Ok) (h : opens s least = some g) : g.Ok := by
  unfold opens at h
  split at h
  · cases h
  · rename_i m n hm
    split at h
    · rename_i hc
      injection h with h
      subst h
      exact openAt_ok hs hm hc.1
    · cases h
theorem opens_none {s : ST} {least : Nat} (h : logRead s.l = none) : opens s least = none := by unfold opens; rw [h]
theorem opens_bad {s : ST} {least : Nat} {m : List Ent} {n : Nat} (h : logRead s.l = some (m, n)) (hc : ¬ (least ≤ 281474976710656 ∧ (m = [] ∨ least ≤ lastN m))) : opens s least = none := by unfold opens; rw [h]; exact if_neg hc
theorem opens_some {s : ST} {least : Nat} {m : List Ent} {n : Nat} (h : logRead s.l = some (m, n)) (hc : least ≤ 281474976710656 ∧ (m = [] ∨ least ≤ lastN m)) : opens s least = some (openAt s m n least) := by unfold opens; rw [h]; exact if_pos hc
/-- A log's own bytes are read as it. -/
theorem extract_tb (a : ByteArray) (i : Nat) : a.extract i a.size = tb ((txt a).drop i) := by
  apply txt_inj
  rw [txt_extract, List.take_of_length_le (by rw [txt_length]; exact Nat.le_refl _)]
  simp [txt, tb]
end Go.Proofs.YtjahkaockjhibaaDoor

/-
  The document's log: Open.
-/
namespace Go.Proofs.YtjahkaockjhibaaDoor
open Go.RowKit

/-- What Open hands back. -/
def ROpenV (T : Nat) (r : RT) (least : Nat) (w : World) (e : Ending) (w' : World) : Prop :=
  (opens r.st least = none ∧ e = .returned (.tuple #[.pointer none, .int .i64 80]) ∧ Below w.heap.size w w') ∨
  ∃ d : RL, opens r.st least = some d.g ∧ d.T = T ∧ e = .returned (.tuple #[d.ptr, .int .i64 0]) ∧ d.In w' ∧ Only (· = T) w w' ∧ w.heap.size ≤ d.B ∧ ∀ k, blk d.A = some k → w.heap.size ≤ k

/-- What read hands back, its three results as letters. -/
theorem rread8_parts {b : List UInt8} {w w' : World} {e : Ending} (h : RReadV b w e w') : ∃ v0 v1 v2 : Value, e = .returned (.tuple #[v0, v1, v2]) ∧ Below w.heap.size w w' ∧
    ((logRead b = none ∧ v0 = .slice none 0 0 ∧ v1 = .int .i64 0 ∧ v2 = .bool false) ∨ ∃ (m : List Ent) (n : Nat) (A : Option Addr) (c : Nat), logRead b = some (m, n) ∧ v0 = .slice A m.length c ∧ v1 = .int .i64 (n : Int) ∧ v2 = .bool true ∧ GrE w m (.slice A m.length c) w') := by
  rcases h with ⟨h1, rfl, h2⟩ | ⟨m, n, A, c, h1, rfl, h2, _, _⟩
  · exact ⟨_, _, _, rfl, h2, .inl ⟨h1, rfl, rfl, rfl⟩⟩
  · exact ⟨_, _, _, rfl, h2.2, .inr ⟨m, n, A, c, h1, rfl, rfl, rfl, h2⟩⟩

/-- What stands behind it. -/
theorem rwopen_set {T : Nat} {r r1 r2 : RT} {least : Nat} {w wd w1 w2 w3 W : World} {m : List Ent} {n c : Nat} {A : Option Addr} (h : RIn T r w) (hd : Below w.heap.size w wd)
    (hm : logRead r.st.l = some (m, n)) (hg : GrE wd m (.slice A m.length c) w1) (hc : least ≤ 281474976710656 ∧ (m = [] ∨ least ≤ lastN m))
    (h1 : r1.st = r.st.cut (r.st.base + n)) (o1 : Only (· = T) w1 w2) (i2 : RIn T r2 w3) (h2 : r2.st = r1.st.force) (o2 : Only (· = T) w2 w3)
    (hW : W = w3.alloc (.cells #[rptr T, .slice A m.length c, .int .u64 ((lastOr least m : Nat) : Int), .int .u64 ((lastOr least m : Nat) : Int)] 95)) :
    ROpenV T r least w (.returned (.tuple #[.pointer (some ⟨w3.heap.size, 0, none⟩), .int .i64 0])) W := by
  subst hW
  have hsz : w.heap.size ≤ w3.heap.size := Nat.le_trans hd.size (Nat.le_trans hg.2.size (Nat.le_trans o1.size o2.size))
  have hT := h.row.lt
  have hfr := hg.fresh
  have hst : r2.st = (openAt r.st m n least).st := by
    rw [h2, h1]
    have hcu : r.st.cuts (r.st.base + n) := ⟨Nat.le_add_right _ _, by have := (logRead_is hm).1; unfold ST.fin; omega⟩
    rw [show r.st.cut (r.st.base + n) = r.st.shorten (r.st.base + n) from if_pos hcu]
    rfl
  have hne : ∀ k, blk A = some k → ¬ k = T := fun k hk e => by
    cases A with
    | none => cases hk
    | some ad =>
      have := hfr ad rfl
      have := hd.size
      simp only [blk, Option.map_some, Option.some.injEq] at hk
      omega
  refine .inr ⟨⟨w3.heap.size, T, r2, A, c, openAt r.st m n least⟩, opens_some hm hc, rfl, rfl, ⟨?_, ?_, hst, ?_, openAt_ok h.ok.ok hm hc.1⟩, ?_, hsz, fun k hk => ?_⟩
  · exact Row.new w3 95 [rptr T, .slice A m.length c, .int .u64 ((lastOr least m : Nat) : Int), .int .u64 ((lastOr least m : Nat) : Int)] (0, 0)
  · exact i2.keeps ((Below.refl _ _).alloc (Nat.le_refl _) _)
  · exact (((OwnE.of_gr hg).only o1 hne).only o2 hne).keeps ((Below.refl _ _).alloc (Nat.le_refl _) _)
  · exact (((Only.below hd (· = T)).trans (Only.below (hg.2.mono (Nat.le_refl _)) (· = T))).trans o1 |>.trans o2).alloc _
  · cases A with
    | none => cases hk
    | some ad =>
      have := hfr ad rfl
      have := hd.size
      simp only [blk, Option.map_some, Option.some.injEq] at hk
      omega

set_option maxRecDepth 100000 in
set_option maxHeartbeats 4000000 in
theorem rwopen_any (T : Nat) (r : RT) (least : Nat) (w : World) (h : RIn T r w) (hb : r.st.l.length ≤ 30000) (hl64 : least < 18446744073709551616) :
    Calls Tryd.prog 12 #[rptr T, .int .u64 (least : Int)] w (ROpenV T r least w) := by
  obtain ⟨wd, hwd⟩ : ∃ wd, w.drew = wd := ⟨_, rfl⟩
  have hbd : Below w.heap.size w wd := hwd ▸ (Below.refl _ _).drew
  have HBD := Lib.hid hbd
  have HIN := Lib.hid h
  have hba := h.ok.ba
  have hsz : r.all.size ≤ 100000000 := h.ok.small
  have HRD := Lib.hid (show Calls Tryd.prog 43 #[.string (r.all.extract r.base r.all.size)] wd (RReadV r.st.l wd) from by
    rw [extract_tb]; exact rread8_any r.st.l wd hb)
  have HCUT := Lib.hid (fun w1 (hb : Below w.heap.size w w1) (p : Nat) (hp : p < 18446744073709551616) => rcut_any T r w1 p (h.keeps hb) hp)
  have HFO := Lib.hid (fun w1 r1 (h1 : RIn T r1 w1) => rforce_any T r1 w1 h1)
  have HSET := Lib.hid (fun r1 r2 w1 w2 w3 W m n c A hm hg hc h1 o1 i2 h2 o2 hW => rwopen_set (r1 := r1) (r2 := r2) (w1 := w1) (w2 := w2) (w3 := w3) (W := W) (m := m) (n := n) (c := c) (A := A) (least := least) h hbd hm hg hc h1 o1 i2 h2 o2 hW)
  have HNO := Lib.hid (show ∀ w', opens r.st least = none → Below w.heap.size w w' → ROpenV T r least w (.returned (.tuple #[.pointer none, .int .i64 80])) w' from fun w' h1 h2 => .inl ⟨h1, rfl, h2⟩)
  have hbase : r.st.base = r.base := rfl
  have hnl : ∀ m n, logRead r.st.l = some (m, n) → n ≤ 30000 ∧ (∀ e ∈ m, e.n ≤ 281474976710656) := fun m n hm => ⟨by have := (logRead_is hm).1; omega, fun e he => ((logRead_is hm).2.2.1 e he).2.1⟩
  have HNL := Lib.hid hnl
  have HCT := Lib.hid (show ∀ m n, logRead r.st.l = some (m, n) → m.length ≤ 5000000 from fun m n hm => by
    have h1 := logB_many m
    rw [← (logRead_is hm).2.1, List.length_take] at h1
    omega)
  have HKS := Lib.hid (show ∀ wx, Below wd.heap.size wd wx → wx.cell? ⟨T, 1, none⟩ = some (.string r.all) ∧ wx.cell? ⟨T, 2, none⟩ = some (.int .i64 (r.base : Int)) from fun wx hb => by
    have k := h.keeps (hbd.trans (hb.mono hbd.size))
    exact ⟨k.c1, k.c2⟩)
  have hHeld := HKS.out wd (Below.refl _ _)
  obtain ⟨Q, hQ⟩ : ∃ Q, ROpenV T r least w = Q := ⟨_, rfl⟩
  simp only [hQ] at HSET HNO ⊢
  clear h hbd hQ hb hnl
  unfold rptr at HCUT HFO HSET ⊢
  go_enter Tryd.func12, Tryd.ntmps12
  go_wp2_with fail
  refine wp_region_noPanic ?_
  refine wp_region_sch (fun wx => wx.cell? ⟨T, 1, none⟩ = some (.string r.all) ∧ wx.cell? ⟨T, 2, none⟩ = some (.int .i64 (r.base : Int))) (fun i => [9].contains i)
    (.takes [0, 1, 2, 3, 4, 5, 6, 7, 8] (.run 9 (.takes [10, 11, 12, 13, 14, 15, 16] .done))) (by kernel_rfl) (fun _ _ _ _ _ h => h) (by kernel_rfl) ?_
  rw [hwd]
  clear hwd
  iterate 9 (
    refine sch_takes_cons ?_
    first
      | (refine sch_take (v := ?_) rfl (by assumption) (by rfl) ?_ ?_; rotate_left; (focus (intro wy hSy; (try dsimp only at hSy); go_simp; (try with_reducible rfl))))
      | (refine sch_pass rfl (by assumption) (by rfl) ?_)
    simp only [Act.put, List.setIfInBounds_toArray, List.set_cons_zero, List.set_cons_succ])
  refine sch_takes_nil ?_
  refine sch_run rfl (fun K hK => ?_)
  go_simp
  with_reducible refine (HRD.out).mono ?_
  intro e w1 hrv
  obtain ⟨v0, v1, v2, rfl, hb1, hdis⟩ := rread8_parts hrv
  have hHeld := HKS.out w1 hb1
  clear hrv
  try dsimp only
  refine hK.out _ _ (fun _ => hHeld) ?_
  clear hK K
  try simp only [Act.put, List.setIfInBounds_toArray, List.set_cons_zero, List.set_cons_succ]
  iterate 7 (
    refine sch_takes_cons ?_
    first
      | (refine sch_take (v := ?_) rfl (by assumption) (by rfl) ?_ ?_; rotate_left; (focus (intro wy hSy; (try dsimp only at hSy); go_simp; (try with_reducible rfl))))
      | (refine sch_pass rfl (by assumption) (by rfl) ?_)
    simp only [Act.put, List.setIfInBounds_toArray, List.set_cons_zero, List.set_cons_succ])
  refine sch_takes_nil ?_
  refine sch_done ?_
  refine NoPanic.normal ?_
  have HB1 := Lib.hid (HBD.out.trans (hb1.mono HBD.out.size))
  rcases hdis with ⟨hn, rfl, rfl, rfl⟩ | ⟨m, n, A, c, hm, rfl, rfl, rfl, hg⟩
  · have HE := Lib.hid (HNO.out w1 (opens_none hn) HB1.out)
    clear HNO HSET HCUT HFO HRD hHeld hb1 HKS
    go_wp2
    exact HE.out
  · obtain ⟨hn3, hmn⟩ := HNL.out m n hm
    have HG := Lib.hid hg
    by_cases hl : least ≤ 281474976710656
    · have hlI : ¬ (281474976710656 : Int) < (least : Int) := by omega
      by_cases hm0 : m = []
      · subst hm0
        have HS1 := Lib.hid (fun r1 r2 w2 w3 W => HSET.out r1 r2 w1 w2 w3 W [] n c A hm hg ⟨hl, .inl rfl⟩)
        simp only [List.length_nil, show lastOr least [] = least from if_pos rfl] at HS1 ⊢
        clear HNO HSET HRD hHeld hb1 HKS hm hg HG hmn HNL hl
        obtain ⟨p, hp⟩ : ∃ p, r.base + n = p := ⟨_, rfl⟩
        have hpi : IntKind.i64.wrap ((r.base : Int) + (n : Int)) = (p : Int) := by rw [IntWalk.i64_in _ (by omega)]; omega
        have hpu : IntKind.u64.wrap (p : Int) = (p : Int) := IntWalk.u64_in _ (by omega)
        have HCU := Lib.hid (HCUT.out w1 HB1.out p (by omega))
        rw [hbase, hp] at HS1
        have hc2 := (HIN.out.keeps HB1.out).c2
        clear hp HCUT
        go_wp2_with fail
        refine HCU.out.mono ?_
        rintro e w2 ⟨he, r1, hr1, hst1, ho1⟩
        obtain ⟨ve, he'⟩ : ∃ ve, e = .returned ve := ⟨_, he⟩
        clear he
        subst he'
        go_wp2_with fail
        refine (HFO.out w2 r1 hr1).mono ?_
        rintro e w3 ⟨rfl, r2, hr2, hst2, ho2⟩
        have HS2 := Lib.hid (fun W => HS1.out r1 r2 w2 w3 W hst1 ho1 hr2 hst2 ho2)
        clear HS1 HCU HFO hr1 hst1 hr2 hst2
        go_wp2
        exact HS2.out _ rfl
      · have hlen : 0 < m.length := List.length_pos_iff.2 hm0
        have hlenI : (0 : Int) < (m.length : Int) := by omega
        obtain ⟨g, off, hA, hgl, d1, d2, d3⟩ := hg.ents_of rfl (m.length - 1) (by omega)
        clear d2 d3
        rw [← lastN_at hm0] at d1
        have KX := Lib.hid (show ∀ w2 w3 (o : Obj), Only (· = T) w1 w2 → Only (· = T) w2 w3 → (w3.alloc o).cell? ⟨g, off + (m.length - 1) * 3, none⟩ = some (.int .u64 (lastN m : Int)) from fun w2 w3 o o1 o2 => by
          have hne : ¬ g = T := fun e => by
            have := hg.fresh _ hA
            have := HIN.out.row.lt
            have := HBD.out.size
            simp only at *
            omega
          have b1 : w2.heap[g]? = w1.heap[g]? := o1.block g hgl hne
          have b2 : w3.heap[g]? = w2.heap[g]? := o2.block g (Nat.lt_of_lt_of_le hgl o1.size) hne
          have b3 : (w3.alloc o).heap[g]? = w3.heap[g]? := heap_alloc_old w3 o (Nat.lt_of_lt_of_le hgl (Nat.le_trans o1.size o2.size))
          rw [← d1]
          unfold World.cell?
          simp only [b1, b2, b3])
        have hLmax : lastN m ≤ 281474976710656 := by rw [lastN_at hm0]; exact hmn _ (List.getElem_mem _)
        obtain ⟨len', hl'⟩ : ∃ len', m.length - 1 = len' := ⟨_, rfl⟩
        have wk1 : IntKind.i64.wrap ((m.length : Int) - 1) = (len' : Int) := by rw [IntWalk.i64_in _ (by have := HCT.out m n hm; omega)]; omega
        have hlI2 : (len' : Int) < (m.length : Int) := by omega
        rw [hl'] at d1 KX
        by_cases hle : least ≤ lastN m
        · have hleI : ¬ (lastN m : Int) < (least : Int) := by omega
          have HS1 := Lib.hid (fun r1 r2 w2 w3 W => HSET.out r1 r2 w1 w2 w3 W m n c A hm hg ⟨hl, .inr hle⟩)
          simp only [show lastOr least m = lastN m from if_neg hm0] at HS1
          subst hA
          clear HNO HSET HRD hHeld hb1 HKS hm hg HG hmn HNL hl hm0 hlen hl' hle HCT
          generalize lastN m = L at *
          obtain ⟨p, hp⟩ : ∃ p, r.base + n = p := ⟨_, rfl⟩
          have hpi : IntKind.i64.wrap ((r.base : Int) + (n : Int)) = (p : Int) := by rw [IntWalk.i64_in _ (by omega)]; omega
          have hpu : IntKind.u64.wrap (p : Int) = (p : Int) := IntWalk.u64_in _ (by omega)
          have HCU := Lib.hid (HCUT.out w1 HB1.out p (by omega))
          rw [hbase, hp] at HS1
          have hc2 := (HIN.out.keeps HB1.out).c2
          clear hp HCUT
          go_wp2_with fail
          refine HCU.out.mono ?_
          rintro e w2 ⟨he, r1, hr1, hst1, ho1⟩
          obtain ⟨ve, he'⟩ : ∃ ve, e = .returned ve := ⟨_, he⟩
          clear he
          subst he'
          go_wp2_with fail
          refine (HFO.out w2 r1 hr1).mono ?_
          rintro e w3 ⟨rfl, r2, hr2, hst2, ho2⟩
          have HS2 := Lib.hid (fun W => HS1.out r1 r2 w2 w3 W hst1 ho1 hr2 hst2 ho2)
          have y1 := KX.out w2 w3 (.cells #[.pointer (some ⟨T, 0, none⟩), .slice (some ⟨g, off, none⟩) m.length c, .int .u64 (least : Int), .int .u64 0] 95) ho1 ho2
          clear HS1 HCU HFO hr1 hst1 hr2 hst2
          go_wp2
          exact HS2.out _ rfl
        · have hleI : (lastN m : Int) < (least : Int) := by omega
          have HE := Lib.hid (HNO.out w1 (opens_bad hm (fun hc => hc.2.elim hm0 hle)) HB1.out)
          subst hA
          clear HNO HSET HCUT HFO HRD hHeld hb1 HKS hm hg HG hmn HNL hl hm0 hlen hl' hle HCT
          generalize lastN m = L at *
          go_wp2
          exact HE.out
    · have hlI : (281474976710656 : Int) < (least : Int) := by omega
      have HE := Lib.hid (HNO.out w1 (opens_bad hm (fun hc => hl hc.1)) HB1.out)
      clear HNO HSET HCUT HFO HRD hHeld hb1 HKS hm hg HG hmn HNL
      go_wp2
      exact HE.out
end Go.Proofs.YtjahkaockjhibaaDoor

/-
  Behind a failure of the tape, in plain words; what is told behind a Trim.
-/
namespace Go.Proofs.YtjahkaockjhibaaDoor
open Go.RowKit

theorem LG.Ok.pos {g : LG} (h : g.Ok) : ∀ e ∈ g.l, e.n ≠ 0 ∧ e.n ≤ 281474976710656 := by
  intro e he
  obtain ⟨i, hi, rfl⟩ := List.getElem_of_mem he
  have h1 := h.num i hi
  have h2 := h.le
  exact ⟨by omega, h1.2⟩
theorem LG.Ok.fit {g : LG} (h : g.Ok) : Fit (g.l.map recE) := by
  intro r hr
  obtain ⟨e, he, rfl⟩ := List.mem_map.1 hr
  rw [recE_len]
  have := h.dat e he
  omega
/-- A beginning of a log's bytes is read as a beginning of the log, which has all that the bytes have whole. -/
theorem logRead_cut {g : LG} (h : g.Ok) (k : Nat) (hk : k ≤ (logB g.l).length) : ∃ j n, j ≤ g.l.length ∧ logRead ((logB g.l).take k) = some (g.l.take j, n) ∧ ∀ i, i ≤ g.l.length → (logB (g.l.take i)).length ≤ k → i ≤ j := by
  obtain ⟨j, hj, h1, h2⟩ := scan_cut (g.l.map recE) h.fit k hk
  rw [List.length_map] at hj
  refine ⟨j, _, hj, logRead_some h2 ?_, fun i hi hik => ?_⟩
  · show entsOf 0 (scan ((logB g.l).take k)).1 = _
    unfold logB
    rw [h1, ← List.map_take]
    refine entsOf_map (fun e he => h.pos e (List.mem_of_mem_take he)) (fun _ e he => ?_) (fun h0 => absurd rfl h0)
    have hr := row1_take h.row j
    cases hl : g.l.take j with
    | nil => rw [hl] at he; cases he
    | cons x l =>
      rw [hl] at hr he
      simp only [List.head?_cons, Option.some.injEq] at he
      subst he
      have : x.n = g.last + 1 - g.l.length := hr.1
      rw [this]
      exact hr
  · have e1 : (logB g.l).take k = logB (g.l.take i) ++ ((logB g.l).take k).drop (logB (g.l.take i)).length := by
      have e2 : logB g.l = logB (g.l.take i) ++ logB (g.l.drop i) := by rw [← logB_app, List.take_append_drop]
      have e3 : ((logB g.l).take k).take (logB (g.l.take i)).length = logB (g.l.take i) := by
        rw [List.take_take, Nat.min_eq_left hik, e2, List.take_left]
      conv => lhs; rw [← List.take_append_drop (logB (g.l.take i)).length ((logB g.l).take k), e3]
    have hfi : Fit ((g.l.take i).map recE) := fun r hr => by
      rw [List.map_take] at hr
      exact h.fit r (List.mem_of_mem_take hr)
    have e4 := scan_all ((g.l.take i).map recE) hfi (((logB g.l).take k).drop (logB (g.l.take i)).length)
    have e5 : (scan ((logB g.l).take k)).1 = (g.l.take i).map recE ++ (scan (((logB g.l).take k).drop (logB (g.l.take i)).length)).1 := by
      conv => lhs; rw [e1]
      show (scan (allR ((g.l.take i).map recE) ++ _)).1 = _
      rw [e4]
    have e6 : (scan ((logB g.l).take k)).1 = (g.l.map recE).take j := h1
    rw [e6] at e5
    have e7 := congrArg List.length e5
    rw [List.length_append, List.length_take, List.length_map, List.length_map, List.length_take] at e7
    omega
/-- Behind a failure: the log that a new Open tells, of the number that was stable. -/
theorem crash_opens {g : LG} (h : g.Ok) (keep : Int) : ∃ j g', g.sured ≤ j ∧ j ≤ g.l.length ∧ opens (g.st.crash keep) g.stable = some g' ∧ g'.l = g.l.take j ∧ g'.stable = g'.last ∧ g.stable ≤ g'.last ∧ g'.last ≤ g.last := by
  have hb := h.bytes
  have hsu := h.sure
  have hbs := h.st.bs
  have hsf := h.st.sf
  have hkl := g.st.kept_le keep
  obtain ⟨k, hk⟩ : ∃ k, g.st.sure + g.st.kept keep - g.st.base = k := ⟨_, rfl⟩
  have hl : (g.st.crash keep).l = (logB g.l).take k := by
    show g.st.l.take _ = _
    rw [hb, hk]
  have hkn : k ≤ (logB g.l).length := by
    unfold ST.fin at hkl hsf
    rw [hb] at hkl hsf
    omega
  obtain ⟨j, n, hj, hrd, hall⟩ := logRead_cut h k hkn
  have hsl : g.sured ≤ g.l.length := Nat.sub_le _ _
  have hsj : g.sured ≤ j := hall g.sured hsl (by omega)
  have hle := h.le
  have hst := h.stb
  have hmx := h.max
  have hsd : g.sured = g.l.length - (g.last - g.stable) := rfl
  have hlast : g.l.take j ≠ [] → lastN (g.l.take j) = g.last - g.l.length + j ∧ 0 < j := by
    intro hne
    have hlen : (g.l.take j).length = j := by rw [List.length_take]; omega
    have hj0 : 0 < j := by rw [← hlen]; exact List.length_pos_iff.2 hne
    refine ⟨?_, hj0⟩
    rw [lastN_at hne]
    have := row1_get (row1_take h.row j) ((g.l.take j).length - 1) (by omega)
    rw [this]
    omega
  rw [← hl] at hrd
  have hcond : g.stable ≤ 281474976710656 ∧ (g.l.take j = [] ∨ g.stable ≤ lastN (g.l.take j)) := by
    refine ⟨by omega, ?_⟩
    by_cases hne : g.l.take j = []
    · exact .inl hne
    · obtain ⟨e, h0⟩ := hlast hne
      exact .inr (by omega)
  refine ⟨j, _, hsj, hj, opens_some hrd hcond, rfl, rfl, ?_, ?_⟩
  · show g.stable ≤ lastOr g.stable (g.l.take j)
    unfold lastOr
    split
    · exact Nat.le_refl _
    · rename_i hne
      exact hcond.2.resolve_left hne
  · show lastOr g.stable (g.l.take j) ≤ g.last
    unfold lastOr
    split
    · exact hst
    · rename_i hne
      have := (hlast hne).1
      omega
/-- What a failure takes was not stable. -/
theorem crash_lost {g : LG} (h : g.Ok) {j i : Nat} (hj : g.sured ≤ j) (hij : j ≤ i) (hi : i < g.l.length) : g.stable < g.l[i].n := by
  have h1 := (h.num i hi).1
  have h2 : g.sured = g.l.length - (g.last - g.stable) := rfl
  have h3 := h.le
  have h4 := h.stb
  omega
/-- What is told behind a Trim. -/
theorem trim_from {g : LG} (h : g.Ok) (n k : Nat) (hn : n ≤ g.stable + 1) : (g.trim n).from_ k = g.from_ (max k n) := by
  have e : (g.trim n).l = g.from_ n := by
    rw [h.from_ n]
    show (LG.trim g n).l = _
    unfold LG.trim
    rw [if_pos hn]
  unfold LG.from_ at e ⊢
  rw [e, List.filter_filter]
  congr 1
  funext x
  rw [← Bool.decide_and]
  exact decide_eq_decide.2 (by omega)
end Go.Proofs.YtjahkaockjhibaaDoor

/-
  What package wal is held to, whatever its code is; the document's tape told beside it.
-/
namespace Go.Proofs.YtjahkaockjhibaaDoor
open Go.RowKit

/-- A log of the code, seen as V sees it: where it lies, its tape, the plain log that it is; what it may turn. -/
structure WalC (V : Type) where
  In : V → World → Prop
  mine : V → Nat → Prop
  hard : V → Nat → Prop
  at_ : V → Nat
  tv : V → TV
  g : V → LG
  tape : ∀ {v w}, In v w → (tv v).In w
  st : ∀ {v w}, In v w → (tv v).s = (g v).st
  ok : ∀ {v w}, In v w → (g v).Ok
  only : ∀ {v w w'} {F : Nat → Prop}, In v w → Only F w w' → (∀ k, mine v k → ¬ F k) → In v w'
  mineLt : ∀ {v w}, In v w → ∀ k, mine v k → k < w.heap.size
  tmine : ∀ {v k}, (tv v).mine k → hard v k
  hmine : ∀ {v k}, hard v k → mine v k
  open_ : ∀ (t : TV) (least : Nat) (w : World), Tab w → t.In w → t.s.l.length ≤ 30000 → least < 18446744073709551616 → Calls Tryd.prog 11 #[t.ptr, .int .u64 (least : Int)] w fun e w' =>
    (opens t.s least = none ∧ e = .returned (.tuple #[.pointer none, .int .i64 80]) ∧ Below w.heap.size w w') ∨
    ∃ v, opens t.s least = some (g v) ∧ (tv v).A = t.A ∧ e = .returned (.tuple #[.pointer (some ⟨at_ v, 0, none⟩), .int .i64 0]) ∧ In v w' ∧ Only t.mine w w' ∧ ∀ k, mine v k → t.mine k ∨ w.heap.size ≤ k
  append_ : ∀ (v : V) (k : UInt8) (x : List UInt8) (w : World), Tab w → In v w → x.length ≤ 30000 → (g v).st.fin + (21 + x.length) ≤ 100000000 → Calls Tryd.prog 27 #[.pointer (some ⟨at_ v, 0, none⟩), .int .u8 (k.toNat : Int), .string (tb x)] w fun e w' =>
    e = .returned (.tuple #[.int .u64 (((if (g v).can x then (g v).last + 1 else 0) : Nat) : Int), .int .i64 (((if (g v).can x then 0 else 6) : Nat) : Int)]) ∧
    ∃ v', at_ v' = at_ v ∧ (tv v').A = (tv v).A ∧ g v' = (g v).append k x ∧ In v' w' ∧ Only (mine v) w w' ∧ ∀ k, mine v' k → mine v k ∨ w.heap.size ≤ k
  force_ : ∀ (v : V) (w : World), In v w → Calls Tryd.prog 20 #[.pointer (some ⟨at_ v, 0, none⟩)] w fun e w' =>
    e = .returned (.int .i64 0) ∧ ∃ v', at_ v' = at_ v ∧ (tv v').A = (tv v).A ∧ g v' = (g v).force ∧ In v' w' ∧ Only (hard v) w w' ∧ ∀ k, mine v' k → mine v k ∨ w.heap.size ≤ k
  trim_ : ∀ (v : V) (n : Nat) (w : World), In v w → (∀ e ∈ (g v).l, e.d.length ≤ 30000) → n < 18446744073709551616 → Calls Tryd.prog 21 #[.pointer (some ⟨at_ v, 0, none⟩), .int .u64 (n : Int)] w fun e w' =>
    e = .returned (.int .i64 (((if n ≤ (g v).stable + 1 then 0 else 9) : Nat) : Int)) ∧ ∃ v', at_ v' = at_ v ∧ (tv v').A = (tv v).A ∧ g v' = (g v).trim n ∧ In v' w' ∧ Only (hard v) w w' ∧ ∀ k, mine v' k → mine v k ∨ w.heap.size ≤ k
  last_ : ∀ (v : V) (w : World), In v w → Calls Tryd.prog 35 #[.pointer (some ⟨at_ v, 0, none⟩)] w fun e w' => e = .returned (.int .u64 ((g v).last : Int)) ∧ Below w.heap.size w w'
  stable_ : ∀ (v : V) (w : World), In v w → Calls Tryd.prog 34 #[.pointer (some ⟨at_ v, 0, none⟩)] w fun e w' => e = .returned (.int .u64 ((g v).stable : Int)) ∧ Below w.heap.size w w'
  first_ : ∀ (v : V) (w : World), In v w → Calls Tryd.prog 38 #[.pointer (some ⟨at_ v, 0, none⟩)] w fun e w' => e = .returned (.int .u64 ((g v).first : Int)) ∧ Below w.heap.size w w'
  room_ : ∀ (v : V) (w : World), In v w → Calls Tryd.prog 36 #[.pointer (some ⟨at_ v, 0, none⟩)] w fun e w' => e = .returned (.int .i64 (((g v).st.room - (g v).st.l.length : Nat) : Int)) ∧ Below w.heap.size w w'
  get_ : ∀ (v : V) (n : Nat) (w : World), In v w → n < 18446744073709551616 → Calls Tryd.prog 25 #[.pointer (some ⟨at_ v, 0, none⟩), .int .u64 (n : Int)] w fun e w' => e = .returned (match (g v).get n with | some x => .tuple #[entV x, .int .i64 0] | none => .tuple #[entV ⟨0, 0, []⟩, .int .i64 7]) ∧ Below w.heap.size w w'
  from_ : ∀ (v : V) (n : Nat) (w : World), In v w → n < 18446744073709551616 → Calls Tryd.prog 16 #[.pointer (some ⟨at_ v, 0, none⟩), .int .u64 (n : Int)] w fun e w' => ∃ (A : Option Addr) (c : Nat), e = .returned (.slice A ((g v).from_ n).length c) ∧ Ents w' A ((g v).from_ n) ∧ ((g v).from_ n).length ≤ c ∧ (∀ k, blk A = some k → w.heap.size ≤ k) ∧ Below w.heap.size w w'
  cost_ : ∀ (n : Nat) (w : World), n ≤ 1000000 → Calls Tryd.prog 37 #[.int .i64 (n : Int)] w fun e w' => e = .returned (.int .i64 ((n + 21 : Nat) : Int)) ∧ Below w.heap.size w w'

namespace WalC
variable {V : Type} (C : WalC V) {v : V} {w w' : World}
def ptr (v : V) : Value := .pointer (some ⟨C.at_ v, 0, none⟩)
theorem keeps (h : C.In v w) (hb : Below w.heap.size w w') : C.In v w' := C.only h (Only.below hb fun _ => False) fun _ _ hf => hf
end WalC

theorem from_all {g : LG} : g.from_ 0 = g.l := by unfold LG.from_; simp

/-- What is told of a text that a tape bears. -/
theorem tape_text {d : RL} {w : World} (h : d.In w) : d.r.all.extract d.r.base d.r.all.size = tb d.g.st.l := by rw [extract_tb, ← h.st]; rfl
end Go.Proofs.YtjahkaockjhibaaDoor

/-
  The head's log, in plain words.
-/
namespace Go.Proofs.YtjahkaockjhibaaDoor
open Go.RowKit

theorem opens_less {s : ST} {k least : Nat} {g : LG} (h : opens s k = some g) (hl : least ≤ k) (hne : g.l ≠ []) : opens s least = some g := by
  unfold opens at h
  split at h
  · cases h
  · rename_i m n hm
    split at h
    · rename_i hc
      injection h with h
      subst h
      have hne' : m ≠ [] := hne
      rw [opens_some hm ⟨by omega, .inr (by have := hc.2.resolve_left hne'; omega)⟩]
      unfold openAt lastOr
      rw [if_neg hne', if_neg hne']
    · cases h
theorem opens_bytes {s : ST} {k : Nat} {g : LG} (h : opens s k = some g) : (logB g.l).length ≤ s.l.length ∧ g.st.room = s.room ∧ g.st.base = s.base ∧ g.st.l = logB g.l ∧ g.stable = g.last := by
  unfold opens at h
  split at h
  · cases h
  · rename_i m n hm
    split at h
    · injection h with h
      subst h
      obtain ⟨h1, h2, _, _⟩ := logRead_is hm
      refine ⟨by show (logB m).length ≤ _; rw [← h2, List.length_take]; omega, rfl, rfl, ?_, rfl⟩
      show s.l.take (s.base + n - s.base) = logB m
      rw [Nat.add_sub_cancel_left]; exact h2
    · cases h
/-- Behind a failure that keeps nothing the log has what was stable. -/
theorem crash_kept_none {g : LG} (h : g.Ok) : ∃ g', opens (g.st.crash 0) g.stable = some g' ∧ g'.l = g.l.take g.sured ∧ g'.stable = g'.last ∧ g.stable ≤ g'.last ∧ g'.last ≤ g.last := by
  obtain ⟨j, g', h1, h2, h3, h4, h5, h6, h7⟩ := crash_opens h 0
  refine ⟨g', h3, ?_, h5, h6, h7⟩
  have hb := (opens_bytes h3).1
  rw [h4] at hb ⊢
  have hk : g.st.kept 0 = 0 := by unfold ST.kept; omega
  have hl : (g.st.crash 0).l = g.st.l.take (g.st.sure + g.st.kept 0 - g.st.base) := rfl
  rw [hl, hk, h.bytes, h.sure, List.length_take] at hb
  have e : g.st.base + (logB (g.l.take g.sured)).length + 0 - g.st.base = (logB (g.l.take g.sured)).length := by omega
  rw [e] at hb
  by_cases hj : j = g.sured
  · rw [hj]
  · exfalso
    have e2 : g.l.take j = g.l.take g.sured ++ (g.l.take j).drop g.sured := by
      conv => lhs; rw [← List.take_append_drop g.sured (g.l.take j)]
      rw [List.take_take, Nat.min_eq_left h1]
    have h8 := logB_many ((g.l.take j).drop g.sured)
    rw [List.length_drop, List.length_take] at h8
    have h9 := congrArg (fun l => (logB l).length) e2
    simp only [logB_app, List.length_append] at h9
    omega

/-- A log on a new tape. -/
def logNew (room : Nat) (least : Nat) : LG := ⟨⟨room, 0, 0, []⟩, [], least, least⟩
theorem opens_new (room least : Nat) (hl : least ≤ 281474976710656) : opens ⟨room, 0, 0, []⟩ least = some (logNew room least) := by
  have hm : logRead (⟨room, 0, 0, []⟩ : ST).l = some ([], 0) := by
    show logRead [] = _
    unfold logRead
    rw [scan_nil]
    rfl
  rw [opens_some hm ⟨hl, .inl rfl⟩]
  rfl
theorem put_len (g : LG) (k : UInt8) (d : List UInt8) : (g.put k d).st.l.length = g.st.l.length + (21 + d.length) := by
  show (g.st.l ++ one (recE ⟨g.last + 1, k, d⟩)).length = _
  rw [List.length_append, one_recE]
theorem put_fin (g : LG) (k : UInt8) (d : List UInt8) : (g.put k d).st.fin = g.st.fin + (21 + d.length) := by
  show g.st.base + (g.put k d).st.l.length = g.st.base + g.st.l.length + _
  rw [put_len]; omega
theorem put_room (g : LG) (k : UInt8) (d : List UInt8) : (g.put k d).st.room = g.st.room := rfl
end Go.Proofs.YtjahkaockjhibaaDoor
