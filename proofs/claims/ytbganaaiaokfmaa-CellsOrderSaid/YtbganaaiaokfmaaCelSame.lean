/-
  Are cells the same? The code's way and the document's; a copy.
-/
import Derived.Test.YtbganaaiaokfmaaCelCodeA
import Derived.Laws.StructEq
import Derived.Laws.AppendOwnNone
namespace Go.Proofs.Ytbganaaiaokfmaa
open Go.RowKit

set_option maxRecDepth 100000 in
theorem neq_cel (a b c d : ByteArray) (w : World) : (binOp .neq 38 (.agg #[.string a, .string b]) (.agg #[.string c, .string d])).run Try.prog w = .ok (.bool (!(a.toList == c.toList && b.toList == d.toList))) w := by
  have u9 := Try.underlying9
  have hS : Try.prog.underlying 38 = some (.struct (Try.prog.fieldsOf 38)) := by kernel_rfl
  have hp : Try.prog.stoodInHeld 38 = false := by kernel_rfl
  rw [run_neq_struct, show (10000 : Nat) = 9999 + 1 from rfl, run_equalIn_agg w 9999 38 _ _ hS hp]
  simp only [Program.fieldsOf, Try.underlying38]
  go_simp
  by_cases h1 : a.toList = c.toList <;> by_cases h2 : b.toList = d.toList <;> simp [h1, h2]
theorem cb_ext {x y : CB} : (x.1.toList == y.1.toList && x.2.toList == y.2.toList) = decide (x = y) := by
  obtain ⟨a, b⟩ := x
  obtain ⟨c, d⟩ := y
  rw [Bool.eq_iff_iff]
  simp only [Bool.and_eq_true, beq_iff_eq, decide_eq_true_eq, Prod.mk.injEq]
  constructor
  · rintro ⟨h1, h2⟩
    exact ⟨by rw [← text_back a, h1, text_back], by rw [← text_back b, h2, text_back]⟩
  · rintro ⟨rfl, rfl⟩
    exact ⟨rfl, rfl⟩
theorem cels_inj {l m : List CB} (h : cels l = cels m) : l = m := by
  induction l generalizing m with
  | nil => cases m with
    | nil => rfl
    | cons b m => exact absurd h (by simp [cels])
  | cons a l ih => cases m with
    | nil => exact absurd h (by simp [cels])
    | cons b m =>
      simp only [cels, List.map_cons, List.cons.injEq] at h
      have h2 : l = m := ih (by simpa [cels] using h.2)
      have h1 : a = b := by
        have h1 := h.1
        unfold cel at h1
        simp only [Prod.mk.injEq] at h1
        have := cb_ext (x := a) (y := b)
        rw [h1.1, h1.2, beq_self_eq_true, beq_self_eq_true] at this
        exact of_decide_eq_true this.symm
      rw [h1, h2]
theorem same_upto {l m : List CB} {k : Nat} (h : k < l.length) (h2 : k < m.length) (hu : l.take k = m.take k) : (l.take (k + 1) = m.take (k + 1)) ↔ l[k] = m[k] := by
  rw [List.take_succ_eq_append_getElem h, List.take_succ_eq_append_getElem h2, hu, List.append_cancel_left_eq]
  simp only [List.cons.injEq, and_true]

set_option maxRecDepth 100000 in
set_option maxHeartbeats 4000000 in
theorem kequal_any (A B : Option Addr) (n c m d : Nat) (l s : List CB) (w : World) (hl : Cels w A l) (hn : l.length = n) (hs : Cels w B s) (hm : s.length = m) (hnb : n ≤ 9223372036854775807) (hmb : m ≤ 9223372036854775807) : Calls Try.prog 31 #[.slice A n c, .slice B m d] w fun e w' => e = .returned (.bool (decide (l = s))) ∧ Below w.heap.size w w' := by
  have HL := Lib.hid hl
  have HS := Lib.hid hs
  have HB0 := Lib.hid (Below.refl w.heap.size w)
  have nI : (n : Int) ≤ 9223372036854775807 := by omega
  have mI : (m : Int) ≤ 9223372036854775807 := by omega
  have HHN := Lib.hid (fun _ : Unit => hn)
  have HHM := Lib.hid (fun _ : Unit => hm)
  clear hl hs hnb hmb
  by_cases hnm : n = m
  · subst hnm
    have HST := Lib.hid (fun k (h : k < l.length) (h2 : k < s.length) (hu : l.take k = s.take k) => same_upto h h2 hu)
    have HNO := Lib.hid (fun k (h : l.take k ≠ s.take k) => show decide (l = s) = false from decide_eq_false fun e => h (by rw [e]))
    have HE := Lib.hid (fun (h : l.take n = s.take n) => show decide (l = s) = true by
      rw [List.take_of_length_le (by omega), List.take_of_length_le (by omega)] at h
      exact decide_eq_true h)
    clear hn hm
    go_enter Try.func31, Try.ntmps31
    go_wp2_with fail
    go_loopw [13] (fun i wr => ∃ k : Nat, k ≤ n ∧ i = .int .i64 (k : Int) ∧ Hid (l.take k = s.take k) ∧ Hid (Below w.heap.size w wr)) (fun i _ => n - (intOf i).toNat)
    case atStart => exact ⟨0, Nat.zero_le _, rfl, Lib.hid (by rw [List.take_zero, List.take_zero]), HB0⟩
    case round =>
      obtain ⟨k, hk, rfl, HUk, HBk⟩ := hrel
      by_cases hlt : k < n
      · have hkI : (k : Int) < (n : Int) := by omega
        have hkl : k < l.length := by have := HHN.out (); omega
        have hks : k < s.length := by have := HHM.out (); omega
        obtain ⟨g, off, rfl, HC⟩ := HL.out.at_ hkl
        obtain ⟨g2, off2, rfl, HD⟩ := HS.out.at_ hks
        have hst := HST.out k hkl hks HUk.out
        have hno := HNO.out (k + 1)
        obtain ⟨x, hx⟩ : ∃ x, l[k] = x := ⟨_, rfl⟩
        obtain ⟨y, hy⟩ : ∃ y, s[k] = y := ⟨_, rfl⟩
        have HCk := Lib.hid (HC.out k hkl)
        have HDk := Lib.hid (HD.out k hks)
        rw [hx] at HCk
        rw [hy] at HDk
        rw [hx, hy] at hst
        obtain ⟨a1, a2⟩ := x
        obtain ⟨b1, b2⟩ := y
        have hcmp := fun wx => neq_cel a1 a2 b1 b2 wx
        rw [cb_ext (x := (a1, a2)) (y := (b1, b2))] at hcmp
        obtain ⟨wd, hwd⟩ : ∃ wd, wr.drew = wd := ⟨_, rfl⟩
        have HBd := Lib.hid (show Below w.heap.size w wd from hwd ▸ below_drew_c HBk.out)
        have hHeld := And.intro (HCk.out wd HBd.out) (HDk.out wd HBd.out)
        by_cases hxy : (a1, a2) = (b1, b2)
        · have HG := Lib.hid (hst.2 hxy)
          simp only [decide_eq_true hxy, Bool.not_true] at hcmp
          clear HL HS HST HNO HE HB0 HHN HHM HC HD hst hno hx hy hkl hks HUk HCk HDk hxy
          go_wp2_with fail
          refine wp_region_noPanic ?_
          refine wp_region_sch (fun wx => (wx.cell? ⟨g, off + k * 2, none⟩ = some (.string a1) ∧ wx.cell? ⟨g, off + k * 2 + 1, none⟩ = some (.string a2)) ∧ (wx.cell? ⟨g2, off2 + k * 2, none⟩ = some (.string b1) ∧ wx.cell? ⟨g2, off2 + k * 2 + 1, none⟩ = some (.string b2))) (fun i => [].contains i)
            (.takes [0, 1, 2, 3, 4, 5, 6, 7, 8] .done) (by kernel_rfl) (fun _ _ _ _ _ h => h) (by kernel_rfl) ?_
          rw [hwd]
          iterate 9 (
            refine sch_takes_cons ?_
            first
              | (refine sch_take (v := ?_) rfl (by assumption) (by rfl) ?_ ?_; rotate_left; (focus (intro wy hSy; (try dsimp only at hSy); go_simp; (try with_reducible rfl))))
              | (refine sch_pass rfl (by assumption) (by rfl) ?_)
            simp only [Act.put, List.setIfInBounds_toArray, List.set_cons_zero, List.set_cons_succ])
          refine sch_takes_nil ?_
          refine sch_done ?_
          refine NoPanic.normal ?_
          clear hHeld
          go_wp2_with fail
          go_roundw
          case rel => exact ⟨k + 1, by omega, by go_num, HG, HBd⟩
          case measure => simp [intOf]; omega
        · have HG := Lib.hid (hno fun h => hxy (hst.1 h))
          simp only [decide_eq_false hxy, Bool.not_false] at hcmp
          clear HL HS HST HNO HE HB0 HHN HHM HC HD hst hno hx hy hkl hks HUk HCk HDk hxy
          go_wp2_with fail
          refine wp_region_noPanic ?_
          refine wp_region_sch (fun wx => (wx.cell? ⟨g, off + k * 2, none⟩ = some (.string a1) ∧ wx.cell? ⟨g, off + k * 2 + 1, none⟩ = some (.string a2)) ∧ (wx.cell? ⟨g2, off2 + k * 2, none⟩ = some (.string b1) ∧ wx.cell? ⟨g2, off2 + k * 2 + 1, none⟩ = some (.string b2))) (fun i => [].contains i)
            (.takes [0, 1, 2, 3, 4, 5, 6, 7, 8] .done) (by kernel_rfl) (fun _ _ _ _ _ h => h) (by kernel_rfl) ?_
          rw [hwd]
          iterate 9 (
            refine sch_takes_cons ?_
            first
              | (refine sch_take (v := ?_) rfl (by assumption) (by rfl) ?_ ?_; rotate_left; (focus (intro wy hSy; (try dsimp only at hSy); go_simp; (try with_reducible rfl))))
              | (refine sch_pass rfl (by assumption) (by rfl) ?_)
            simp only [Act.put, List.setIfInBounds_toArray, List.set_cons_zero, List.set_cons_succ])
          refine sch_takes_nil ?_
          refine sch_done ?_
          refine NoPanic.normal ?_
          clear hHeld
          go_wp2_with fail
          rw [HG.out]
          go_ret
          exact ⟨rfl, HBd.out⟩
      · have hkI : ¬ (k : Int) < (n : Int) := by omega
        obtain rfl : k = n := by omega
        have HT := Lib.hid (HE.out HUk.out)
        clear HL HS HST HNO HE HB0 HHN HHM HUk
        go_wp2_with fail
        rw [HT.out]
        go_ret
        exact ⟨rfl, HBk.out⟩
  · have hne : ¬ (n : Int) = (m : Int) := by omega
    have HT := Lib.hid (show decide (l = s) = false from decide_eq_false fun e => hnm (by rw [← hn, ← hm, e]))
    clear hn hm hnm HL HS
    go_enter Try.func31, Try.ntmps31
    go_wp2_with fail
    rw [HT.out]
    go_ret
    exact ⟨rfl, HB0.out⟩

set_option maxRecDepth 100000 in
set_option maxHeartbeats 4000000 in
theorem csame_any (A B : Option Addr) (n c m d : Nat) (l s : List CB) (w : World) (hl : Cels w A l) (hn : l.length = n) (hs : Cels w B s) (hm : s.length = m) (hnb : n ≤ 9223372036854775807) (hmb : m ≤ 9223372036854775807) : Calls Try.prog 18 #[.slice A n c, .slice B m d] w fun e w' => e = .returned (.bool (decide (l = s))) ∧ Below w.heap.size w w' := by
  have HL := Lib.hid hl
  have HS := Lib.hid hs
  have HB0 := Lib.hid (Below.refl w.heap.size w)
  have nI : (n : Int) ≤ 9223372036854775807 := by omega
  have mI : (m : Int) ≤ 9223372036854775807 := by omega
  have HHN := Lib.hid (fun _ : Unit => hn)
  have HHM := Lib.hid (fun _ : Unit => hm)
  clear hl hs hnb hmb
  by_cases hnm : n = m
  · subst hnm
    have HST := Lib.hid (fun k (h : k < l.length) (h2 : k < s.length) (hu : l.take k = s.take k) => same_upto h h2 hu)
    have HNO := Lib.hid (fun k (h : l.take k ≠ s.take k) => show decide (l = s) = false from decide_eq_false fun e => h (by rw [e]))
    have HE := Lib.hid (fun (h : l.take n = s.take n) => show decide (l = s) = true by
      rw [List.take_of_length_le (by omega), List.take_of_length_le (by omega)] at h
      exact decide_eq_true h)
    clear hn hm
    go_enter Try.func18, Try.ntmps18
    go_wp2_with fail
    go_loopw [5] (fun i wr => ∃ k : Nat, k ≤ n ∧ i = .int .i64 (k : Int) ∧ Hid (l.take k = s.take k) ∧ Hid (Below w.heap.size w wr)) (fun i _ => n - (intOf i).toNat)
    case atStart => exact ⟨0, Nat.zero_le _, rfl, Lib.hid (by rw [List.take_zero, List.take_zero]), HB0⟩
    case round =>
      obtain ⟨k, hk, rfl, HUk, HBk⟩ := hrel
      by_cases hlt : k < n
      · have hkI : (k : Int) < (n : Int) := by omega
        have hkl : k < l.length := by have := HHN.out (); omega
        have hks : k < s.length := by have := HHM.out (); omega
        obtain ⟨g, off, rfl, HC⟩ := HL.out.at_ hkl
        obtain ⟨g2, off2, rfl, HD⟩ := HS.out.at_ hks
        have hst := HST.out k hkl hks HUk.out
        have hno := HNO.out (k + 1)
        obtain ⟨x, hx⟩ : ∃ x, l[k] = x := ⟨_, rfl⟩
        obtain ⟨y, hy⟩ : ∃ y, s[k] = y := ⟨_, rfl⟩
        have HCk := Lib.hid (HC.out k hkl)
        have HDk := Lib.hid (HD.out k hks)
        rw [hx] at HCk
        rw [hy] at HDk
        rw [hx, hy] at hst
        obtain ⟨a1, a2⟩ := x
        obtain ⟨b1, b2⟩ := y
        have hcmp := fun wx => neq_cel a1 a2 b1 b2 wx
        rw [cb_ext (x := (a1, a2)) (y := (b1, b2))] at hcmp
        obtain ⟨wd, hwd⟩ : ∃ wd, wr.drew = wd := ⟨_, rfl⟩
        have HBd := Lib.hid (show Below w.heap.size w wd from hwd ▸ below_drew_c HBk.out)
        have hHeld := And.intro (HCk.out wd HBd.out) (HDk.out wd HBd.out)
        by_cases hxy : (a1, a2) = (b1, b2)
        · have HG := Lib.hid (hst.2 hxy)
          simp only [decide_eq_true hxy, Bool.not_true] at hcmp
          clear HL HS HST HNO HE HB0 HHN HHM HC HD hst hno hx hy hkl hks HUk HCk HDk hxy
          go_wp2_with fail
          refine wp_region_noPanic ?_
          refine wp_region_sch (fun wx => (wx.cell? ⟨g, off + k * 2, none⟩ = some (.string a1) ∧ wx.cell? ⟨g, off + k * 2 + 1, none⟩ = some (.string a2)) ∧ (wx.cell? ⟨g2, off2 + k * 2, none⟩ = some (.string b1) ∧ wx.cell? ⟨g2, off2 + k * 2 + 1, none⟩ = some (.string b2))) (fun i => [].contains i)
            (.takes [0, 1, 2, 3, 4, 5, 6, 7, 8] .done) (by kernel_rfl) (fun _ _ _ _ _ h => h) (by kernel_rfl) ?_
          rw [hwd]
          iterate 9 (
            refine sch_takes_cons ?_
            first
              | (refine sch_take (v := ?_) rfl (by assumption) (by rfl) ?_ ?_; rotate_left; (focus (intro wy hSy; (try dsimp only at hSy); go_simp; (try with_reducible rfl))))
              | (refine sch_pass rfl (by assumption) (by rfl) ?_)
            simp only [Act.put, List.setIfInBounds_toArray, List.set_cons_zero, List.set_cons_succ])
          refine sch_takes_nil ?_
          refine sch_done ?_
          refine NoPanic.normal ?_
          clear hHeld
          go_wp2_with fail
          go_roundw
          case rel => exact ⟨k + 1, by omega, by go_num, HG, HBd⟩
          case measure => simp [intOf]; omega
        · have HG := Lib.hid (hno fun h => hxy (hst.1 h))
          simp only [decide_eq_false hxy, Bool.not_false] at hcmp
          clear HL HS HST HNO HE HB0 HHN HHM HC HD hst hno hx hy hkl hks HUk HCk HDk hxy
          go_wp2_with fail
          refine wp_region_noPanic ?_
          refine wp_region_sch (fun wx => (wx.cell? ⟨g, off + k * 2, none⟩ = some (.string a1) ∧ wx.cell? ⟨g, off + k * 2 + 1, none⟩ = some (.string a2)) ∧ (wx.cell? ⟨g2, off2 + k * 2, none⟩ = some (.string b1) ∧ wx.cell? ⟨g2, off2 + k * 2 + 1, none⟩ = some (.string b2))) (fun i => [].contains i)
            (.takes [0, 1, 2, 3, 4, 5, 6, 7, 8] .done) (by kernel_rfl) (fun _ _ _ _ _ h => h) (by kernel_rfl) ?_
          rw [hwd]
          iterate 9 (
            refine sch_takes_cons ?_
            first
              | (refine sch_take (v := ?_) rfl (by assumption) (by rfl) ?_ ?_; rotate_left; (focus (intro wy hSy; (try dsimp only at hSy); go_simp; (try with_reducible rfl))))
              | (refine sch_pass rfl (by assumption) (by rfl) ?_)
            simp only [Act.put, List.setIfInBounds_toArray, List.set_cons_zero, List.set_cons_succ])
          refine sch_takes_nil ?_
          refine sch_done ?_
          refine NoPanic.normal ?_
          clear hHeld
          go_wp2_with fail
          rw [HG.out]
          go_ret
          exact ⟨rfl, HBd.out⟩
      · have hkI : ¬ (k : Int) < (n : Int) := by omega
        obtain rfl : k = n := by omega
        have HT := Lib.hid (HE.out HUk.out)
        clear HL HS HST HNO HE HB0 HHN HHM HUk
        go_wp2_with fail
        rw [HT.out]
        go_ret
        exact ⟨rfl, HBk.out⟩
  · have hne : ¬ (n : Int) = (m : Int) := by omega
    have HT := Lib.hid (show decide (l = s) = false from decide_eq_false fun e => hnm (by rw [← hn, ← hm, e]))
    clear hn hm hnm HL HS
    go_enter Try.func18, Try.ntmps18
    go_wp2_with fail
    rw [HT.out]
    go_ret
    exact ⟨rfl, HB0.out⟩

set_option maxRecDepth 100000 in
theorem ksame_any (A B : Option Addr) (n c m d : Nat) (l s : List CB) (w : World) (hl : Cels w A l) (hn : l.length = n) (hs : Cels w B s) (hm : s.length = m) (hnb : n ≤ 9223372036854775807) (hmb : m ≤ 9223372036854775807) : Calls Try.prog 17 #[.slice A n c, .slice B m d] w fun e w' => e = .returned (.bool (decide (l = s))) ∧ Below w.heap.size w w' := by
  have HK := Lib.hid (kequal_any A B n c m d l s w hl hn hs hm hnb hmb)
  clear hl hs hn hm
  go_enter Try.func17, Try.ntmps17
  go_wp2_with fail
  refine HK.out.mono ?_
  rintro e w1 ⟨rfl, hb1⟩
  have HB1 := Lib.hid hb1
  clear hb1
  go_wp2_with fail
  go_ret
  exact ⟨rfl, HB1.out⟩

set_option maxRecDepth 100000 in
set_option maxHeartbeats 1000000 in
theorem ccopy_any (A : Option Addr) (n c : Nat) (l : List CB) (w : World) (hl : Cels w A l) (hn : l.length = n) (hnb : n ≤ 1000000) (hnil : A = none → c = 0) : Calls Try.prog 19 #[.slice A n c] w fun e w' => ∃ A' c', e = .returned (.slice A' n c') ∧ Cels w' A' l ∧ (A' = none → c' = 0) ∧ Below w.heap.size w w' := by
  have HG := Lib.hid (GrC.nil (Below.refl w.heap.size w))
  cases A with
  | none =>
    obtain rfl := hnil rfl
    obtain rfl : l = [] := by
      cases l with
      | nil => rfl
      | cons a l => obtain ⟨g, off, e, _⟩ := hl 0 (by simp); cases e
    obtain rfl : n = 0 := by simpa using hn.symm
    clear hl hnil hn
    go_enter Try.func19, Try.ntmps19
    go_wp2_with (at_builtin; refine wpList_append_own_none rfl (.tmp 4) (.tmp 5) 22 rfl w.heap.size 38 _ 2 Try.underlying22 (info_parts Try.infoCel).choose_spec.1 (.slice none 0 0) 0 [] rfl HG.out.1 rfl ?_)
    go_wp2_with fail
    go_ret
    exact ⟨none, 0, rfl, Cels.nil, fun _ => rfl, HG.out.2⟩
  | some ad =>
    subst hn
    have HL := Lib.hid hl
    clear hl hnil
    go_enter Try.func19, Try.ntmps19
    go_wp2_with (at_builtin; refine wpList_cels l rfl (.tmp 4) (.tmp 5) rfl rfl HG.out ad l.length c rfl rfl HL.out (by simp) hnb ?_)
    intro v' w2 hg _
    have hg : GrC w l v' w2 := by simpa using hg
    obtain ⟨A', c', rfl, -, h3⟩ := hg.slot
    have H3 := Lib.hid h3
    have HG2 := Lib.hid hg
    clear hg h3 HG
    go_wp2_with fail
    go_ret
    exact ⟨A', c', rfl, HG2.out.cels, H3.out, HG2.out.2⟩
end Go.Proofs.Ytbganaaiaokfmaa
