/-
  The code's search: isBelow, last, At, Find.
-/
import Derived.Test.YtbganaaiaokfmaaCelSame
namespace Go.Proofs.Ytbganaaiaokfmaa
open Go.RowKit

theorem find_upto {l : List Cel} (h : Srt l) (k : Txt) : findC l k = if h0 : 0 < uptoN l k then (if (l[uptoN l k - 1]'(by have := cnt_le l (fun x => ble x k); show cntC l (fun x => ble x k) - 1 < _; unfold uptoN at h0; omega)).1 = k then some (l[uptoN l k - 1]'(by have := cnt_le l (fun x => ble x k); show cntC l (fun x => ble x k) - 1 < _; unfold uptoN at h0; omega)).2 else none) else none := by
  have hu : uptoN l k ≤ l.length := cnt_le l (fun x => ble x k)
  have hif : ∀ i (hi : i < l.length), i < uptoN l k ↔ ble l[i].1 k = true := fun i hi => cnt_iff (low_ble k) h hi
  by_cases h0 : 0 < uptoN l k
  · rw [dif_pos h0]
    have hq : uptoN l k - 1 < l.length := by omega
    by_cases e : (l[uptoN l k - 1]).1 = k
    · rw [if_pos e]
      refine (find_iff h).2 ?_
      have hm := List.getElem_mem hq
      have e2 : l[uptoN l k - 1] = (k, (l[uptoN l k - 1]).2) := Prod.ext e rfl
      rw [e2] at hm
      exact hm
    · rw [if_neg e]
      refine find_none.2 fun x hx hk => ?_
      obtain ⟨i, hi, rfl⟩ := List.getElem_of_mem hx
      have h1 : i < uptoN l k := (hif i hi).2 (by rw [hk]; exact ble_refl k)
      have h2 : i ≠ uptoN l k - 1 := fun e2 => by subst e2; exact e hk
      have h3 : bl l[i].1 l[uptoN l k - 1].1 = true := List.pairwise_iff_getElem.1 h _ _ hi hq (by omega)
      have h4 := (hif _ hq).1 (by omega)
      rw [hk] at h3
      have := (ble_iff _ _).1 h4
      rw [h3] at this
      cases this
  · rw [dif_neg h0]
    refine find_none.2 fun x hx hk => ?_
    obtain ⟨i, hi, rfl⟩ := List.getElem_of_mem hx
    have h1 : i < uptoN l k := (hif i hi).2 (by rw [hk]; exact ble_refl k)
    omega

set_option maxRecDepth 100000 in
set_option maxHeartbeats 1000000 in
theorem kbelow_any (A : Option Addr) (n c i : Nat) (l : List CB) (key : ByteArray) (w : World) (hl : Cels w A l) (hn : l.length = n) (_hnb : n ≤ 1000000) (hi : i < l.length) :
    Calls Try.prog 46 #[.agg #[.slice A n c, .string key], .int .i64 (i : Int)] w fun e w' => e = .returned (.bool (bl key.toList l[i].1.toList)) ∧ Below w.heap.size w w' := by
  obtain ⟨g, off, rfl, HC⟩ := hl.at_ hi
  have hiI : (i : Int) < (n : Int) := by omega
  obtain ⟨o, ho⟩ : ∃ o, w.alloc (.cells #[.slice (some ⟨g, off, none⟩) n c, .string key] 55) = o := ⟨_, rfl⟩
  have HBo := Lib.hid (show Below w.heap.size w o from ho ▸ (Below.refl _ w).alloc (Nat.le_refl _) _)
  obtain ⟨B, hB⟩ : ∃ B, w.heap.size = B := ⟨_, rfl⟩
  have HRo := Lib.hid (show Row o B 55 [.slice (some ⟨g, off, none⟩) n c, .string key] (0, 0) from hB ▸ ho ▸ Row.new w 55 [.slice (some ⟨g, off, none⟩) n c, .string key] (0, 0))
  obtain ⟨od, hod⟩ : ∃ od, o.drew = od := ⟨_, rfl⟩
  have HBd := Lib.hid (show Below w.heap.size w od from hod ▸ below_drew_c HBo.out)
  have HRd := Lib.hid (show Row od B 55 [.slice (some ⟨g, off, none⟩) n c, .string key] (0, 0) from hod ▸ HRo.out.drew)
  have hk := (HC.out i hi od HBd.out).1
  obtain ⟨ky, hky⟩ : ∃ ky, l[i].1 = ky := ⟨_, rfl⟩
  rw [hky] at hk ⊢
  have hHeld : (od.cell? ⟨B, 0, none⟩ = some (.slice (some ⟨g, off, none⟩) n c) ∧ od.cell? ⟨B, 1, none⟩ = some (.string key)) ∧ od.cell? ⟨g, off + i * 2, none⟩ = some (.string ky) :=
    ⟨⟨by rw [HRd.out.cell]; rfl, by rw [HRd.out.cell]; rfl⟩, hk⟩
  obtain ⟨b, hb⟩ : ∃ b, bl key.toList ky.toList = b := ⟨_, rfl⟩
  have hcmp : Op.bytesLess key.toList ky.toList = b := hb
  rw [hb]
  clear HC hl hn hk hky hb HRo HRd hi
  go_enter Try.func46, Try.ntmps46
  go_wp2_with fail
  refine wp_region_noPanic ?_
  refine wp_region_sch (fun wx => (wx.cell? ⟨B, 0, none⟩ = some (.slice (some ⟨g, off, none⟩) n c) ∧ wx.cell? ⟨B, 1, none⟩ = some (.string key)) ∧ wx.cell? ⟨g, off + i * 2, none⟩ = some (.string ky)) (fun i => [].contains i)
    (.takes [0, 1, 2, 3, 4, 5, 6, 7, 8, 9] .done) (by kernel_rfl) (fun _ _ _ _ _ h => h) (by kernel_rfl) ?_
  rw [hod]
  iterate 10 (
    refine sch_takes_cons ?_
    first
      | (refine sch_take (v := ?_) rfl (by assumption) (by rfl) ?_ ?_; rotate_left; (focus (intro wy hSy; (try dsimp only at hSy); go_simp; (try with_reducible rfl))))
      | (refine sch_pass rfl (by assumption) (by rfl) ?_)
    simp only [Act.put, List.setIfInBounds_toArray, List.set_cons_zero, List.set_cons_succ])
  refine sch_takes_nil ?_
  refine sch_done ?_
  refine NoPanic.normal ?_
  clear hHeld
  go_wp2_with fail
  go_ret
  exact ⟨by first | rfl | (rw [← hcmp]; rfl), HBd.out⟩

theorem half_lt {lo hi : Nat} (h : lo < hi) : (lo + hi) / 2 < hi := by omega

set_option maxRecDepth 100000 in
set_option maxHeartbeats 2000000 in
theorem ksearch_any (A : Option Addr) (n c : Nat) (l : List CB) (key : ByteArray) (w : World) (hl : Cels w A l) (hn : l.length = n) (hnb : n ≤ 1000000) (hs : Srt (cels l)) :
    Calls Try.prog 45 #[.int .i64 (n : Int), .func (.func 46) #[.agg #[.slice A n c, .string key]] #[]] w fun e w' => e = .returned (.int .i64 (uptoN (cels l) key.toList : Int)) ∧ Below w.heap.size w w' := by
  have HIF := Lib.hid (fun k (hk : k < l.length) => show bl key.toList l[k].1.toList = decide (uptoN (cels l) key.toList ≤ k) by
    have h1 := cnt_iff (low_ble key.toList) hs (i := k) (by rw [cels_length]; exact hk)
    rw [cels_get l k hk] at h1
    have h2 : ble l[k].1.toList key.toList = !bl key.toList l[k].1.toList := ble_not _ _
    have h3 : k < uptoN (cels l) key.toList ↔ ble l[k].1.toList key.toList = true := h1
    rw [h2] at h3
    cases hb : bl key.toList l[k].1.toList with
    | true => rw [hb] at h3; refine (decide_eq_true ?_).symm; refine Nat.le_of_not_lt fun h => ?_; have := h3.1 h; cases this
    | false => rw [hb] at h3; refine (decide_eq_false ?_).symm; refine Nat.not_le.2 (h3.2 rfl))
  have HU := Lib.hid (show uptoN (cels l) key.toList ≤ n by have := cnt_le (cels l) (fun x => ble x key.toList); rw [cels_length, hn] at this; exact this)
  obtain ⟨U, hU⟩ : ∃ U, uptoN (cels l) key.toList = U := ⟨_, rfl⟩
  rw [hU] at HIF HU ⊢
  have HC := Lib.hid (fun (i : Nat) (hi : i < l.length) wx (hb : Below w.heap.size w wx) => kbelow_any A n c i l key wx (hl.keeps hb) hn hnb hi)
  have HL := Lib.hid hn
  have HB0 := Lib.hid (Below.refl w.heap.size w)
  clear hl hs hU hn
  go_enter Try.func45, Try.ntmps45
  go_wp2_with fail
  go_loopw [5, 6] (fun a b wr => ∃ lo hi : Nat, a = .int .i64 lo ∧ b = .int .i64 hi ∧ lo ≤ hi ∧ hi ≤ n ∧ Hid (lo ≤ U ∧ U ≤ hi) ∧ Hid (Below w.heap.size w wr)) (fun a b _ => (intOf b - intOf a).toNat)
  case atStart => exact ⟨0, n, rfl, rfl, by omega, Nat.le_refl _, Lib.hid ⟨Nat.zero_le _, HU.out⟩, HB0⟩
  case round =>
    obtain ⟨lo, hi, rfl, rfl, hlh, hin, I, HBk⟩ := hrel
    by_cases hlt : lo < hi
    · have hki : (lo + hi) / 2 < l.length := by rw [HL.out]; omega
      have hc := HC.out ((lo + hi) / 2) hki wr HBk.out
      rw [HIF.out ((lo + hi) / 2) hki] at hc
      rw [show (((lo + hi) / 2 : Nat) : Int) = ((lo : Int) + (hi : Int)) / 2 by omega] at hc
      by_cases e1 : U ≤ (lo + hi) / 2
      · rw [decide_eq_true e1] at hc
        have I2 := Lib.hid (show lo ≤ U ∧ U ≤ (lo + hi) / 2 from ⟨I.out.1, e1⟩)
        have HCC := Lib.hid hc
        clear hc HIF HC HU I e1
        go_wp2_with (go_at_call 46; refine HCC.out.mono ?_; rintro e w' ⟨rfl, hb⟩)
        have HB1 := Lib.hid (HBk.out.trans (hb.mono HBk.out.size))
        clear hb
        go_roundw
        case rel => exact ⟨lo, (lo + hi) / 2, rfl, by rw [show (((lo + hi) / 2 : Nat) : Int) = ((lo : Int) + (hi : Int)) / 2 by omega], by omega, by omega, I2, HB1⟩
        case measure => simp [intOf]; omega
      · rw [decide_eq_false e1] at hc
        have I2 := Lib.hid (show (lo + hi) / 2 + 1 ≤ U ∧ U ≤ hi from ⟨by omega, I.out.2⟩)
        have HCC := Lib.hid hc
        clear hc HIF HC HU I e1
        go_wp2_with (go_at_call 46; refine HCC.out.mono ?_; rintro e w' ⟨rfl, hb⟩)
        have HB1 := Lib.hid (HBk.out.trans (hb.mono HBk.out.size))
        clear hb
        go_roundw
        case rel => exact ⟨(lo + hi) / 2 + 1, hi, by rw [show (((lo + hi) / 2 + 1 : Nat) : Int) = ((lo : Int) + (hi : Int)) / 2 + 1 by omega], rfl, by omega, by omega, I2, HB1⟩
        case measure => simp [intOf]; omega
    · obtain rfl : lo = hi := by omega
      have HP := Lib.hid (show lo = U by have := I.out; omega)
      clear HIF HC I
      go_wp2_with fail
      go_ret
      exact ⟨by rw [← HP.out]; rfl, HBk.out⟩

set_option maxRecDepth 100000 in
set_option maxHeartbeats 1000000 in
theorem klast_any (A : Option Addr) (n c : Nat) (l : List CB) (key : ByteArray) (w : World) (hl : Cels w A l) (hn : l.length = n) (hnb : n ≤ 1000000) (hs : Srt (cels l)) :
    Calls Try.prog 32 #[.agg #[.slice A n c, .string key]] w fun e w' => e = .returned (.int .i64 ((uptoN (cels l) key.toList : Int) - 1)) ∧ Below w.heap.size w w' := by
  have hmf : ∀ (fn : Fn) (first cap : Array Value) (w : World), (Instr.makeFunc fn first cap).run Try.prog w = .ok (.func fn first cap) w := fun _ _ _ _ => rfl
  obtain ⟨o, ho⟩ : ∃ o, w.alloc (.cells #[.slice A n c, .string key] 55) = o := ⟨_, rfl⟩
  have HBo := Lib.hid (show Below w.heap.size w o from ho ▸ (Below.refl _ w).alloc (Nat.le_refl _) _)
  obtain ⟨B, hB⟩ : ∃ B, w.heap.size = B := ⟨_, rfl⟩
  have HRo := Lib.hid (show Row o B 55 [.slice A n c, .string key] (0, 0) from hB ▸ ho ▸ Row.new w 55 [.slice A n c, .string key] (0, 0))
  have o0 : o.cell? ⟨B, 0, none⟩ = some (.slice A n c) := by rw [HRo.out.cell]; rfl
  have o1 : o.cell? ⟨B, 1, none⟩ = some (.string key) := by rw [HRo.out.cell]; rfl
  have HS := Lib.hid (ksearch_any A n c l key o (hl.keeps (HBo.out)) hn hnb hs)
  have hU : uptoN (cels l) key.toList ≤ n := by have := cnt_le (cels l) (fun x => ble x key.toList); rw [cels_length, hn] at this; exact this
  obtain ⟨U, hU2⟩ : ∃ U, uptoN (cels l) key.toList = U := ⟨_, rfl⟩
  rw [hU2] at HS hU ⊢
  clear hl hs hn HRo hU2
  go_enter Try.func32, Try.ntmps32
  go_wp2_with (go_at_call 45; refine HS.out.mono ?_; rintro e w' ⟨rfl, hb⟩)
  have HB1 := Lib.hid (HBo.out.trans (hb.mono HBo.out.size))
  clear hb
  go_ret
  exact ⟨rfl, HB1.out⟩

set_option maxRecDepth 100000 in
set_option maxHeartbeats 1000000 in
theorem kat_any (A : Option Addr) (n c : Nat) (l : List CB) (key : ByteArray) (w : World) (hl : Cels w A l) (hn : l.length = n) (hnb : n ≤ 1000000) : Calls Try.prog 20 #[.slice A n c, .string key] w fun e w' => e = .returned (.int .i64 (atP (cels l) key.toList)) ∧ Below w.heap.size w w' := by
  have HRT := Lib.hid (kright_any A n c l w hl hn hnb)
  cases hr : rgtB (cels l) with
  | false =>
    have HF := Lib.hid (show atP (cels l) key.toList = -1 by unfold atP; rw [hr]; rfl)
    rw [HF.out]
    rw [hr] at HRT
    clear hl hn hr HF
    go_enter Try.func20, Try.ntmps20
    go_wp2_with fail
    refine HRT.out.mono ?_
    rintro e w1 ⟨rfl, hb1⟩
    have HB1 := Lib.hid hb1
    clear hb1
    go_wp2_with fail
    go_ret
    exact ⟨rfl, HB1.out⟩
  | true =>
    have hR : Rgt (cels l) := of_decide_eq_true hr
    have HF := Lib.hid (show atP (cels l) key.toList = (uptoN (cels l) key.toList : Int) - 1 by unfold atP; rw [hr]; rfl)
    rw [HF.out]
    rw [hr] at HRT
    have HLA := Lib.hid (fun wx (hb : Below w.heap.size w wx) => klast_any A n c l key wx (hl.keeps hb) hn hnb hR.1)
    obtain ⟨U, hU2⟩ : ∃ U, (uptoN (cels l) key.toList : Int) - 1 = U := ⟨_, rfl⟩
    rw [hU2] at HLA ⊢
    clear hl hn hr HF hR hU2
    go_enter Try.func20, Try.ntmps20
    go_wp2_with fail
    refine HRT.out.mono ?_
    rintro e w1 ⟨rfl, hb1⟩
    have HB1 := Lib.hid hb1
    have HL1 := Lib.hid (HLA.out w1 hb1)
    clear hb1 HLA
    go_wp2_with fail
    refine HL1.out.mono ?_
    rintro e w2 ⟨rfl, hb2⟩
    have HB2 := Lib.hid (HB1.out.trans (hb2.mono HB1.out.size))
    clear hb2
    go_wp2_with fail
    go_ret
    exact ⟨rfl, HB2.out⟩

set_option maxRecDepth 100000 in
set_option maxHeartbeats 2000000 in
theorem kfind_any (A : Option Addr) (n c : Nat) (l : List CB) (key : ByteArray) (w : World) (hl : Cels w A l) (hn : l.length = n) (hnb : n ≤ 1000000) : Calls Try.prog 9 #[.slice A n c, .string key] w fun e w' => e = .returned (findV (findP (cels l) key.toList)) ∧ Below w.heap.size w w' := by
  have HAT := Lib.hid (kat_any A n c l key w hl hn hnb)
  have hcase : (atP (cels l) key.toList = -1 ∧ findP (cels l) key.toList = none) ∨ ∃ (q : Nat) (hq : q < l.length), atP (cels l) key.toList = (q : Int) ∧ findP (cels l) key.toList = if l[q].1.toList = key.toList then some l[q].2.toList else none := by
    unfold atP findP
    cases hr : rgtB (cels l) with
    | false => exact .inl ⟨rfl, rfl⟩
    | true =>
      rw [if_pos rfl, if_pos rfl]
      have hR : Rgt (cels l) := of_decide_eq_true hr
      have hU : uptoN (cels l) key.toList ≤ l.length := by have := cnt_le (cels l) (fun x => ble x key.toList); rw [cels_length] at this; exact this
      rw [find_upto hR.1]
      by_cases h0 : 0 < uptoN (cels l) key.toList
      · refine .inr ⟨uptoN (cels l) key.toList - 1, by omega, by omega, ?_⟩
        rw [dif_pos h0, cels_get l _ (by omega)]
        rfl
      · rw [dif_neg h0]
        exact .inl ⟨by omega, rfl⟩
  rcases hcase with ⟨h1, h2⟩ | ⟨q, hq, h1, h2⟩
  · rw [h1] at HAT
    rw [h2]
    clear hl hn h1 h2
    go_enter Try.func9, Try.ntmps9
    go_wp2_with fail
    refine HAT.out.mono ?_
    rintro e w1 ⟨rfl, hb1⟩
    have HB1 := Lib.hid hb1
    clear hb1
    go_wp2_with fail
    go_ret2
    exact ⟨rfl, HB1.out⟩
  · rw [h1] at HAT
    rw [h2]
    obtain ⟨g, off, rfl, HC⟩ := hl.at_ hq
    have HCq := Lib.hid (HC.out q hq)
    have hqn : (q : Int) < (n : Int) := by omega
    have hq0 : ¬ (q : Int) < 0 := by omega
    obtain ⟨ky, hky⟩ : ∃ ky, l[q].1 = ky := ⟨_, rfl⟩
    obtain ⟨vl, hvl⟩ : ∃ vl, l[q].2 = vl := ⟨_, rfl⟩
    rw [hky, hvl] at HCq ⊢
    clear hl hn h1 h2 HC hky hvl hq
    by_cases heq : ky.toList = key.toList
    · have hcmp : (ky.toList == key.toList) = true := by rw [heq]; exact beq_self_eq_true _
      rw [if_pos heq]
      clear heq
      go_enter Try.func9, Try.ntmps9
      go_wp2_with fail
      refine HAT.out.mono ?_
      rintro e w1 ⟨rfl, hb1⟩
      have HB1 := Lib.hid hb1
      obtain ⟨c0, c1⟩ := HCq.out w1 hb1
      clear hb1 HCq
      go_wp2_with fail
      go_ret2
      exact ⟨by show _ = Ending.returned (.tuple #[.string ⟨vl.toList.toArray⟩, .bool true]); rw [text_back]; rfl, HB1.out⟩
    · have hcmp : (ky.toList == key.toList) = false := beq_eq_false_iff_ne.2 heq
      rw [if_neg heq]
      clear heq
      go_enter Try.func9, Try.ntmps9
      go_wp2_with fail
      refine HAT.out.mono ?_
      rintro e w1 ⟨rfl, hb1⟩
      have HB1 := Lib.hid hb1
      obtain ⟨c0, c1⟩ := HCq.out w1 hb1
      clear hb1 HCq
      go_wp2_with fail
      go_ret2
      exact ⟨rfl, HB1.out⟩
end Go.Proofs.Ytbganaaiaokfmaa
