/-
  TapeKeeps: the walk.
-/
import Derived.Test.YtikcbalofbgdlaaTapStrs
namespace Go.Proofs.Ytikcbalofbgdlaa
open Go.RowKit

/-- What a failure leaves of a sure text and another one behind it. -/
theorem keeps_read (x y : ByteArray) (keep : Int) (hx : x.size ≤ 6000) (hy : y.size ≤ 6000) (n : Nat) (hn : (n : Int) = min (max keep 0) (y.size : Int)) :
    ((⟨20000, 0, x.size, txt x ++ txt y⟩ : ST).crash keep).sure = x.size + n ∧ ((⟨20000, 0, x.size, txt x ++ txt y⟩ : ST).crash keep).fin = x.size + n ∧
    ((⟨20000, 0, x.size, txt x ++ txt y⟩ : ST).crash keep).reads 0 (x.size + n) ∧ ((⟨20000, 0, x.size, txt x ++ txt y⟩ : ST).crash keep).read 0 (x.size + n) = x ++ y.extract 0 n := by
  have hl : (txt x ++ txt y).length = x.size + y.size := by rw [List.length_append, txt_length, txt_length]
  have hk : (⟨20000, 0, x.size, txt x ++ txt y⟩ : ST).kept keep = n := by
    unfold ST.kept ST.fin
    show (min (max keep 0) ((0 + (txt x ++ txt y).length - x.size : Nat) : Int)).toNat = n
    rw [hl]; omega
  have e : (⟨20000, 0, x.size, txt x ++ txt y⟩ : ST).crash keep = ⟨20000, 0, x.size + n, txt x ++ (txt y).take n⟩ := by
    unfold ST.crash
    rw [hk]
    have e1 : (txt x ++ txt y).take (x.size + n - 0) = txt x ++ (txt y).take n := by
      rw [List.take_append, List.take_of_length_le (by rw [txt_length]; omega), txt_length]
      congr 2; omega
    unfold ST.shorten ST.force ST.fin
    show (⟨20000, 0, 0 + ((txt x ++ txt y).take (x.size + n - 0)).length, (txt x ++ txt y).take (x.size + n - 0)⟩ : ST) = _
    rw [e1, List.length_append, List.length_take, txt_length, txt_length]
    congr 1
    omega
  have hl2 : (txt x ++ (txt y).take n).length = x.size + n := by rw [List.length_append, List.length_take, txt_length, txt_length]; omega
  have hfin : (⟨20000, 0, x.size + n, txt x ++ (txt y).take n⟩ : ST).fin = x.size + n := by unfold ST.fin; show 0 + _ = _; rw [hl2]; omega
  have hrd : (⟨20000, 0, x.size + n, txt x ++ (txt y).take n⟩ : ST).reads 0 (x.size + n) := ⟨Nat.le_refl _, Nat.zero_le _, Nat.le_of_eq hfin.symm⟩
  rw [e]
  refine ⟨rfl, hfin, hrd, ?_⟩
  rw [ST.read, if_pos hrd]
  apply txt_inj
  rw [txt_mk, txt_append, txt_extract]
  show ((txt x ++ (txt y).take n).take (x.size + n - 0)).drop 0 = _
  rw [List.drop_zero, List.take_of_length_le (by rw [hl2]; omega), List.drop_zero]

set_option maxRecDepth 100000 in
set_option maxHeartbeats 1600000 in
theorem keeps_any (A : Option Addr) (ca : Nat) (la : List ByteArray) (B : Option Addr) (cb : Nat) (lb : List ByteArray) (keep : Int) (w : World) (ha : Strs w A la) (hb : Strs w B lb) (hla : la.length ≤ 9223372036854775807) (hlb : lb.length ≤ 9223372036854775807) (hk1 : keep ≤ 9223372036854775807) (hk0 : -9223372036854775808 ≤ keep)
    (hsa : ∀ t ∈ la, t.size ≤ 9223372036854775807) (hsb : ∀ t ∈ lb, t.size ≤ 9223372036854775807) :
    Calls Try.prog 4 #[.slice A la.length ca, .slice B lb.length cb, .int .i64 keep] w fun e w' => e = .returned (.bool true) ∧ Below w.heap.size w w' := by
  have HA := Lib.hid ha
  have HB := Lib.hid hb
  have HSA := Lib.hid hsa
  have HSB := Lib.hid hsb
  clear ha hb hsa hsb
  have la1 : (la.length : Int) ≤ 9223372036854775807 := by omega
  have lb1 : (lb.length : Int) ≤ 9223372036854775807 := by omega
  by_cases hA20 : 20 < la.length
  · have hA20' : (20 : Int) < la.length := by omega
    go_enter Try.func4, Try.ntmps4
    go_wp2_with fail
    refine (head_any w).mono ?_
    rintro e w1 ⟨rfl, hb⟩
    have HB1 := Lib.hid hb
    clear hb
    go_wp2
    go_ret
    exact ⟨rfl, HB1.out⟩
  have hA20' : (la.length : Int) ≤ 20 := by omega
  by_cases hB20 : 20 < lb.length
  · have hB20' : (20 : Int) < lb.length := by omega
    go_enter Try.func4, Try.ntmps4
    go_wp2_with fail
    refine (head_any w).mono ?_
    rintro e w1 ⟨rfl, hb⟩
    have HB1 := Lib.hid hb
    clear hb
    go_wp2
    go_ret
    exact ⟨rfl, HB1.out⟩
  have hB20' : (lb.length : Int) ≤ 20 := by omega
  go_enter Try.func4, Try.ntmps4
  go_wp2_with fail
  refine (new_tape (W := w) 20000 (by omega) (Below.refl _ _)).mono ?_
  rintro e w1 ⟨A0, rfl, h1⟩
  generalize (Value.pointer (some ⟨A0, 0, none⟩)) = p at *
  have H1 := Lib.hid (show Tape w p ⟨20000, 0, 0, []⟩ w1 from h1)
  clear h1
  go_wp2_with fail
  go_loopw [8, 10] (fun x i wr => ∃ (k : Nat) (s : ByteArray), k ≤ la.length ∧ i = .int .i64 k ∧ x = .string s ∧ s.size ≤ 300 * k ∧ Hid (Tape w p ⟨20000, 0, 0, txt s⟩ wr)) (fun _ i _ => la.length - (intOf i).toNat)
  case atStart => exact ⟨0, ⟨#[]⟩, by omega, rfl, rfl, Nat.zero_le _, H1⟩
  case round =>
    clear H1
    obtain ⟨k, s, hk, rfl, rfl, hs, HT⟩ := hrel
    by_cases hkl : k = la.length
    · have hd : decide ((k : Int) < la.length) = false := by simp; omega
      have hkl2 : ¬ (k : Int) < la.length := by omega
      have hs6 : s.size ≤ 6000 := by omega
      clear hs hk hkl
      go_wp2_with fail
      refine (force_tape HT.out).mono ?_
      rintro e w2 ⟨rfl, h2⟩
      have H2 := Lib.hid (show Tape w p ⟨20000, 0, s.size, txt s ++ txt ⟨#[]⟩⟩ w2 from by
        have e : (⟨20000, 0, 0, txt s⟩ : ST).force = ⟨20000, 0, s.size, txt s ++ txt ⟨#[]⟩⟩ := by
          unfold ST.force ST.fin; rw [txt_empty, List.append_nil]; simp [txt_length]
        rw [← e]; exact h2)
      clear h2 HT hd hkl2
      go_wp2_with fail
      go_loopw [9, 11] (fun x i wr => ∃ (k : Nat) (r : ByteArray), k ≤ lb.length ∧ i = .int .i64 k ∧ x = .string r ∧ r.size ≤ 300 * k ∧ Hid (Tape w p ⟨20000, 0, s.size, txt s ++ txt r⟩ wr)) (fun _ i _ => lb.length - (intOf i).toNat)
      case atStart => exact ⟨0, ⟨#[]⟩, by omega, rfl, rfl, Nat.zero_le _, H2⟩
      case round =>
        clear H2
        obtain ⟨k, r, hk, rfl, rfl, hr, HT⟩ := hrel
        by_cases hkl : k = lb.length
        · have hkl2 : ¬ (k : Int) < lb.length := by omega
          have hr6 : r.size ≤ 6000 := by omega
          clear hr hk hkl
          obtain ⟨n, hn⟩ : ∃ n : Nat, (n : Int) = min (max keep 0) (r.size : Int) := ⟨(min (max keep 0) (r.size : Int)).toNat, by omega⟩
          obtain ⟨f1, f2, f3, f4⟩ := keeps_read s r keep hs6 hr6 n hn
          have HC := Lib.hid (crash_tape HT.out keep hk1)
          generalize (⟨20000, 0, s.size, txt s ++ txt r⟩ : ST).crash keep = S at *
          have hnr : (n : Int) ≤ r.size := by omega
          have hn' : min (max keep 0) (r.size : Int) = (n : Int) := hn.symm
          have HF := Lib.hid (show S.sure = S.fin ∧ S.reads 0 S.fin ∧ S.read 0 S.fin = s ++ r.extract 0 n from ⟨by rw [f1, f2], by rw [f2]; exact f3, by rw [f2]; exact f4⟩)
          clear hn f1 f2 f3 f4
          have hr6' : (r.size : Int) ≤ 6000 := by omega
          have hs6' : (s.size : Int) ≤ 6000 := by omega
          clear HT
          go_wp2_with fail
          refine HC.out.mono ?_
          rintro e w3 ⟨rfl, h3⟩
          have H3 := Lib.hid h3
          clear h3 HC
          go_wp2_with fail
          refine (End_tape H3.out).mono ?_
          rintro e w4 ⟨rfl, h4⟩
          have H4 := Lib.hid h4
          clear h4 H3
          go_wp2_with fail
          refine (read_tape H4.out 0 S.fin 0 _ rfl (by rfl)).mono ?_
          rintro e w5 ⟨rfl, h5⟩
          have H5 := Lib.hid h5
          clear h5 H4
          rw [HF.out.2.2, if_pos HF.out.2.1]
          go_wp2_with fail
          refine (sure_tape H5.out).mono ?_
          rintro e w6 ⟨rfl, rfl⟩
          rw [HF.out.1]
          go_wp2_with fail
          refine (End_tape H5.out).mono ?_
          rintro e w6 ⟨rfl, h6⟩
          have H6 := Lib.hid h6
          clear h6 H5
          go_wp2_with fail
          refine (head_any w6).mono ?_
          rintro e w7 ⟨rfl, hb⟩
          have HB1 := Lib.hid (H6.out.since.trans (hb.mono H6.out.since.size))
          clear hb H6
          go_wp2
          go_ret
          exact ⟨rfl, HB1.out⟩
        · have hkl2 : (k : Int) < lb.length := by omega
          have hkN : k < lb.length := by omega
          have hk19 : k < 20 := by omega
          obtain ⟨g, off, t, hBg, htm, HCL⟩ := HB.out.at_ hkN
          have hts := HSB.out t htm
          have hcell := HCL.out _ HT.out.since
          subst hBg
          have hts1 : (t.size : Int) ≤ 9223372036854775807 := by omega
          by_cases h3 : 300 < t.size
          · have h3' : (300 : Int) < t.size := by omega
            clear hr hk hkl hkN hk19
            go_wp2_with fail
            refine (head_any wr).mono ?_
            rintro e w7 ⟨rfl, hb⟩
            have HB1 := Lib.hid (HT.out.since.trans (hb.mono HT.out.since.size))
            clear hb HT
            go_wp2
            go_ret
            exact ⟨rfl, HB1.out⟩
          · have h3' : (t.size : Int) ≤ 300 := by omega
            have HAP := Lib.hid (append_more HT.out t (by rw [List.length_append, txt_length, txt_length]; omega) (by rw [List.length_append, txt_length, txt_length]; omega))
            have HRT := Lib.hid (show (r ++ t).size ≤ 300 * (k + 1) by rw [size_append]; omega)
            have hrt : (r.size : Int) + (t.size : Int) ≤ 6300 := by omega
            have hk1' : k + 1 ≤ lb.length := by omega
            have hkk : (k : Int) < 20 := by omega
            clear hr hk hkl hkN hk19 HT
            go_wp2_with fail
            refine HAP.out.mono ?_
            rintro e w7 ⟨rfl, h7⟩
            have hcell2 := HCL.out _ h7.since
            clear hcell
            have H7 := Lib.hid (show Tape w p ⟨20000, 0, s.size, txt s ++ txt (r ++ t)⟩ w7 by rw [txt_append, ← List.append_assoc]; exact h7)
            clear h7 HAP
            go_wp2_with fail
            go_roundw
            case rel => exact ⟨k + 1, _, hk1', by go_num, rfl, HRT.out, H7⟩
            case measure => simp [intOf]; omega
    · have hkl2 : (k : Int) < la.length := by omega
      have hkN : k < la.length := by omega
      have hk19 : k < 20 := by omega
      obtain ⟨g, off, t, hBg, htm, HCL⟩ := HA.out.at_ hkN
      have hts := HSA.out t htm
      have hcell := HCL.out _ HT.out.since
      subst hBg
      have hts1 : (t.size : Int) ≤ 9223372036854775807 := by omega
      by_cases h3 : 300 < t.size
      · have h3' : (300 : Int) < t.size := by omega
        clear hs hk hkl hkN hk19
        go_wp2_with fail
        refine (head_any wr).mono ?_
        rintro e w7 ⟨rfl, hb⟩
        have HB1 := Lib.hid (HT.out.since.trans (hb.mono HT.out.since.size))
        clear hb HT
        go_wp2
        go_ret
        exact ⟨rfl, HB1.out⟩
      · have h3' : (t.size : Int) ≤ 300 := by omega
        have HAP := Lib.hid (append_more HT.out t (by rw [txt_length]; omega) (by rw [txt_length]; omega))
        have HRT := Lib.hid (show (s ++ t).size ≤ 300 * (k + 1) by rw [size_append]; omega)
        have hrt : (s.size : Int) + (t.size : Int) ≤ 6300 := by omega
        have hk1' : k + 1 ≤ la.length := by omega
        have hkk : (k : Int) < 20 := by omega
        clear hs hk hkl hkN hk19 HT
        go_wp2_with fail
        refine HAP.out.mono ?_
        rintro e w7 ⟨rfl, h7⟩
        have hcell2 := HCL.out _ h7.since
        clear hcell
        have H7 := Lib.hid (show Tape w p ⟨20000, 0, 0, txt (s ++ t)⟩ w7 by rw [txt_append]; exact h7)
        clear h7 HAP
        go_wp2_with fail
        go_roundw
        case rel => exact ⟨k + 1, _, hk1', by go_num, rfl, HRT.out, H7⟩
        case measure => simp [intOf]; omega
end Go.Proofs.Ytikcbalofbgdlaa
