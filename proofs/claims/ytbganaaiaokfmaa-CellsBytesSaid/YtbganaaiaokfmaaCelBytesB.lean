/-
  The code's Bytes.
-/
import Derived.Test.YtbganaaiaokfmaaCelBytesA
import Derived.Test.YtbganaaiaokfmaaCelForm
namespace Go.Proofs.Ytbganaaiaokfmaa
open Go.RowKit

/-- What Bytes answers. -/
def bytesV (l : List Cel) : Value := if rgtB l = true then (if 65535 < l.length then .tuple #[.string ⟨#[]⟩, .int .i64 6] else .tuple #[.string (tx (bytesC l)), .int .i64 0]) else .tuple #[.string ⟨#[]⟩, .int .i64 100]
theorem entC_sz (x : CB) : entC (cel x) = szT x.1 ++ szT x.2 := by
  unfold entC szT cel
  simp only [len_size, List.append_assoc]
theorem heap_step (l : List CB) (k : Nat) (h : k < l.length) : heapC ((cels l).take (k + 1)) = heapC ((cels l).take k) ++ (szT l[k].1 ++ szT l[k].2) := by
  rw [List.take_succ_eq_append_getElem (by rw [cels_length]; exact h), heapC_snoc, cels_get l k h, entC_sz]
theorem slots_step (l : List CB) (k : Nat) (h : k < l.length) : slotsC ((cels l).take (k + 1)) 0 = slotsC ((cels l).take k) 0 ++ be (sizeC ((cels l).take k)) 4 := by
  rw [List.take_succ_eq_append_getElem (by rw [cels_length]; exact h), slotsC_snoc, Nat.zero_add]

set_option maxRecDepth 100000 in
set_option maxHeartbeats 4000000 in
theorem kbytes_any (A : Option Addr) (n c : Nat) (l : List CB) (w : World) (hl : Cels w A l) (hn : l.length = n) (hnb : n ≤ 300000) :
    Calls Try.prog 24 #[.slice A n c] w fun e w' => e = .returned (bytesV (cels l)) ∧ Below w.heap.size w w' := by
  have HRT := Lib.hid (kright_any A n c l w hl hn (by omega))
  have hcl := cels_length l
  cases hr : rgtB (cels l) with
  | false =>
    rw [hr] at HRT
    have HV := Lib.hid (show bytesV (cels l) = .tuple #[.string ⟨#[]⟩, .int .i64 100] by unfold bytesV; rw [hr]; rfl)
    rw [HV.out]
    clear hl hn hr hcl
    go_enter Try.func24, Try.ntmps24
    go_wp2_with fail
    refine HRT.out.mono ?_
    rintro e w1 ⟨rfl, hb1⟩
    have HB1 := Lib.hid hb1
    clear hb1
    go_wp2_with fail
    go_ret2
    exact ⟨rfl, HB1.out⟩
  | true =>
    rw [hr] at HRT
    by_cases h2 : 65535 < n
    · have HV := Lib.hid (show bytesV (cels l) = .tuple #[.string ⟨#[]⟩, .int .i64 6] by unfold bytesV; rw [if_pos hr, if_pos (by omega)])
      rw [HV.out]
      have g2 : (65535 : Int) < (n : Int) := by omega
      clear hl hn hr hcl h2
      go_enter Try.func24, Try.ntmps24
      go_wp2_with fail
      refine HRT.out.mono ?_
      rintro e w1 ⟨rfl, hb1⟩
      have HB1 := Lib.hid hb1
      clear hb1
      go_wp2_with fail
      go_ret2
      exact ⟨rfl, HB1.out⟩
    · have HV := Lib.hid (show bytesV (cels l) = .tuple #[.string (tx (be n 2 ++ slotsC (cels l) 0 ++ heapC (cels l))), .int .i64 0] by
        unfold bytesV bytesC
        rw [if_pos hr, if_neg (by omega), hcl, hn])
      rw [HV.out]
      have hR : Rgt (cels l) := of_decide_eq_true hr
      have hsz := rgt_size hR
      rw [cels_length, hn] at hsz
      have g2 : ¬ (65535 : Int) < (n : Int) := by omega
      have HL := Lib.hid hl
      have HHN := Lib.hid (fun _ : Unit => hn)
      have HS := Lib.hid (fun wx (hb : Below w.heap.size w wx) => kSize_any A n c l wx (hl.keeps hb) hn (by omega))
      have HFIT := Lib.hid (fun k (hk : k < l.length) => show l[k].1.size ≤ 513 ∧ l[k].2.size ≤ 2048 by
        have := hR.2 _ (List.getElem_mem (show k < (cels l).length by rw [cels_length]; exact hk))
        rw [cels_get l k hk] at this
        unfold fitC cel at this
        simp only [Bool.and_eq_true, decide_eq_true_eq, len_size] at this
        exact this)
      have HST := Lib.hid (fun k (hk : k < l.length) => show sizeC ((cels l).take (k + 1)) = sizeC ((cels l).take k) + 4 + l[k].1.size + l[k].2.size by
        rw [size_take _ _ (by rw [cels_length]; exact hk), cels_get _ _ hk]
        show _ + 4 + (l[k].1.toList).length + (l[k].2.toList).length = _
        rw [len_size, len_size])
      have HSB := Lib.hid (fun k => size_mono (cels l) k)
      have HSS := Lib.hid (fun k (hk : k < l.length) => slots_step l k hk)
      have HHS := Lib.hid (fun k (hk : k < l.length) => heap_step l k hk)
      have HS0 := Lib.hid (show sizeC ((cels l).take 0) = 0 ∧ slotsC ((cels l).take 0) 0 = [] ∧ heapC ((cels l).take 0) = [] by rw [List.take_zero]; exact ⟨rfl, rfl, rfl⟩)
      have HTN := Lib.hid (show (cels l).take n = cels l from List.take_of_length_le (by rw [cels_length]; omega))
      have HLS := Lib.hid (fun k => show (slotsC ((cels l).take k) 0).length ≤ 4 * n by rw [slotsC_length, List.length_take, cels_length, hn]; omega)
      have HLH := Lib.hid (fun k => show (heapC ((cels l).take k)).length = sizeC ((cels l).take k) from heapC_length _)
      have HSZ := Lib.hid ksz_any
      obtain ⟨S, hS⟩ : ∃ S, sizeC (cels l) = S := ⟨_, rfl⟩
      rw [hS] at HS HSB hsz
      rw [IntWalk.i64_in (S : Int) (by omega)] at HS
      have HSI := Lib.hid (show S ≤ 200000000 by omega)
      obtain ⟨N, hN⟩ : ∃ N : Nat, 2 + n * 4 + S = N := ⟨_, rfl⟩
      have HNB := Lib.hid (show N ≤ 300000000 by omega)
      have hw1 : IntKind.i64.wrap ((n : Int) * 4) = (n : Int) * 4 := IntWalk.i64_in _ (by omega)
      have hw2 : IntKind.i64.wrap (2 + (n : Int) * 4) = 2 + (n : Int) * 4 := IntWalk.i64_in _ (by omega)
      have hw3 : 2 + (n : Int) * 4 + (S : Int) = (N : Int) := by omega
      have hNI : (N : Int) ≤ 300000000 := by omega
      clear hl hn hr hcl h2 hR hS hN HV
      go_enter Try.func24, Try.ntmps24
      go_wp2_with fail
      refine HRT.out.mono ?_
      rintro e w1 ⟨rfl, hb1⟩
      have HB1 := Lib.hid hb1
      have HS1 := Lib.hid (HS.out w1 hb1)
      clear hb1 HRT HS
      go_wp2_with fail
      refine HS1.out.mono ?_
      rintro e w2 ⟨rfl, hb2⟩
      have HB2 := Lib.hid (HB1.out.trans (hb2.mono HB1.out.size))
      obtain ⟨wF, hmk, hgF⟩ := bytes_room N (by have := HNB.out; omega) w2
      obtain ⟨b, hb⟩ : ∃ b, wF.heap.size = b := ⟨_, rfl⟩
      obtain ⟨o, ho⟩ : ∃ o, wF.alloc (.cells #[.slice (some ⟨w2.heap.size, 0, none⟩) 0 N] 58) = o := ⟨_, rfl⟩
      have HOS := Lib.hid (show OutS w2 b [] o from ⟨hb ▸ hgF.2.size, _, (show GrB w2 [] (.slice (some ⟨w2.heap.size, 0, none⟩) 0 N) o from ho ▸ hgF.keeps ((Below.refl _ _).alloc (Nat.le_refl _) _)), (show Row o b 58 [.slice (some ⟨w2.heap.size, 0, none⟩) 0 N] (0, 0) from ho ▸ hb ▸ Row.new wF 58 [.slice (some ⟨w2.heap.size, 0, none⟩) 0 N] (0, 0))⟩)
      have HW1 := Lib.hid (kwrite_any w2 b n 2 [] o HOS.out rfl (by omega) (by simp))
      rw [List.nil_append] at HW1
      have hb0 : wF.heap.size = b := hb
      clear hb2 HS1 hgF hb
      go_wp2_with (first | (go_at_call 35; refine HW1.out.mono ?_; rintro e w' ⟨rfl, h1, -⟩; have HOW := Lib.hid h1; clear h1) | fail)
      go_loopw [6, 34] (fun x i wr => ∃ (k z : Nat), k ≤ n ∧ i = .int .i64 (k : Int) ∧ x = .int .i64 (z : Int) ∧ Hid (z = sizeC ((cels l).take k)) ∧ Hid (OutS w2 b (be n 2 ++ slotsC ((cels l).take k) 0) wr)) (fun _ i _ => n - (intOf i).toNat)
      case atStart => exact ⟨0, 0, Nat.zero_le _, rfl, rfl, Lib.hid HS0.out.1.symm, Lib.hid (by rw [HS0.out.2.1, List.append_nil]; exact HOW.out)⟩
      case round =>
        obtain ⟨k, z, hk, rfl, rfl, Hz, HOk⟩ := hrel
        by_cases hlt : k < n
        · have hkI : (k : Int) < (n : Int) := by omega
          have hkl : k < l.length := by have := HHN.out (); omega
          obtain ⟨g, off, rfl, HC⟩ := HL.out.at_ hkl
          have hst := HST.out k hkl
          have hsb := HSB.out (k + 1)
          have HSSk := Lib.hid (HSS.out k hkl)
          obtain ⟨c0, c1⟩ := HC.out k hkl wr (HB2.out.trans (HOk.out.old.mono HB2.out.size))
          obtain ⟨ky, hky⟩ : ∃ ky, l[k].1 = ky := ⟨_, rfl⟩
          obtain ⟨vl, hvl⟩ : ∃ vl, l[k].2 = vl := ⟨_, rfl⟩
          rw [hky] at c0
          rw [hvl] at c1
          rw [hky, hvl] at hst
          obtain ⟨o2, ho2⟩ : ∃ o2, wr.alloc (.cells #[.string ky, .string vl] 38) = o2 := ⟨_, rfl⟩
          have HOo := Lib.hid (show OutS w2 b (be n 2 ++ slotsC ((cels l).take k) 0) o2 from ho2 ▸ HOk.out.keeps ((Below.refl _ _).alloc (Nat.le_refl _) _))
          obtain ⟨B, hB⟩ : ∃ B, wr.heap.size = B := ⟨_, rfl⟩
          have HCo := Lib.hid (show Row o2 B 38 [.string ky, .string vl] (0, 0) from hB ▸ ho2 ▸ Row.new wr 38 [.string ky, .string vl] (0, 0))
          have HBb := Lib.hid (show B ≠ b from fun e => by obtain ⟨v, _, h⟩ := HOk.out.st; have := h.lt; omega)
          obtain ⟨u, hu⟩ : ∃ u : Nat, 4 + ky.size + vl.size = u := ⟨_, rfl⟩
          have hs0 := Hz.out
          have hS8 := HSI.out
          have hnew : z + u = sizeC ((cels l).take (k + 1)) := by omega
          have HNEW := Lib.hid hnew
          have HW := Lib.hid (kwrite_any w2 b z 4 _ o2 HOo.out rfl (by omega) (by rw [List.length_append, be_length]; have := HLS.out k; omega))
          have HZ := Lib.hid (fun wx => HSZ.out ky vl wx)
          rw [show (4 + (ky.size : Int) + (vl.size : Int)) = (u : Int) by omega, IntWalk.i64_in (u : Int) (by omega)] at HZ
          have hwz : IntKind.i64.wrap ((z : Int) + (u : Int)) = ((z + u : Nat) : Int) := by rw [show (z : Int) + (u : Int) = ((z + u : Nat) : Int) by omega]; exact IntWalk.i64_in _ (by omega)
          obtain ⟨z2, hz2⟩ : ∃ z2 : Nat, z + u = z2 := ⟨_, rfl⟩
          rw [hz2] at hwz HNEW
          have HSL := Lib.hid (show be n 2 ++ slotsC ((cels l).take k) 0 ++ be z 4 = be n 2 ++ slotsC ((cels l).take (k + 1)) 0 by rw [HSSk.out, ← List.append_assoc, hs0])
          rw [HSL.out] at HW
          clear HC hky hvl hkl hst hsb hs0 hnew hu hS8 hz2 HSZ HST HSS HHS HLS HLH HSB HFIT HSSk
          go_wp2_with (first | (go_at_call 35; refine HW.out.mono ?_; rintro e w3 ⟨rfl, h1, h2⟩; have HO3 := Lib.hid h1; have hc3 := h2 _ _ _ _ (by decide) HBb.out HCo.out; have q0 : w3.cell? ⟨B, 0, none⟩ = some (.string ky) := (by rw [hc3.cell]; rfl); have q1 : w3.cell? ⟨B, 1, none⟩ = some (.string vl) := (by rw [hc3.cell]; rfl); clear h1 h2 hc3) | fail)
          refine (HZ.out _).mono ?_
          rintro e w4 ⟨rfl, hb4⟩
          have HO4 := Lib.hid (HO3.out.keeps hb4)
          clear hb4 q0 q1 HZ
          go_wp2_with fail
          go_roundw
          case rel => exact ⟨k + 1, z2, by omega, by go_num, rfl, HNEW, HO4⟩
          case measure => simp [intOf]; omega
        · have hkI : ¬ (k : Int) < (n : Int) := by omega
          obtain rfl : k = n := by omega
          rw [HTN.out] at HOk
          have HO5 := Lib.hid (show OutS w2 b (be k 2 ++ slotsC (cels l) 0 ++ heapC ((cels l).take 0)) wr by rw [HS0.out.2.2, List.append_nil]; exact HOk.out)
          have HLSn := Lib.hid (show (slotsC (cels l) 0).length ≤ 4 * k by have := HLS.out k; rw [HTN.out] at this; exact this)
          clear HOk HSS HST HSZ Hz HLS hlt hk
          go_wp2_with fail
          go_loopw [48] (fun i wr => ∃ j : Nat, j ≤ k ∧ i = .int .i64 (j : Int) ∧ Hid (OutS w2 b (be k 2 ++ slotsC (cels l) 0 ++ heapC ((cels l).take j)) wr)) (fun i _ => k - (intOf i).toNat)
          case atStart => exact ⟨0, Nat.zero_le _, rfl, HO5⟩
          case round =>
            obtain ⟨j, hj, rfl, HOj⟩ := hrel
            by_cases hlt : j < k
            · have hjI : (j : Int) < (k : Int) := by omega
              have hjl : j < l.length := by have := HHN.out (); omega
              obtain ⟨g, off, rfl, HC⟩ := HL.out.at_ hjl
              have HHSj := Lib.hid (HHS.out j hjl)
              obtain ⟨hf1, hf2⟩ := HFIT.out j hjl
              obtain ⟨c0, c1⟩ := HC.out j hjl wr (HB2.out.trans (HOj.out.old.mono HB2.out.size))
              obtain ⟨ky, hky⟩ : ∃ ky, l[j].1 = ky := ⟨_, rfl⟩
              obtain ⟨vl, hvl⟩ : ∃ vl, l[j].2 = vl := ⟨_, rfl⟩
              rw [hky] at c0 hf1 HHSj
              rw [hvl] at c1 hf2 HHSj
              obtain ⟨o2, ho2⟩ : ∃ o2, wr.alloc (.cells #[.string ky, .string vl] 38) = o2 := ⟨_, rfl⟩
              have HOo := Lib.hid (show OutS w2 b (be k 2 ++ slotsC (cels l) 0 ++ heapC ((cels l).take j)) o2 from ho2 ▸ HOj.out.keeps ((Below.refl _ _).alloc (Nat.le_refl _) _))
              have HLB := Lib.hid (show (be k 2 ++ slotsC (cels l) 0 ++ heapC ((cels l).take j)).length ≤ 130000000000 by
                rw [List.length_append, List.length_append, be_length]
                have h1 := HLSn.out
                have h2 := HLH.out j
                have h3 := HSB.out j
                have h4 := HSI.out
                omega)
              have HNX := Lib.hid (show (be k 2 ++ slotsC (cels l) 0 ++ heapC ((cels l).take j)) ++ (szT ky ++ szT vl) = be k 2 ++ slotsC (cels l) 0 ++ heapC ((cels l).take (j + 1)) by rw [HHSj.out]; simp only [List.append_assoc])
              obtain ⟨X, hX⟩ : ∃ X, be k 2 ++ slotsC (cels l) 0 ++ heapC ((cels l).take j) = X := ⟨_, rfl⟩
              rw [hX] at HOo HLB HNX
              obtain ⟨B, hB⟩ : ∃ B, wr.heap.size = B := ⟨_, rfl⟩
              have hCo : Row o2 B 38 [.string ky, .string vl] (0, 0) := hB ▸ ho2 ▸ Row.new wr 38 [.string ky, .string vl] (0, 0)
              have q0 : o2.cell? ⟨B, 0, none⟩ = some (.string ky) := by rw [hCo.cell]; rfl
              have q1 : o2.cell? ⟨B, 1, none⟩ = some (.string vl) := by rw [hCo.cell]; rfl
              obtain ⟨v, hgo, hro⟩ := HOo.out.st
              obtain ⟨A2, n2, c2, rfl⟩ : ∃ A2 n2 c2, v = .slice A2 n2 c2 := by obtain ⟨A2, c2, h, -, -⟩ := hgo.slot; exact ⟨A2, _, c2, h⟩
              have hbox : o2.cell? ⟨b, 0, none⟩ = some (.slice A2 n2 c2) := by rw [hro.cell]; rfl
              obtain ⟨o3, ho3⟩ : ∃ o3, o2.alloc (.cells #[.string ky, .string vl] 9) = o3 := ⟨_, rfl⟩
              obtain ⟨B3, hB3⟩ : ∃ B3, o2.heap.size = B3 := ⟨_, rfl⟩
              have HG3 := Lib.hid (show GrB w2 X (.slice A2 n2 c2) o3 from ho3 ▸ hgo.keeps ((Below.refl _ _).alloc (Nat.le_refl _) _))
              have HR3 := Lib.hid (show Row o3 b 58 [.slice A2 n2 c2] (0, 0) from ho3 ▸ hro.alloc _)
              have HT3 := Lib.hid (show Row o3 B3 9 [.string ky, .string vl] (0, 0) from hB3 ▸ ho3 ▸ Row.new o2 9 [.string ky, .string vl] (0, 0))
              have HAP := Lib.hid (ktexts_any w2 X (.slice A2 n2 c2) B3 ky vl o3 HG3.out HT3.out HLB.out (by omega) (by omega))
              have HLO := Lib.hid HOo.out.lo
              clear HC hky hvl hjl hX hf1 hf2 HSB HHS HLH HFIT hCo hgo hro HOj
              go_wp2_with (first | (go_at_call 37; refine HAP.out.mono ?_; rintro e w4 ⟨v4, rfl, hg4, hf4⟩; have HG4 := Lib.hid hg4; have HR4 := Lib.hid (hf4 _ _ _ _ (by decide) HR3.out); have hbx4 : w4.cell? ⟨b, 0, none⟩ = some (.slice A2 n2 c2) := (by rw [HR4.out.cell]; rfl); have hfr4 := HR4.out.loose 0; obtain ⟨A4, c4, h4, -, -⟩ := hg4.slot; have HV4 := Lib.hid h4; have HE4 := Lib.hid (show OutS w2 b (be k 2 ++ slotsC (cels l) 0 ++ heapC ((cels l).take (j + 1))) (w4.setCell ⟨b, 0, none⟩ v4) from HNX.out ▸ ⟨HLO.out, v4, HG4.out.aside b HLO.out HR4.out (by decide) 0 v4, HR4.out.put 0 v4⟩); have hv4 := HV4.out; obtain ⟨n4, hn4⟩ : ∃ n4, (X ++ (szT ky ++ szT vl)).length = n4 := ⟨_, rfl⟩; rw [hn4] at hv4; subst hv4; clear hg4 hf4 h4 hn4) | fail)
              go_roundw
              case rel => exact ⟨j + 1, by omega, by go_num, HE4⟩
              case measure => simp [intOf]; omega
            · have hjI : ¬ (j : Int) < (k : Int) := by omega
              obtain rfl : j = k := by omega
              rw [HTN.out] at HOj
              obtain ⟨v, hgj, hrj⟩ := HOj.out.st
              have HB5 := Lib.hid (HB2.out.trans (HOj.out.old.mono HB2.out.size))
              obtain ⟨A2, c2, rfl, -, hrd⟩ := hgj.slot
              have hconv := run_text Try.underlying58 Try.underlying5 wr A2 _ c2 hrd 9 Try.underlying9
              have hbox : wr.cell? ⟨b, 0, none⟩ = some (.slice A2 (be j 2 ++ slotsC (cels l) 0 ++ heapC (cels l)).length c2) := by rw [hrj.cell]; rfl
              obtain ⟨X, hX⟩ : ∃ X, be j 2 ++ slotsC (cels l) 0 ++ heapC (cels l) = X := ⟨_, rfl⟩
              rw [hX] at hconv hbox
              have HX := Lib.hid hX
              clear hX hgj hrj hrd HOj HSB HHS HLH HFIT
              go_wp2_with fail
              go_ret2
              exact ⟨(by show _ = Ending.returned (.tuple #[.string (tx (be j 2 ++ slotsC (cels l) 0 ++ heapC (cels l))), .int .i64 0]); rw [HX.out]; rfl), HB5.out⟩
end Go.Proofs.Ytbganaaiaokfmaa
