/-
  The document's Bytes.
-/
import Derived.Test.YtbganaaiaokfmaaCelBytesB
namespace Go.Proofs.Ytbganaaiaokfmaa
open Go.RowKit

set_option maxRecDepth 100000 in
set_option maxHeartbeats 4000000 in
theorem cbytes_any (A : Option Addr) (n c : Nat) (l : List CB) (w : World) (hl : Cels w A l) (hn : l.length = n) (hnb : n ≤ 300000) :
    Calls Try.prog 25 #[.slice A n c] w fun e w' => e = .returned (bytesV (cels l)) ∧ Below w.heap.size w w' := by
  have HRT := Lib.hid (cright_any A n c l w hl hn (by omega))
  have hcl := cels_length l
  cases hr : rgtB (cels l) with
  | false =>
    rw [hr] at HRT
    have HV := Lib.hid (show bytesV (cels l) = .tuple #[.string ⟨#[]⟩, .int .i64 100] by unfold bytesV; rw [hr]; rfl)
    rw [HV.out]
    clear hl hn hr hcl
    go_enter Try.func25, Try.ntmps25
    go_wp2_with fail
    refine HRT.out.mono ?_
    rintro e w1 ⟨rfl, hb1⟩
    have HB1 := Lib.hid hb1
    clear hb1
    go_wp2_with fail
    go_ret2
    exact ⟨rfl, HB1.out⟩
  | true =>
    rw [hr] at HRT
    by_cases h2 : 65535 < n
    · have HV := Lib.hid (show bytesV (cels l) = .tuple #[.string ⟨#[]⟩, .int .i64 6] by unfold bytesV; rw [if_pos hr, if_pos (by omega)])
      rw [HV.out]
      have g2 : (65535 : Int) < (n : Int) := by omega
      clear hl hn hr hcl h2
      go_enter Try.func25, Try.ntmps25
      go_wp2_with fail
      refine HRT.out.mono ?_
      rintro e w1 ⟨rfl, hb1⟩
      have HB1 := Lib.hid hb1
      clear hb1
      go_wp2_with fail
      go_ret2
      exact ⟨rfl, HB1.out⟩
    · have HV := Lib.hid (show bytesV (cels l) = .tuple #[.string (tx (be n 2 ++ slotsC (cels l) 0 ++ heapC (cels l))), .int .i64 0] by
        unfold bytesV bytesC
        rw [if_pos hr, if_neg (by omega), hcl, hn])
      rw [HV.out]
      have hR : Rgt (cels l) := of_decide_eq_true hr
      have hsz := rgt_size hR
      rw [cels_length, hn] at hsz
      have g2 : ¬ (65535 : Int) < (n : Int) := by omega
      have HL := Lib.hid hl
      have HHN := Lib.hid (fun _ : Unit => hn)
      have HFIT := Lib.hid (fun k (hk : k < l.length) => show l[k].1.size ≤ 513 ∧ l[k].2.size ≤ 2048 by
        have := hR.2 _ (List.getElem_mem (show k < (cels l).length by rw [cels_length]; exact hk))
        rw [cels_get l k hk] at this
        unfold fitC cel at this
        simp only [Bool.and_eq_true, decide_eq_true_eq, len_size] at this
        exact this)
      have HSB := Lib.hid (fun k => show sizeC ((cels l).take k) ≤ 300000000 by have := size_mono (cels l) k; omega)
      have HSS := Lib.hid (fun k (hk : k < l.length) => slots_step l k hk)
      have HHS := Lib.hid (fun k (hk : k < l.length) => heap_step l k hk)
      have HS0 := Lib.hid (show slotsC ((cels l).take 0) 0 = [] ∧ heapC ((cels l).take 0) = [] by rw [List.take_zero]; exact ⟨rfl, rfl⟩)
      have HTN := Lib.hid (show (cels l).take n = cels l from List.take_of_length_le (by rw [cels_length]; omega))
      have HLS := Lib.hid (fun k => show (slotsC ((cels l).take k) 0).length ≤ 4 * n by rw [slotsC_length, List.length_take, cels_length, hn]; omega)
      have HLH := Lib.hid (fun k => show (heapC ((cels l).take k)).length = sizeC ((cels l).take k) from heapC_length _)
      have HB0 := Lib.hid (Below.refl w.heap.size w)
      have HNU := Lib.hid (fun (v k : Nat) (hk : k ≤ 8) (hv : v ≤ 9223372036854775807) wx => cnumber_any v k wx hk hv)
      have hNn : n ≤ 65535 := by omega
      clear hl hn hr hcl h2 hR HV hsz
      go_enter Try.func25, Try.ntmps25
      go_wp2_with fail
      refine HRT.out.mono ?_
      rintro e w1 ⟨rfl, hb1⟩
      have HB1 := Lib.hid hb1
      clear hb1 HRT
      go_wp2_with fail
      refine (HNU.out n 2 (by omega) (by omega) _).mono ?_
      rintro e w2 ⟨rfl, hb2⟩
      have HB2 := Lib.hid (HB1.out.trans (hb2.mono HB1.out.size))
      clear hb2
      go_wp2_with fail
      go_loopw [4, 5, 6] (fun x y i wr => ∃ (k : Nat) (s h : ByteArray), k ≤ n ∧ i = .int .i64 (k : Int) ∧ x = .string s ∧ y = .string h ∧ Hid (s = tx (be n 2 ++ slotsC ((cels l).take k) 0)) ∧ Hid (h = tx (heapC ((cels l).take k))) ∧ Hid (Below w.heap.size w wr)) (fun _ _ i _ => n - (intOf i).toNat)
      case atStart => exact ⟨0, _, _, Nat.zero_le _, rfl, rfl, rfl, Lib.hid (by rw [HS0.out.1, List.append_nil]), Lib.hid (by rw [HS0.out.2]; rfl), HB2⟩
      case round =>
        obtain ⟨k, s, h, hk, rfl, rfl, rfl, Hs, Hh, HBk⟩ := hrel
        by_cases hlt : k < n
        · have hkI : (k : Int) < (n : Int) := by omega
          have hkl : k < l.length := by have := HHN.out (); omega
          obtain ⟨g, off, rfl, HC⟩ := HL.out.at_ hkl
          have HHSk := Lib.hid (HHS.out k hkl)
          have HSSk := Lib.hid (HSS.out k hkl)
          obtain ⟨hf1, hf2⟩ := HFIT.out k hkl
          obtain ⟨ky, hky⟩ : ∃ ky, l[k].1 = ky := ⟨_, rfl⟩
          obtain ⟨vl, hvl⟩ : ∃ vl, l[k].2 = vl := ⟨_, rfl⟩
          have HCk := Lib.hid (HC.out k hkl)
          rw [hky, hvl] at HCk HHSk
          rw [hky] at hf1
          rw [hvl] at hf2
          have hss : s.size ≤ 400000 := by rw [Hs.out, tx_size, List.length_append, be_length]; have := HLS.out k; omega
          have hhs : h.size ≤ 300000000 := by rw [Hh.out, tx_size, HLH.out k]; exact HSB.out k
          have hhe : h.size = sizeC ((cels l).take k) := by rw [Hh.out, tx_size, HLH.out k]
          have HN4 := Lib.hid (show ∀ wx, Calls Try.prog 38 #[.int .i64 (h.size : Int), .int .i64 4] wx (fun e w' => e = .returned (.string (tx (be h.size 4))) ∧ Below wx.heap.size wx w') from fun wx => HNU.out h.size 4 (by omega) (by omega) wx)
          have HN1 := Lib.hid (show ∀ wx, Calls Try.prog 38 #[.int .i64 (ky.size : Int), .int .i64 2] wx (fun e w' => e = .returned (.string (tx (be ky.size 2))) ∧ Below wx.heap.size wx w') from fun wx => HNU.out ky.size 2 (by omega) (by omega) wx)
          have HN2 := Lib.hid (show ∀ wx, Calls Try.prog 38 #[.int .i64 (vl.size : Int), .int .i64 2] wx (fun e w' => e = .returned (.string (tx (be vl.size 2))) ∧ Below wx.heap.size wx w') from fun wx => HNU.out vl.size 2 (by omega) (by omega) wx)
          obtain ⟨p4, hp4⟩ : ∃ p, tx (be h.size 4) = p := ⟨_, rfl⟩
          obtain ⟨p1, hp1⟩ : ∃ p, tx (be ky.size 2) = p := ⟨_, rfl⟩
          obtain ⟨p2, hp2⟩ : ∃ p, tx (be vl.size 2) = p := ⟨_, rfl⟩
          have z4 : p4.size = 4 := by rw [← hp4, tx_size, be_length]
          have z1 : p1.size = 2 := by rw [← hp1, tx_size, be_length]
          have z2 : p2.size = 2 := by rw [← hp2, tx_size, be_length]
          obtain ⟨s2, hs2⟩ : ∃ x, s ++ p4 = x := ⟨_, rfl⟩
          obtain ⟨h1, hh1⟩ : ∃ x, h ++ p1 = x := ⟨_, rfl⟩
          obtain ⟨h2, hh2⟩ : ∃ x, h1 ++ ky = x := ⟨_, rfl⟩
          obtain ⟨h3, hh3⟩ : ∃ x, h2 ++ p2 = x := ⟨_, rfl⟩
          obtain ⟨h4, hh4⟩ : ∃ x, h3 ++ vl = x := ⟨_, rfl⟩
          have y1 : h1.size = h.size + 2 := by rw [← hh1, ByteArray.size_append, z1]
          have y2 : h2.size = h.size + 2 + ky.size := by rw [← hh2, ByteArray.size_append, y1]
          have y3 : h3.size = h.size + 4 + ky.size := by rw [← hh3, ByteArray.size_append, y2, z2]; omega
          have b0 : s.size + p4.size ≤ 9223372036854775807 := by omega
          have b1 : h.size + p1.size ≤ 9223372036854775807 := by omega
          have b2 : h1.size + ky.size ≤ 9223372036854775807 := by omega
          have b3 : h2.size + p2.size ≤ 9223372036854775807 := by omega
          have b4 : h3.size + vl.size ≤ 9223372036854775807 := by omega
          have n1 : ¬ 9223372036854775807 < h.size + p1.size := by omega
          have n2 : ¬ 9223372036854775807 < h1.size + ky.size := by omega
          have n3 : ¬ 9223372036854775807 < h2.size + p2.size := by omega
          have n4 : ¬ 9223372036854775807 < h3.size + vl.size := by omega
          have HSE := Lib.hid (show s2 = tx (be n 2 ++ slotsC ((cels l).take (k + 1)) 0) by
            rw [← hs2, Hs.out, ← hp4, tx_app, HSSk.out, hhe, List.append_assoc])
          have HHE := Lib.hid (show h4 = tx (heapC ((cels l).take (k + 1))) by
            rw [← hh4, ← hh3, ← hh2, ← hh1, Hh.out, ← hp1, ← hp2, HHSk.out, ← tx_of ky, ← tx_of vl, tx_app, tx_app, tx_app, tx_app]
            unfold szT
            rw [tx_list, tx_list, tx_size, tx_size, len_size, len_size]
            simp only [List.append_assoc])
          rw [hp4] at HN4
          rw [hp1] at HN1
          rw [hp2] at HN2
          clear HC hky hvl hkl hhe hp4 hp1 hp2 HSS HHS HLS HLH HSB HFIT HNU z4 z1 z2 y1 y2 y3 Hs Hh hf1 hf2 hss hhs
          go_wp2_with fail
          refine (HN4.out _).mono ?_
          rintro e w3 ⟨rfl, hb3⟩
          have HB3 := Lib.hid (HBk.out.trans (hb3.mono HBk.out.size))
          clear hb3
          go_wp2_with fail
          obtain ⟨wd, hwd⟩ : ∃ wd, w3.drew = wd := ⟨_, rfl⟩
          have HBd := Lib.hid (show Below w.heap.size w wd from hwd ▸ below_drew_c HB3.out)
          have hHeld := HCk.out wd HBd.out
          refine wp_region_noPanic ?_
          refine wp_region_sch (fun wx => wx.cell? ⟨g, off + k * 2, none⟩ = some (.string ky) ∧ wx.cell? ⟨g, off + k * 2 + 1, none⟩ = some (.string vl)) (fun i => [7, 21].contains i)
            (.takes [0, 1, 2, 3, 4, 5, 6, 9, 10, 11, 12, 13, 15, 16, 17, 18, 19, 20, 23, 24, 25, 26, 27] (.run 7 (.takes [8, 14] (.run 21 (.takes [22, 28, 29] .done))))) (by kernel_rfl) (fun _ _ _ _ _ h => h) (by kernel_rfl) ?_
          rw [hwd]
          iterate 23 (
            refine sch_takes_cons ?_
            first
              | (refine sch_take (v := ?_) rfl (by assumption) (by rfl) ?_ ?_; rotate_left; (focus (intro wy hSy; (try dsimp only at hSy); go_simp; (try with_reducible rfl))))
              | (refine sch_pass rfl (by assumption) (by rfl) ?_)
            simp only [Act.put, List.setIfInBounds_toArray, List.set_cons_zero, List.set_cons_succ])
          refine sch_takes_nil ?_
          refine sch_run rfl (fun K hK => ?_)
          go_simp
          with_reducible refine (HN1.out _).mono ?_
          rintro e w5 ⟨rfl, hb5⟩
          have HB5 := Lib.hid (HBd.out.trans (hb5.mono HBd.out.size))
          have hHeld := HCk.out w5 HB5.out
          clear hb5
          refine hK.out _ _ (fun _ => hHeld) ?_
          clear hK K
          try simp only [Act.put, List.setIfInBounds_toArray, List.set_cons_zero, List.set_cons_succ]
          iterate 2 (
            refine sch_takes_cons ?_
            first
              | (refine sch_take (v := ?_) rfl (by assumption) (by rfl) ?_ ?_; rotate_left; (focus (intro wy hSy; (try dsimp only at hSy); go_simp; (try with_reducible rfl))))
              | (refine sch_pass rfl (by assumption) (by rfl) ?_)
            simp only [Act.put, List.setIfInBounds_toArray, List.set_cons_zero, List.set_cons_succ])
          refine sch_takes_nil ?_
          refine sch_run rfl (fun K hK => ?_)
          go_simp
          with_reducible refine (HN2.out _).mono ?_
          rintro e w6 ⟨rfl, hb6⟩
          have HB6 := Lib.hid (HB5.out.trans (hb6.mono HB5.out.size))
          have hHeld := HCk.out w6 HB6.out
          clear hb6
          refine hK.out _ _ (fun _ => hHeld) ?_
          clear hK K
          try simp only [Act.put, List.setIfInBounds_toArray, List.set_cons_zero, List.set_cons_succ]
          iterate 3 (
            refine sch_takes_cons ?_
            first
              | (refine sch_take (v := ?_) rfl (by assumption) (by rfl) ?_ ?_; rotate_left; (focus (intro wy hSy; (try dsimp only at hSy); go_simp; (try with_reducible rfl))))
              | (refine sch_pass rfl (by assumption) (by rfl) ?_)
            simp only [Act.put, List.setIfInBounds_toArray, List.set_cons_zero, List.set_cons_succ])
          refine sch_takes_nil ?_
          refine sch_done ?_
          refine NoPanic.normal ?_
          clear hHeld
          go_wp2_with fail
          go_roundw
          case rel => exact ⟨k + 1, s2, h4, by omega, by go_num, rfl, rfl, HSE, HHE, HB6⟩
          case measure => simp [intOf]; omega
        · have hkI : ¬ (k : Int) < (n : Int) := by omega
          obtain rfl : k = n := by omega
          rw [HTN.out] at Hs Hh
          obtain ⟨S, hS⟩ : ∃ x, s ++ h = x := ⟨_, rfl⟩
          have HE := Lib.hid (show S = tx (be k 2 ++ slotsC (cels l) 0 ++ heapC (cels l)) by rw [← hS, Hs.out, Hh.out, tx_app])
          have hss : s.size ≤ 400000 := by rw [Hs.out, tx_size, List.length_append, be_length]; have := HLS.out k; rw [HTN.out] at this; omega
          have hhs : h.size ≤ 300000000 := by rw [Hh.out, tx_size]; have h1 := HLH.out k; have h2 := HSB.out k; rw [HTN.out] at h1 h2; omega
          have b0 : s.size + h.size ≤ 9223372036854775807 := by omega
          clear HSS HHS HLS HLH HSB HFIT HNU Hs Hh hss hhs
          go_wp2_with fail
          go_ret2
          exact ⟨(by show _ = Ending.returned (.tuple #[.string (tx (be k 2 ++ slotsC (cels l) 0 ++ heapC (cels l))), .int .i64 0]); rw [← HE.out]; rfl), HBk.out⟩
end Go.Proofs.Ytbganaaiaokfmaa
