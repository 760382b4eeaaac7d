/-
  The document's Pack, Top and Unpack: the same plain words as the code's.
-/
import Derived.Test.YtnmfgmlmjbfdcaaMasRefB
import Derived.Test.YtnmfgmlmjbfdcaaMasPackB
import Derived.Test.YtnmfgmlmjbfdcaaMasUnp
namespace Go.Proofs.Ytnmfgmlmjbfdcaa
open Go.RowKit

theorem mpack_any (v : Nat) (s : ByteArray) (size : Int) (w : World) (hv : v < 18446744073709551616) (hs : s.size ≤ 1000000) (h1 : -9223372036854775808 ≤ size) (h2 : size ≤ 9223372036854775807) :
    Calls Try.prog 11 #[.int .u64 (v : Int), .string s, .int .i64 size] w fun e w' => e = .returned (.tuple #[.string (tb (packT v (txt s) size)), .int .i64 ((packE v s.size size : Nat) : Int)]) ∧ Below w.heap.size w w' := by
  by_cases h : size < 64 ∨ 16384 < size ∨ size % 64 ≠ 0 ∨ v = 0
  · have e2 : packE v s.size size = 2 := packE_two h
    rw [e2, packT_bad (by show packE v s.size size ≠ 0; rw [e2]; decide)]
    exact (mpack_bad v s size w hv h1 h2 h).mono fun e w' he => ⟨he.1, he.2 ▸ Below.refl _ _⟩
  · obtain ⟨k, rfl⟩ : ∃ k : Nat, size = (k : Int) * 64 := ⟨(size / 64).toNat, by omega⟩
    by_cases hl : k * 56 < s.size + 4
    · have e3 : packE v s.size ((k : Int) * 64) = 3 := packE_three (by omega) (by omega) (by omega) hl
      rw [e3, packT_bad (by show packE v s.size _ ≠ 0; rw [e3]; decide)]
      exact (mpack_long v s k w hv (by omega) (by omega) (by omega) hs hl).mono fun e w' he => ⟨he.1, he.2 ▸ Below.refl _ _⟩
    · have hf : Fits v (txt s) k := ⟨by omega, by omega, by omega, hv, by show s.size + 4 ≤ k * 56; omega⟩
      have e0 : packE v s.size ((k : Int) * 64) = 0 := packE_of hf
      rw [e0, packT_of hf]
      exact mpack_good v s k w hf

theorem stamp_cut (b : List UInt8) {n k : Nat} (h : n = 64 * k) : (tb b).extract n (n + 8) = tb (seg b (k * 64) 8) := by
  rw [tb_cut, Nat.add_sub_cancel_left, h, Nat.mul_comm]
theorem piece_cut (b : List UInt8) {n k : Nat} (h : n = 64 * k) : tb (bodyL b (k + 1)) = tb (bodyL b k) ++ (tb b).extract (n + 8) (n + 64) := by
  rw [tb_cut, tb_app, show n + 64 - (n + 8) = 56 by omega, h, Nat.mul_comm 64 k]
  rfl
theorem seg_eight (b : List UInt8) (o : Nat) : (seg b o 8).length ≤ 8 := by unfold seg; rw [List.length_take]; omega
theorem ver_cut (b : List UInt8) : (tb b).extract 0 8 = tb (b.take 8) := by rw [tb_cut]; rfl
theorem num_cut (b : List UInt8) : (tb (bodyL b (b.length / 64))).extract 0 4 = tb ((bodyL b (b.length / 64)).take 4) := by rw [tb_cut]; rfl
theorem txt_cut (b : List UInt8) : (tb (bodyL b (b.length / 64))).extract 4 (4 + numOf b) = tb (txtOf b) := by
  rw [tb_cut, Nat.add_sub_cancel_left]
  rfl

set_option maxRecDepth 100000 in
set_option maxHeartbeats 2000000 in
theorem mtop_any (b : List UInt8) (w : World) (hb : b.length ≤ 1000000) : Calls Try.prog 15 #[.string (tb b)] w fun e w' => e = .returned (.int .u64 (topP b : Int)) ∧ w = w' := by
  have HW := Lib.hid (fun (n k : Nat) (h : n = 64 * k) (wx : World) => show Calls Try.prog 42 #[.string ((tb b).extract n (n + 8))] wx (fun e w' => e = .returned (.int .u64 (val (seg b (k * 64) 8) : Int)) ∧ wx = w') by
    rw [stamp_cut b h]
    exact mworth_any _ wx (seg_eight b _))
  have zb : (tb b).size = b.length := tb_size _
  have HL := Lib.hid (fun k => topL_lt b k)
  have HS := Lib.hid (fun k => stamp_lt b (k * 64))
  have HZ := Lib.hid (show ∀ k, topL b (k + 1) = max (topL b k) (val (seg b (k * 64) 8)) from fun _ => rfl)
  have bI : (b.length : Int) ≤ 1000000 := by omega
  go_enter Try.func15, Try.ntmps15
  go_wp2_with fail
  go_loopw [3, 4] (fun v i wr => ∃ n k t : Nat, Hid (n = 64 * k) ∧ k ≤ b.length / 64 ∧ i = .int .i64 (n : Int) ∧ v = .int .u64 (t : Int) ∧ Hid (t = topL b k) ∧ wr = w) (fun _ i _ => b.length / 64 * 64 - (intOf i).toNat)
  case atStart => exact ⟨0, 0, 0, Lib.hid rfl, Nat.zero_le _, rfl, rfl, Lib.hid rfl, rfl⟩
  case round =>
    obtain ⟨n, k, t, Hn, hk, rfl, rfl, Ht, rfl⟩ := hrel
    by_cases hlt : n + 64 ≤ b.length
    · have hI1 : (n : Int) + 64 ≤ ((tb b).size : Int) := by omega
      have hI2 : (n : Int) + 8 ≤ ((tb b).size : Int) := by omega
      have hI3 : (n : Int) ≤ (n : Int) + 8 := by omega
      have hI4 : (n : Int) ≤ 1000000 := by have := Hn.out; omega
      have HWk := Lib.hid (HW.out n k Hn.out wr)
      have hx := HS.out k
      have hz := HZ.out k
      have htl := HL.out k
      rw [← Ht.out] at hz htl
      obtain ⟨x, hxx⟩ : ∃ x, val (seg b (k * 64) 8) = x := ⟨_, rfl⟩
      rw [hxx] at HWk hx hz
      have HZk := Lib.hid hz
      clear HW HS HZ HL hxx hz Ht
      go_wp2_with fail
      refine HWk.out.mono ?_
      rintro e w1 ⟨rfl, rfl⟩
      by_cases hgt : t < x
      · have hgI : (t : Int) < (x : Int) := by omega
        go_wp2_with fail
        go_roundw
        case rel => exact ⟨n + 64, k + 1, x, Lib.hid (by have := Hn.out; omega), by have := Hn.out; omega, by go_num, rfl, Lib.hid (by rw [HZk.out]; omega), by simp⟩
        case measure => simp [intOf]; omega
      · have hgI : ¬ (t : Int) < (x : Int) := by omega
        go_wp2_with fail
        go_roundw
        case rel => exact ⟨n + 64, k + 1, t, Lib.hid (by have := Hn.out; omega), by have := Hn.out; omega, by go_num, rfl, Lib.hid (by rw [HZk.out]; omega), by simp⟩
        case measure => simp [intOf]; omega
    · have hI1 : ¬ (n : Int) + 64 ≤ ((tb b).size : Int) := by omega
      have hI4 : (n : Int) ≤ 1000000 := by have := Hn.out; omega
      have hk2 : k = b.length / 64 := by have := Hn.out; omega
      have HT := Lib.hid (show (t : Int) = (topP b : Int) by rw [Ht.out, hk2]; rfl)
      clear HW HS HZ HL Ht hk2
      go_wp2_with fail
      rw [HT.out]
      go_ret
      exact ⟨rfl, rfl⟩

set_option maxRecDepth 100000 in
set_option maxHeartbeats 4000000 in
theorem munpack_any (b : List UInt8) (w : World) (hb : b.length ≤ 1000000) : Calls Try.prog 13 #[.string (tb b)] w fun e w' => e = .returned (unpV b) ∧ Below w.heap.size w w' := by
  have zb : (tb b).size = b.length := tb_size _
  have bI : (b.length : Int) ≤ 1000000 := by omega
  have HPC := Lib.hid (fun (n k : Nat) (h : n = 64 * k) => piece_cut b h)
  have HZL := Lib.hid (fun (k : Nat) (h : k * 64 ≤ b.length) => show (tb (bodyL b k)).size = k * 56 by rw [tb_size, bodyL_length b k h])
  have HST := Lib.hid (fun (n k : Nat) (h : n = 64 * k) => stamp_cut b h)
  have HNO := Lib.hid (fun (k : Nat) (h : k * 64 + 64 ≤ b.length) (hne : seg b (k * 64) 8 ≠ seg b 0 8) => unpV_none (unpack_stamps h hne))
  have HNS := Lib.hid (fun (h : b.length < 64) => unpV_none (unpack_short h))
  have HNF := Lib.hid (fun (h : b.length / 64 * 56 < numOf b + 4) => unpV_none (unpack_far h))
  have HNB := Lib.hid (fun h => unpV_none (unpack_other (b := b) h))
  have HGO := Lib.hid (fun h h' => show unpV b = .tuple #[.int .u64 (verOf b : Int), .string (tb (txtOf b)), .bool true] by unfold unpV; rw [unpack_good verOf_lt h h'])
  have HTL := Lib.hid (fun h => txtOf_length (b := b) h)
  have HVL := Lib.hid (verOf_lt (b := b))
  have HNL := Lib.hid (numOf_lt (b := b))
  have HW8 := Lib.hid (fun (wx : World) => show Calls Try.prog 42 #[.string ((tb b).extract 0 8)] wx (fun e w' => e = .returned (.int .u64 (verOf b : Int)) ∧ wx = w') by
    rw [ver_cut]
    exact mworth_any _ wx (by rw [List.length_take]; omega))
  have HW4 := Lib.hid (fun (wx : World) => show Calls Try.prog 42 #[.string ((tb (bodyL b (b.length / 64))).extract 0 4)] wx (fun e w' => e = .returned (.int .u64 (numOf b : Int)) ∧ wx = w') by
    rw [num_cut]
    exact mworth_any _ wx (by rw [List.length_take]; omega))
  have HTX := Lib.hid (txt_cut b)
  have HPK := Lib.hid (fun (wx : World) (hl : (txtOf b).length ≤ 1000000) => mpack_any (verOf b) (tb (txtOf b)) (b.length : Int) wx verOf_lt (by rw [tb_size]; exact hl) (by omega) (by omega))
  have HB0 := Lib.hid (Below.refl w.heap.size w)
  go_enter Try.func13, Try.ntmps13
  go_wp2_with fail
  go_loopw [5, 6] (fun v i wr => ∃ n k : Nat, Hid (n = 64 * k) ∧ k ≤ b.length / 64 ∧ i = .int .i64 (n : Int) ∧ v = .string (tb (bodyL b k)) ∧ Hid (Below w.heap.size w wr)) (fun _ i _ => b.length / 64 * 64 - (intOf i).toNat)
  case atStart => exact ⟨0, 0, Lib.hid rfl, Nat.zero_le _, rfl, rfl, HB0⟩
  case round =>
    obtain ⟨n, k, Hn, hk, rfl, rfl, HBj⟩ := hrel
    by_cases hlt : n + 64 ≤ b.length
    · have hI1 : (n : Int) + 64 ≤ ((tb b).size : Int) := by omega
      have hI2 : (n : Int) + 8 ≤ ((tb b).size : Int) := by omega
      have hI3 : (n : Int) ≤ (n : Int) + 8 := by omega
      have hI4 : (n : Int) ≤ 1000000 := by have := Hn.out; omega
      have hI5 : (n : Int) + 8 ≤ (n : Int) + 64 := by omega
      have hI6 : (8 : Int) ≤ ((tb b).size : Int) := by omega
      have hb1 : (n : Int) + 64 ≤ (b.length : Int) := by omega
      have hb2 : (n : Int) + 8 ≤ (b.length : Int) := by omega
      have hb3 : (8 : Int) ≤ (b.length : Int) := by omega
      have hw1 : IntKind.i64.wrap ((n : Int) + 8) = (n : Int) + 8 := IntWalk.i64_in _ (by omega)
      have hw4 : (0 : Int) ≤ (n : Int) + 8 := by omega
      have hw5 : ((n : Int) + 8).toNat = n + 8 := by omega
      have hw6 : ((n : Int) + 64).toNat = n + 64 := by omega
      have hz := HZL.out k (by have := Hn.out; omega)
      have hzn := HZL.out (k + 1) (by have := Hn.out; omega)
      have hst := HST.out n k Hn.out
      have hst0 := HST.out 0 0 rfl
      rw [Nat.zero_mul, Nat.zero_add] at hst0
      have hno := HNO.out k (by have := Hn.out; omega)
      have hpc := HPC.out n k Hn.out
      rw [hpc, msize_append] at hzn
      have HPCk := Lib.hid hpc
      obtain ⟨wd, hwd⟩ : ∃ wd, wr.drew = wd := ⟨_, rfl⟩
      have HBd := Lib.hid (show Below w.heap.size w wd from hwd ▸ ⟨HBj.out.os, HBj.out.tape, HBj.out.output, HBj.out.size, HBj.out.block⟩)
      by_cases heq : seg b (k * 64) 8 = seg b 0 8
      · have hcmp : (((tb b).extract n (n + 8)).toList == ((tb b).extract 0 8).toList) = true := by rw [hst, hst0, heq]; exact beq_self_eq_true _
        have hHeld := True.intro
        clear HNO HNS HNF HNB HGO HTL HVL HNL HW8 HW4 HTX HPK HB0 HPC HZL HST hst hst0 heq hno hpc
        go_wp2_with fail
        refine wp_region_noPanic ?_
        refine wp_region_sch (fun _ => True) (fun i => [].contains i)
          (.takes [0, 1, 2, 3, 4, 5, 6, 7] .done) (by kernel_rfl) (fun _ _ _ _ _ h => h) (by kernel_rfl) ?_
        rw [hwd]
        iterate 8 (
          refine sch_takes_cons ?_
          first
            | (refine sch_take (v := ?_) rfl (by assumption) (by rfl) ?_ ?_; rotate_left; (focus (intro wy hSy; (try dsimp only at hSy); go_simp; (try with_reducible rfl))))
            | (refine sch_pass rfl (by assumption) (by rfl) ?_)
          simp only [Act.put, List.setIfInBounds_toArray, List.set_cons_zero, List.set_cons_succ])
        refine sch_takes_nil ?_
        refine sch_done ?_
        refine NoPanic.normal ?_
        clear hHeld
        go_wp2_with fail
        go_roundw
        case rel => exact ⟨n + 64, k + 1, Lib.hid (by have := Hn.out; omega), by have := Hn.out; omega, by go_num, by rw [HPCk.out], HBd⟩
        case measure => simp [intOf]; omega
      · have hcmp : (((tb b).extract n (n + 8)).toList == ((tb b).extract 0 8).toList) = false := by rw [hst, hst0, beq_eq_false_iff_ne, ByteArray.toList_eq, ByteArray.toList_eq, tb_list, tb_list]; exact heq
        have HG := Lib.hid (hno heq)
        have hHeld := True.intro
        clear HNO HNS HNF HNB HGO HTL HVL HNL HW8 HW4 HTX HPK HB0 HPC HZL HST hst hst0 heq hno hpc
        go_wp2_with fail
        refine wp_region_noPanic ?_
        refine wp_region_sch (fun _ => True) (fun i => [].contains i)
          (.takes [0, 1, 2, 3, 4, 5, 6, 7] .done) (by kernel_rfl) (fun _ _ _ _ _ h => h) (by kernel_rfl) ?_
        rw [hwd]
        iterate 8 (
          refine sch_takes_cons ?_
          first
            | (refine sch_take (v := ?_) rfl (by assumption) (by rfl) ?_ ?_; rotate_left; (focus (intro wy hSy; (try dsimp only at hSy); go_simp; (try with_reducible rfl))))
            | (refine sch_pass rfl (by assumption) (by rfl) ?_)
          simp only [Act.put, List.setIfInBounds_toArray, List.set_cons_zero, List.set_cons_succ])
        refine sch_takes_nil ?_
        refine sch_done ?_
        refine NoPanic.normal ?_
        clear hHeld
        go_wp2_with fail
        go_ret3
        exact ⟨by rw [HG.out]; rfl, HBd.out⟩
    · have hI1 : ¬ (n : Int) + 64 ≤ ((tb b).size : Int) := by omega
      have hI4 : (n : Int) ≤ 1000000 := by have := Hn.out; omega
      have hk2 : k = b.length / 64 := by have := Hn.out; omega
      subst hk2
      have hz := HZL.out _ (show b.length / 64 * 64 ≤ b.length by omega)
      obtain ⟨B, hB⟩ : ∃ B, tb (bodyL b (b.length / 64)) = B := ⟨_, rfl⟩
      rw [hB] at hz HW4 HTX ⊢
      clear HNO HPC HZL HST HB0 hB
      by_cases hsh : b.length < 64
      · have HG := Lib.hid (HNS.out hsh)
        have hz0 : B.size = 0 := by omega
        have hz0I : (B.size : Int) = 0 := by omega
        clear HNS HNF HNB HGO HTL HVL HNL HW8 HW4 HTX HPK hz
        go_wp2_with fail
        go_ret3
        exact ⟨by rw [HG.out]; rfl, HBj.out⟩
      · have hz1 : 56 ≤ B.size := by omega
        have hz2 : B.size ≤ 1000000 := by omega
        have hzI : ¬ (B.size : Int) = 0 := by omega
        have hzI2 : (4 : Int) ≤ (B.size : Int) := by omega
        have hnl := HNL.out
        by_cases hfar : b.length / 64 * 56 < numOf b + 4
        · have HG := Lib.hid (HNF.out hfar)
          have HW4r := Lib.hid (HW4.out wr)
          obtain ⟨N, hN⟩ : ∃ N, numOf b = N := ⟨_, rfl⟩
          rw [hN] at HW4r hnl hfar
          have hfI : (B.size : Int) - 4 < (N : Int) := by omega
          clear HNS HNF HNB HGO HTL HVL HNL HW8 HW4 HTX HPK hz hN hfar
          go_wp2_with fail
          refine HW4r.out.mono ?_
          rintro e w1 ⟨rfl, rfl⟩
          go_wp2_with fail
          go_ret3
          exact ⟨by rw [HG.out]; rfl, HBj.out⟩
        · have HW4r := Lib.hid (HW4.out wr)
          have htl := HTL.out (by omega)
          obtain ⟨V, hV⟩ : ∃ V, verOf b = V := ⟨_, rfl⟩
          obtain ⟨S, hS⟩ : ∃ S, txtOf b = S := ⟨_, rfl⟩
          obtain ⟨N, hN⟩ : ∃ N, numOf b = N := ⟨_, rfl⟩
          have hvl := HVL.out
          rw [hS] at HTX htl HGO HNB HPK
          rw [hN] at HW4r hnl hfar HTX htl
          rw [hV] at HGO HNB HPK hvl HW8
          have hszS : (tb S).size = N := by rw [tb_size, htl]
          have HPK2 := Lib.hid (fun wx => HPK.out wx (by omega))
          rw [hszS, show txt (tb S) = S from tb_list S] at HPK2
          rw [htl] at HGO HNB
          have hfI : ¬ (B.size : Int) - 4 < (N : Int) := by omega
          have hw1 : IntKind.u64.wrap (4 + (N : Int)) = 4 + (N : Int) := IntWalk.u64_in _ (by omega)
          have hw2 : (4 + (N : Int)).toNat = 4 + N := by omega
          have hw3 : 4 + (N : Int) ≤ (B.size : Int) := by omega
          have hw7 : 4 + (N : Int) ≤ (b.length : Int) / 64 * 56 := by omega
          have hw4 : (4 : Int) ≤ 4 + (N : Int) := by omega
          have hw5 : (0 : Int) ≤ 4 + (N : Int) := by omega
          have hb3 : (8 : Int) ≤ (b.length : Int) := by omega
          have hI6 : (8 : Int) ≤ ((tb b).size : Int) := by omega
          obtain ⟨SS, hSS⟩ : ∃ SS, tb S = SS := ⟨_, rfl⟩
          have htx := HTX.out
          rw [hSS] at htx HPK2 HGO
          have HW8d := Lib.hid (HW8.out)
          clear HNS HNF HTL HVL HNL HW8 HW4 HTX HPK hN hS hV hszS
          have hHeld := True.intro
          go_wp2_with fail
          refine HW4r.out.mono ?_
          rintro e w1 ⟨rfl, rfl⟩
          clear HW4r
          obtain ⟨wd, hwd⟩ : ∃ wd, wr.drew = wd := ⟨_, rfl⟩
          have HBd := Lib.hid (show Below w.heap.size w wd from hwd ▸ ⟨HBj.out.os, HBj.out.tape, HBj.out.output, HBj.out.size, HBj.out.block⟩)
          go_wp2_with fail
          refine wp_region_noPanic ?_
          refine wp_region_sch (fun _ => True) (fun i => [2].contains i)
            (.takes [0, 1, 3, 4, 5, 6] (.run 2 (.takes [7, 8] .done))) (by kernel_rfl) (fun _ _ _ _ _ h => h) (by kernel_rfl) ?_
          rw [hwd]
          iterate 6 (
            refine sch_takes_cons ?_
            first
              | (refine sch_take (v := ?_) rfl (by assumption) (by rfl) ?_ ?_; rotate_left; (focus (intro wy hSy; (try dsimp only at hSy); go_simp; (try with_reducible rfl))))
              | (refine sch_pass rfl (by assumption) (by rfl) ?_)
            simp only [Act.put, List.setIfInBounds_toArray, List.set_cons_zero, List.set_cons_succ])
          refine sch_takes_nil ?_
          refine sch_run rfl (fun K hK => ?_)
          go_simp
          with_reducible refine (HW8d.out _).mono ?_
          rintro e we ⟨rfl, rfl⟩
          refine hK.out _ _ (fun _ => hHeld) ?_
          clear hK K
          try simp only [Act.put, List.setIfInBounds_toArray, List.set_cons_zero, List.set_cons_succ]
          iterate 2 (
            refine sch_takes_cons ?_
            first
              | (refine sch_take (v := ?_) rfl (by assumption) (by rfl) ?_ ?_; rotate_left; (focus (intro wy hSy; (try dsimp only at hSy); go_simp; (try with_reducible rfl))))
              | (refine sch_pass rfl (by assumption) (by rfl) ?_)
            simp only [Act.put, List.setIfInBounds_toArray, List.set_cons_zero, List.set_cons_succ])
          refine sch_takes_nil ?_
          refine sch_done ?_
          refine NoPanic.normal ?_
          clear hHeld HW8d
          have HPd := Lib.hid (HPK2.out wd)
          clear HPK2
          rcases packE_cases V N (b.length : Int) with e0 | e0 | e0
          · by_cases hT0 : packT V S (b.length : Int) = b
            · have HG := Lib.hid (HGO.out e0 hT0)
              have HP8 := Lib.hid HPd.out
              rw [e0, hT0] at HP8
              clear e0 hT0 HPd HGO HNB
              go_wp2_with fail
              refine HP8.out.mono ?_
              rintro e w8 ⟨rfl, hb8⟩
              have HB8 := Lib.hid (HBd.out.trans (hb8.mono HBd.out.size))
              clear hb8
              go_wp2_with fail
              go_ret3
              exact ⟨by rw [HG.out]; rfl, HB8.out⟩
            · have HG := Lib.hid (HNB.out (.inr hT0))
              have HP8 := Lib.hid HPd.out
              rw [e0] at HP8
              have hne : ((tb (packT V S (b.length : Int))).toList == (tb b).toList) = false := by rw [beq_eq_false_iff_ne, ByteArray.toList_eq, ByteArray.toList_eq, tb_list, tb_list]; exact hT0
              obtain ⟨X, hX⟩ : ∃ X, tb (packT V S (b.length : Int)) = X := ⟨_, rfl⟩
              rw [hX] at HP8 hne
              clear hT0 hX
              clear e0 HPd HGO HNB
              go_wp2_with fail
              refine HP8.out.mono ?_
              rintro e w8 ⟨rfl, hb8⟩
              have HB8 := Lib.hid (HBd.out.trans (hb8.mono HBd.out.size))
              clear hb8
              go_wp2_with fail
              go_ret3
              exact ⟨by rw [HG.out]; rfl, HB8.out⟩
          · have HG := Lib.hid (HNB.out (.inl (by rw [e0]; decide)))
            have HP8 := Lib.hid HPd.out
            rw [e0] at HP8
            clear e0 HPd HGO HNB
            go_wp2_with fail
            refine HP8.out.mono ?_
            rintro e w8 ⟨rfl, hb8⟩
            have HB8 := Lib.hid (HBd.out.trans (hb8.mono HBd.out.size))
            clear hb8
            go_wp2_with fail
            go_ret3
            exact ⟨by rw [HG.out]; rfl, HB8.out⟩
          · have HG := Lib.hid (HNB.out (.inl (by rw [e0]; decide)))
            have HP8 := Lib.hid HPd.out
            rw [e0] at HP8
            clear e0 HPd HGO HNB
            go_wp2_with fail
            refine HP8.out.mono ?_
            rintro e w8 ⟨rfl, hb8⟩
            have HB8 := Lib.hid (HBd.out.trans (hb8.mono HBd.out.size))
            clear hb8
            go_wp2_with fail
            go_ret3
            exact ⟨by rw [HG.out]; rfl, HB8.out⟩
end Go.Proofs.Ytnmfgmlmjbfdcaa
