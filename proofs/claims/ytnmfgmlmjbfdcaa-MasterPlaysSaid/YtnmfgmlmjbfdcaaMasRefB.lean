/-
  The walks over the document's answer for package master, part B: Pack.
-/
import Derived.Test.YtnmfgmlmjbfdcaaMasRefA
import Derived.Test.YtnmfgmlmjbfdcaaMDevF
import Derived.Test.YtnmfgmlmjbfdcaaDraw
namespace Go.Proofs.Ytnmfgmlmjbfdcaa
open Go.RowKit

theorem rep_tb (n : Nat) : rep 0 n = tb (List.replicate n 0) := rfl
theorem packL_next (v : Nat) (t : List UInt8) (j : Nat) : tb (packL v t (j + 1)) = tb (packL v t j) ++ tb (be v 8) ++ (tb t).extract (56 * j) (56 * j + 56) := by
  rw [tb_cut, tb_app, tb_app, show 56 * j + 56 - 56 * j = 56 by omega, show 56 * j = j * 56 by omega]
  rw [List.append_assoc]
  rfl
theorem msize_append (a b : ByteArray) : (a ++ b).size = a.size + b.size := by
  have := congrArg List.length (txt_append a b)
  rw [List.length_append] at this
  exact this

set_option maxRecDepth 100000 in
set_option maxHeartbeats 2000000 in
theorem mpack_bad (v : Nat) (s : ByteArray) (size : Int) (w : World) (hv : v < 18446744073709551616) (h1 : -9223372036854775808 ≤ size) (h2 : size ≤ 9223372036854775807) (h : size < 64 ∨ 16384 < size ∨ size % 64 ≠ 0 ∨ v = 0) :
    Calls Try.prog 11 #[.int .u64 (v : Int), .string s, .int .i64 size] w fun e w' => e = .returned (.tuple #[.string ⟨#[]⟩, .int .i64 2]) ∧ w = w' := by
  rcases (show size < 64 ∨ (64 ≤ size ∧ 16384 < size) ∨ (64 ≤ size ∧ size ≤ 16384 ∧ size % 64 ≠ 0) ∨ (64 ≤ size ∧ size ≤ 16384 ∧ size % 64 = 0 ∧ v = 0) by omega) with h3 | ⟨h3, h4⟩ | ⟨h3, h4, h5⟩ | ⟨h3, h4, h5, rfl⟩
  · have h6 : size < 64 := h3
    go_enter Try.func11, Try.ntmps11
    go_wp2
    go_ret2
    exact ⟨rfl, rfl⟩
  · have h6 : ¬ size < 64 := by omega
    go_enter Try.func11, Try.ntmps11
    go_wp2
    go_ret2
    exact ⟨rfl, rfl⟩
  · have h6 : ¬ size < 64 := by omega
    have h7 : ¬ (16384 : Int) < size := by omega
    have h8 : Int.tmod size 64 = size % 64 := Int.tmod_eq_emod_of_nonneg (by omega)
    have h9 : ¬ Int.tmod size 64 = 0 := by rw [h8]; exact h5
    go_enter Try.func11, Try.ntmps11
    go_wp2
    go_ret2
    exact ⟨rfl, rfl⟩
  · have h6 : ¬ size < 64 := by omega
    have h7 : ¬ (16384 : Int) < size := by omega
    have h8 : Int.tmod size 64 = size % 64 := Int.tmod_eq_emod_of_nonneg (by omega)
    have h9 : Int.tmod size 64 = 0 := by rw [h8]; exact h5
    go_enter Try.func11, Try.ntmps11
    go_wp2
    go_ret2
    exact ⟨rfl, rfl⟩

set_option maxRecDepth 100000 in
set_option maxHeartbeats 2000000 in
theorem mpack_long (v : Nat) (s : ByteArray) (k : Nat) (w : World) (_hv : v < 18446744073709551616) (h0 : v ≠ 0) (h1 : 1 ≤ k) (h2 : k ≤ 256) (hs : s.size ≤ 1000000) (h : k * 56 < s.size + 4) :
    Calls Try.prog 11 #[.int .u64 (v : Int), .string s, .int .i64 ((k : Int) * 64)] w fun e w' => e = .returned (.tuple #[.string ⟨#[]⟩, .int .i64 3]) ∧ w = w' := by
  have g1 : ¬ (k : Int) * 64 < 64 := by omega
  have g2 : ¬ (16384 : Int) < (k : Int) * 64 := by omega
  have g3 : Int.tmod ((k : Int) * 64) 64 = 0 := by rw [Int.tmod_eq_emod_of_nonneg (by omega)]; omega
  have g4 : Int.tdiv ((k : Int) * 64) 64 = (k : Int) := by rw [Int.tdiv_eq_ediv_of_nonneg (by omega)]; omega
  have g5 : ¬ (v : Int) = 0 := by omega
  have g6 : (k : Int) * 56 < (s.size : Int) + 4 := by omega
  have g7 : (s.size : Int) ≤ 1000000 := by omega
  have g8 : (k : Int) ≤ 256 := by omega
  go_enter Try.func11, Try.ntmps11
  go_wp2
  go_ret2
  exact ⟨rfl, rfl⟩

set_option maxRecDepth 100000 in
set_option maxHeartbeats 4000000 in
theorem mpack_good (v : Nat) (s : ByteArray) (k : Nat) (w : World) (hf : Fits v (txt s) k) :
    Calls Try.prog 11 #[.int .u64 (v : Int), .string s, .int .i64 ((k : Int) * 64)] w fun e w' => e = .returned (.tuple #[.string (tb (packed v (txt s) k)), .int .i64 0]) ∧ Below w.heap.size w w' := by
  have hk0 := hf.k0
  have hk1 := hf.k1
  have hv0 := hf.v0
  have hv1 := hf.v1
  have hs1 : s.size + 4 ≤ k * 56 := hf.s1
  have g1 : ¬ (k : Int) * 64 < 64 := by omega
  have g2 : ¬ (16384 : Int) < (k : Int) * 64 := by omega
  have g3 : Int.tmod ((k : Int) * 64) 64 = 0 := by rw [Int.tmod_eq_emod_of_nonneg (by omega)]; omega
  have g4 : Int.tdiv ((k : Int) * 64) 64 = (k : Int) := by rw [Int.tdiv_eq_ediv_of_nonneg (by omega)]; omega
  have g5 : ¬ (v : Int) = 0 := by omega
  have g6 : ¬ (k : Int) * 56 < (s.size : Int) + 4 := by omega
  have g7 : (s.size : Int) ≤ 1000000 := by omega
  have g8 : (k : Int) ≤ 256 := by omega
  have HN4 := Lib.hid (fun wx => mnum_any s.size 4 wx (by decide) (by omega))
  have HN8 := Lib.hid (fun wx => mnum_any v 8 wx (by decide) hv1)
  obtain ⟨Z, hZ⟩ : ∃ Z, k * 56 - (4 + s.size) = Z := ⟨_, rfl⟩
  obtain ⟨o, hmk, hcv⟩ := zeros_made Z (by omega) (Z : Int) rfl
  have hT : tb (be s.size 4) ++ s ++ rep 0 Z = tb (textL (txt s) k) := by
    have := textL_made (s := txt s) (k := k) hs1
    rw [show tb (txt s) = s from tb_of s, show (txt s).length = s.size from rfl, hZ] at this
    exact this
  have z4 : (tb (be s.size 4)).size = 4 := by rw [tb_size, be_length]
  have z8 : (tb (be v 8)).size = 8 := by rw [tb_size, be_length]
  have zT : (tb (textL (txt s) k)).size = k * 56 := by rw [tb_size, textL_length]
  have HNX := Lib.hid (fun j => packL_next v (textL (txt s) k) j)
  have HZL := Lib.hid (show ∀ j, j ≤ k → (tb (packL v (textL (txt s) k) j)).size = j * 64 from fun j hj => by rw [tb_size, packL_length _ _ _ (by rw [textL_length]; omega)])
  have H0 := Lib.hid (show tb (packL v (textL (txt s) k) 0) = ⟨#[]⟩ from rfl)
  have HEND := Lib.hid (show tb (packL v (textL (txt s) k) k) = tb (packed v (txt s) k) from rfl)
  have HB0 := Lib.hid (Below.refl w.heap.size w)
  go_enter Try.func11, Try.ntmps11
  go_wp2_with fail
  refine (HN4.out w).mono ?_
  rintro e w1 ⟨rfl, hb1⟩
  have HB1 := Lib.hid hb1
  clear hb1 HN4 HB0
  have hzI : (k : Int) * 56 - (4 + (s.size : Int)) = (Z : Int) := by omega
  have hmk1 := hmk w1
  have hcv1 := hcv w1
  obtain ⟨w2, hw2⟩ : ∃ w2, w1.alloc o = w2 := ⟨_, rfl⟩
  have HB2 := Lib.hid (show Below w.heap.size w w2 from hw2 ▸ HB1.out.alloc HB1.out.size o)
  rw [hw2] at hmk1 hcv1
  have hzz : (rep 0 Z).size = Z := rep_size 0 Z
  obtain ⟨H4, hH4⟩ : ∃ H4, tb (be s.size 4) = H4 := ⟨_, rfl⟩
  obtain ⟨R0, hR0⟩ : ∃ R0, rep 0 Z = R0 := ⟨_, rfl⟩
  obtain ⟨TT, hTT⟩ : ∃ TT, tb (textL (txt s) k) = TT := ⟨_, rfl⟩
  rw [hH4, hR0, hTT] at hT
  rw [hH4] at z4
  rw [hTT] at zT
  rw [hR0] at hzz hcv1
  rw [hTT] at HNX
  rw [hH4]
  have zI : (Z : Int) ≤ 14336 := by omega
  have hHS := msize_append H4 s
  have hHS2 := msize_append (H4 ++ s) R0
  have HT := Lib.hid hT
  clear hmk hcv hw2 hH4 hR0 hTT hZ hk1 hs1 HB1
  go_wp2_with fail
  go_loopw [10, 11] (fun ov iv wr => ∃ j : Nat, j ≤ k ∧ iv = .int .i64 j ∧ ov = .string (tb (packL v (textL (txt s) k) j)) ∧ Hid (Below w.heap.size w wr)) (fun _ iv _ => k - (intOf iv).toNat)
  case atStart => exact ⟨0, Nat.zero_le _, rfl, by rw [H0.out], HB2⟩
  case round =>
    obtain ⟨j, hj, rfl, rfl, HBj⟩ := hrel
    by_cases hlt : j < k
    · have hjI : (j : Int) < (k : Int) := by omega
      have hj9 : 56 * (j : Int) + 56 ≤ (k : Int) * 56 := by omega
      have hq0 : j ≤ 256 := by omega
      have hq1 : ¬ 9223372036854775807 < j * 64 + 8 := by omega
      have hq2 : ¬ 9223372036854775807 < j * 64 + 8 + 56 := by omega
      have hw1 : IntKind.i64.wrap (56 * (j : Int)) = 56 * (j : Int) := IntWalk.i64_in _ (by omega)
      have hw2 : IntKind.i64.wrap (56 * (j : Int) + 56) = 56 * (j : Int) + 56 := IntWalk.i64_in _ (by omega)
      have hw3 : (0 : Int) ≤ 56 * (j : Int) := by omega
      have hw4 : (0 : Int) ≤ 56 * (j : Int) + 56 := by omega
      have hw5 : (56 * (j : Int)).toNat = 56 * j := by omega
      have hw6 : (56 * (j : Int) + 56).toNat = 56 * j + 56 := by omega
      have hj8 : 56 * (j : Int) ≤ 56 * (j : Int) + 56 := by omega
      have hjz := HZL.out j hj
      have hjz8 := msize_append (tb (packL v (textL (txt s) k) j)) (tb (be v 8))
      have hjs := msize_append (tb (packL v (textL (txt s) k) j) ++ tb (be v 8)) (TT.extract (56 * j) (56 * j + 56))
      have hje : (TT.extract (56 * j) (56 * j + 56)).size = 56 := by rw [ByteArray.size_extract]; omega
      have hjn := HNX.out j
      have HJN := Lib.hid hjn
      have HN8j := Lib.hid (show ∀ wx, Calls Try.prog 38 #[.int .u64 (v : Int), .int .i64 8] wx _ from HN8.out)
      obtain ⟨P, hP⟩ : ∃ P, tb (packL v (textL (txt s) k) j) = P := ⟨_, rfl⟩
      obtain ⟨V8, hV8⟩ : ∃ V8, tb (be v 8) = V8 := ⟨_, rfl⟩
      have HPP := Lib.hid hP
      rw [hP] at hjz hjz8 hjs
      rw [hV8] at hjz8 hjs HN8j z8
      rw [hP, hV8] at HJN
      obtain ⟨wd, hwd⟩ : ∃ wd, wr.drew = wd := ⟨_, rfl⟩
      have HBd := Lib.hid (show Below w.heap.size w wd from hwd ▸ ⟨HBj.out.os, HBj.out.tape, HBj.out.output, HBj.out.size, HBj.out.block⟩)
      have hHeld := True.intro
      rw [hP]
      clear hjn hP hV8
      go_wp2_with fail
      refine wp_region_noPanic ?_
      refine wp_region_sch (fun _ => True) (fun i => [2].contains i)
        (.takes [0, 1, 4, 5, 6, 7, 8, 9, 10] (.run 2 (.takes [3, 11, 12] .done))) (by kernel_rfl) (fun _ _ _ _ _ h => h) (by kernel_rfl) ?_
      rw [hwd]
      iterate 9 (
        refine sch_takes_cons ?_
        first
          | (refine sch_take (v := ?_) rfl (by assumption) (by rfl) ?_ ?_; rotate_left; (focus (intro wy hSy; (try dsimp only at hSy); go_simp; (try with_reducible rfl))))
          | (refine sch_pass rfl (by assumption) (by rfl) ?_)
        simp only [Act.put, List.setIfInBounds_toArray, List.set_cons_zero, List.set_cons_succ])
      refine sch_takes_nil ?_
      refine sch_run rfl (fun K hK => ?_)
      go_simp
      with_reducible refine (HN8j.out _).mono ?_
      rintro e we ⟨rfl, hbe⟩
      have HBe := Lib.hid (HBd.out.trans (hbe.mono HBd.out.size))
      clear hbe
      refine hK.out _ _ (fun _ => hHeld) ?_
      clear hK K
      try simp only [Act.put, List.setIfInBounds_toArray, List.set_cons_zero, List.set_cons_succ]
      iterate 3 (
        refine sch_takes_cons ?_
        first
          | (refine sch_take (v := ?_) rfl (by assumption) (by rfl) ?_ ?_; rotate_left; (focus (intro wy hSy; (try dsimp only at hSy); go_simp; (try with_reducible rfl))))
          | (refine sch_pass rfl (by assumption) (by rfl) ?_)
        simp only [Act.put, List.setIfInBounds_toArray, List.set_cons_zero, List.set_cons_succ])
      refine sch_takes_nil ?_
      refine sch_done ?_
      refine NoPanic.normal ?_
      clear hHeld
      go_wp2_with fail
      go_roundw
      case rel => exact ⟨j + 1, by omega, by go_num, by rw [HJN.out], HBe⟩
      case measure => simp [intOf]; omega
    · obtain rfl : j = k := by omega
      rw [HEND.out]
      go_wp2
      go_ret2
      exact ⟨rfl, HBj.out⟩
end Go.Proofs.Ytnmfgmlmjbfdcaa
