/-
  The walks over package master, part D: Pack.
-/
import Derived.Test.YtnmfgmlmjbfdcaaMasPack
namespace Go.Proofs.Ytnmfgmlmjbfdcaa
open Go.RowKit

theorem packE_two {v n : Nat} {size : Int} (h : size < 64 ∨ 16384 < size ∨ size % 64 ≠ 0 ∨ v = 0) : packE v n size = 2 := by unfold packE; rw [if_pos h]
theorem packE_three {v n k : Nat} (h0 : 1 ≤ k) (h1 : k ≤ 256) (hv : v ≠ 0) (h2 : k * 56 < n + 4) : packE v n ((k : Int) * 64) = 3 := by
  unfold packE
  rw [if_neg (by omega), if_pos (by omega)]
theorem packT_bad {v : Nat} {s : List UInt8} {size : Int} (h : packE v s.length size ≠ 0) : packT v s size = [] := by unfold packT; rw [if_neg h]
theorem isSz_none {n : Int} (h : isSz n = false) : n < 64 ∨ 16384 < n ∨ n % 64 ≠ 0 := by
  refine Classical.byContradiction fun hn => ?_
  have e : n = (((n / 64).toNat : Nat) : Int) * 64 := by omega
  rw [e, isSz_of _ (by omega) (by omega)] at h
  cases h

set_option maxRecDepth 100000 in
set_option maxHeartbeats 2000000 in
theorem pack_any (v : Nat) (s : ByteArray) (size : Int) (w : World) (hv : v < 18446744073709551616) (hs : s.size ≤ 9223372036854775807) (h1 : -9223372036854775808 ≤ size) (h2 : size ≤ 9223372036854775807) :
    Calls Try.prog 10 #[.int .u64 (v : Int), .string s, .int .i64 size] w fun e w' => e = .returned (.tuple #[.string (tb (packT v (txt s) size)), .int .i64 ((packE v s.size size : Nat) : Int)]) ∧ Below w.heap.size w w' := by
  have HI := Lib.hid (fun wx => isSize_any size wx h1 h2)
  cases hsz : isSz size with
  | false =>
    have e2 : packE v s.size size = 2 := packE_two (by have := isSz_none hsz; omega)
    have e3 : packT v (txt s) size = [] := packT_bad (by show packE v s.size size ≠ 0; rw [e2]; decide)
    rw [e2, e3]
    have H := HI.out w
    rw [hsz] at H
    have HH := Lib.hid H
    clear HI H
    go_enter Try.func10, Try.ntmps10
    go_wp2_with fail
    refine HH.out.mono ?_
    rintro e w1 ⟨rfl, rfl⟩
    go_wp2_with fail
    go_ret2
    exact ⟨rfl, Below.refl _ _⟩
  | true =>
    obtain ⟨k, rfl, hk0, hk1⟩ := isSz_ok hsz
    have HR := Lib.hid (fun wx => room_any k wx (by omega))
    by_cases hv0 : v = 0
    · subst hv0
      have e2 : packE 0 s.size ((k : Int) * 64) = 2 := packE_two (by omega)
      have e3 : packT 0 (txt s) ((k : Int) * 64) = [] := packT_bad (by show packE 0 s.size _ ≠ 0; rw [e2]; decide)
      rw [e2, e3]
      have H := HI.out w
      rw [hsz] at H
      have HH := Lib.hid H
      clear HI H
      go_enter Try.func10, Try.ntmps10
      go_wp2_with fail
      refine HH.out.mono ?_
      rintro e w1 ⟨rfl, rfl⟩
      go_wp2_with fail
      go_ret2
      exact ⟨rfl, Below.refl _ _⟩
    · have g5 : ¬ (v : Int) = 0 := by omega
      have H := HI.out w
      rw [hsz] at H
      have HH := Lib.hid H
      clear HI H
      by_cases hl : k * 56 < s.size + 4
      · have e2 : packE v s.size ((k : Int) * 64) = 3 := packE_three hk0 hk1 hv0 hl
        have e3 : packT v (txt s) ((k : Int) * 64) = [] := packT_bad (by show packE v s.size _ ≠ 0; rw [e2]; decide)
        rw [e2, e3]
        have g6 : (k : Int) * 56 - 4 < (s.size : Int) := by omega
        go_enter Try.func10, Try.ntmps10
        go_wp2_with fail
        refine HH.out.mono ?_
        rintro e w1 ⟨rfl, rfl⟩
        go_wp2_with fail
        refine (HR.out w).mono ?_
        rintro e w1 ⟨rfl, rfl⟩
        go_wp2_with fail
        go_ret2
        exact ⟨rfl, Below.refl _ _⟩
      · have hf : Fits v (txt s) k := ⟨hk0, hk1, hv0, hv, by show s.size + 4 ≤ k * 56; omega⟩
        have e2 : packE v s.size ((k : Int) * 64) = 0 := packE_of hf
        have e3 : packT v (txt s) ((k : Int) * 64) = packed v (txt s) k := packT_of hf
        rw [e2, e3]
        have g6 : ¬ (k : Int) * 56 - 4 < (s.size : Int) := by omega
        have HPT := putText_ok none [] 0 s 4 w Reads.nil (by rfl) (by simp; omega) (by omega) (by omega)
        rw [List.length_nil, List.nil_append, Nat.zero_add] at HPT
        have HP := Lib.hid HPT
        have ho : (otx s 4).length = 4 + s.size := otx_length s 4
        have HST := Lib.hid (fun (w1 : World) (hr : Row w1 w.heap.size 5 (byt (otx s 4)) (0, 0)) => stamped_any v k (otx s 4) ⟨w.heap.size, 0, none⟩ (4 + s.size) w1 hk1 (by rw [ho]; omega) (by rw [ho]; exact Nat.le_refl _) (by omega) (row_reads hr))
        rw [ho] at HST
        have HEQ := Lib.hid (show tb (packL v (pad (k * 56) (otx s 4)) k) = tb (packed v (txt s) k) from rfl)
        clear HPT ho
        go_enter Try.func10, Try.ntmps10
        go_wp2_with fail
        refine HH.out.mono ?_
        rintro e w1 ⟨rfl, rfl⟩
        go_wp2_with fail
        refine (HR.out w).mono ?_
        rintro e w1 ⟨rfl, rfl⟩
        go_wp2_with fail
        refine HP.out.mono ?_
        rintro e w1 ⟨rfl, hb1, hr1⟩
        have HB1 := Lib.hid hb1
        have HS1 := Lib.hid (HST.out w1 hr1)
        clear hb1 hr1
        go_wp2_with fail
        refine HS1.out.mono ?_
        rintro e w2 ⟨rfl, hb2⟩
        have HB2 := Lib.hid (HB1.out.trans (hb2.mono HB1.out.size))
        clear hb2
        rw [HEQ.out]
        go_wp2_with fail
        go_ret2
        exact ⟨rfl, HB2.out⟩
end Go.Proofs.Ytnmfgmlmjbfdcaa
