/-
  The walk of CrcOdd.
-/
import Derived.Test.YthfmhfddgmojaaaDoorCrcLaw
namespace Go.Proofs.YthfmhfddgmojaaaDoor
open Go.RowKit

/-- The numbers of a slice of 16 bits each. -/
def Ats (w : World) (b off n : Nat) (F : Nat → Nat) : Prop :=
  b < w.heap.size ∧ ∀ i, i < n → w.cell? ⟨b, off + i, none⟩ = some (.int .u16 (F i : Int)) ∧ F i < 65536

/-- What holds at a round's head. -/
def Turned (w : World) (N : Nat) (z : List UInt8) (k : Nat) (vx : Value) (wr : World) : Prop :=
  ∃ (g cap : Nat) (r : List UInt8), vx = .slice (some ⟨g, 0, none⟩) N cap ∧ r.length = N ∧ N ≤ cap ∧ Reads 5 wr (some ⟨g, 0, none⟩) r ∧ par (bits r) = (par (bits z) != (k % 2 == 1)) ∧ Below w.heap.size w wr

theorem turn_once {r z : List UInt8} {N k p : Nat} (hr : r.length = N) (hp : p < 8 * N) (h : par (bits r) = (par (bits z) != (k % 2 == 1))) : par (bits (flipL r p)) = (par (bits z) != ((k + 1) % 2 == 1)) := by
  rw [bits_flip _ _ (by rw [hr]; exact hp), par_flip _ _ (by rw [bits_length, hr]; exact hp), h]
  rcases Nat.mod_two_eq_zero_or_one k with h0 | h0
  · have h1 : (k + 1) % 2 = 1 := by omega
    rw [h0, h1]; cases par (bits z) <;> rfl
  · have h1 : (k + 1) % 2 = 0 := by omega
    rw [h0, h1]; cases par (bits z) <;> rfl

set_option maxHeartbeats 400000 in
theorem odd_great (A : Option Addr) (n c : Nat) (v : Value) (y : Int) (w : World) (hT : Tab w) (hn : 600 < n) (hm : n ≤ 9223372036854775807) :
    Calls Tryd.prog 4 #[.slice A n c, v, .int .u16 y] w fun e w' => e = .returned (.bool true) ∧ Below w.heap.size w w' := by
  have HTB := Lib.hid hT
  clear hT
  go_enter Tryd.func4, Tryd.ntmps4
  go_wp2_with fail
  refine (head_any _ HTB.out).mono ?_
  rintro e w1 ⟨rfl, hb⟩
  go_wp2
  go_ret
  exact ⟨rfl, hb⟩

set_option maxHeartbeats 2000000 in
theorem odd_small {T : TypeId} (A A2 : Option Addr) (l : List UInt8) (c n2 c2 y : Nat) (w : World) (hT : Tab w) (hr : Reads T w A l) (hn : l.length ≤ 600) (hy : y < 65536) (hm2 : n2 ≤ 9223372036854775807) (hF : n2 = 0 ∨ ∃ b off F, A2 = some ⟨b, off, none⟩ ∧ Ats w b off n2 F) :
    Calls Tryd.prog 4 #[.slice A l.length c, .slice A2 n2 c2, .int .u16 (y : Int)] w fun e w' => e = .returned (.bool true) ∧ Below w.heap.size w w' := by
  have HTB := Lib.hid hT
  have HS := Lib.hid (seal_any A l c w hT hr (by omega))
  have HZ := Lib.hid (sealL_sealed l)
  have HF := Lib.hid hF
  clear hT hr hF
  generalize sealL l = z at *
  obtain ⟨N, hN⟩ : ∃ N, N = l.length + 4 := ⟨_, rfl⟩
  rw [← hN] at HS
  have hN4 : 4 ≤ N := by omega
  have hN6 : N ≤ 604 := by omega
  clear hN
  go_enter Tryd.func4, Tryd.ntmps4
  go_wp2_with fail
  refine HS.out.mono ?_
  rintro e w1 ⟨g1, cap1, rfl, hz1, hc1, hr1, hb1⟩
  have HZ1 := Lib.hid hz1
  have HT := Lib.hid (show Turned w N z 0 (.slice (some ⟨g1, 0, none⟩) N cap1) w1 from ⟨g1, cap1, z, rfl, hz1, hc1, hr1, by simp, hb1⟩)
  clear hb1 hr1 hz1 hc1
  go_wp2_with fail
  go_loopw [7, 8, 9] (fun vx vn vi wr => ∃ k : Nat, k ≤ 40 ∧ k ≤ n2 ∧ vi = .int .i64 k ∧ vn = .int .i64 k ∧ Turned w N z k vx wr) (fun _ _ vi _ => 40 - (intOf vi).toNat)
  case atStart => exact ⟨0, by omega, by omega, rfl, rfl, HT.out⟩
  case round =>
    obtain ⟨k, hk40, hkn, rfl, rfl, g, cap, r, rfl, hrl, hcap, hrd, hpar, hb⟩ := hrel
    have HRL := Lib.hid hrl
    have HRD := Lib.hid hrd
    have HP := Lib.hid hpar
    have HB := Lib.hid hb
    clear hrl hrd hpar hb
    by_cases hgo : k < n2 ∧ k < 40
    · obtain ⟨hlt, hlt40⟩ := hgo
      obtain ⟨b, off, F, rfl, hb0, hF⟩ := HF.out.resolve_left (by omega)
      obtain ⟨hcell, hf⟩ := hF k hlt
      have hcw := (HB.out.cell (p := ⟨b, off + k, none⟩) hb0).trans hcell
      generalize F k = f at *
      obtain ⟨p, hp⟩ : ∃ p, f % (8 * N) = p := ⟨_, rfl⟩
      have HPP := Lib.hid hp
      have HPL := Lib.hid (show p < 8 * N by rw [← hp]; exact Nat.mod_lt _ (by omega))
      clear hp hcell hF
      go_wp2_with fail
      refine (flip_n _ r N cap f p _ HRL.out HRD.out (by omega) (by omega) hf HPP.out).mono ?_
      rintro e w3 ⟨g3, cap3, rfl, hz3, hc3, hr3, hb3⟩
      have HT3 := Lib.hid (show Turned w N z (k + 1) (.slice (some ⟨g3, 0, none⟩) N cap3) w3 from ⟨g3, cap3, _, rfl, hz3, hc3, hr3, turn_once HRL.out HPL.out HP.out, HB.out.trans (hb3.mono HB.out.size)⟩)
      clear hz3 hc3 hr3 hb3
      go_wp2_with fail
      go_roundw
      case rel => exact ⟨k + 1, by omega, by omega, by go_num, by go_num, HT3.out⟩
      case measure => simp [intOf]; omega
    · have hend : n2 ≤ k ∨ (k < n2 ∧ 40 ≤ k) := by omega
      clear hgo
      rcases Nat.mod_two_eq_zero_or_one k with h2 | h2
      · have ht : ((k : Int) % 2 == 0) = true := by rw [beq_iff_eq]; omega
        obtain ⟨p, hp⟩ : ∃ p, y % (8 * N) = p := ⟨_, rfl⟩
        have HPP := Lib.hid hp
        have HPL := Lib.hid (show p < 8 * N by rw [← hp]; exact Nat.mod_lt _ (by omega))
        have HNO := Lib.hid (odd_flips (x := flipL r p) HZ.out (by rw [flipL_length, HRL.out, HZ1.out]) (by rw [turn_once HRL.out HPL.out HP.out, show (k + 1) % 2 = 1 by omega]; cases par (bits z) <;> rfl))
        clear hp h2
        rcases hend with hend | ⟨hend, hend2⟩
        all_goals
          go_wp2_with fail
          refine (flip_n _ r N cap y p _ HRL.out HRD.out (by omega) (by omega) hy HPP.out).mono ?_
          rintro e w3 ⟨g3, cap3, rfl, hz3, hc3, hr3, hb3⟩
          have HB3 := Lib.hid (HB.out.trans (hb3.mono HB.out.size))
          have HR3 := Lib.hid hr3
          have HZ3 := Lib.hid hz3
          clear hb3 hr3 hz3
          go_wp2_with fail
          refine (open_refuses _ _ N cap3 _ HZ3.out (HTB.out.keeps HB3.out) HR3.out hN4 (by omega) hc3 HNO.out).mono ?_
          rintro e w4 ⟨rfl, hb4⟩
          have HB4 := Lib.hid (HB3.out.trans (hb4.mono HB3.out.size))
          clear hb4
          go_wp2_with fail
          refine (head_any _ (HTB.out.keeps HB4.out)).mono ?_
          rintro e w5 ⟨rfl, hb5⟩
          go_wp2
          go_ret
          exact ⟨rfl, HB4.out.trans (hb5.mono HB4.out.size)⟩
      · have ht : ((k : Int) % 2 == 0) = false := by rw [beq_eq_false_iff_ne]; omega
        have HNO := Lib.hid (odd_flips (x := r) HZ.out (by rw [HRL.out, HZ1.out]) (by rw [HP.out, h2]; cases par (bits z) <;> rfl))
        clear h2
        rcases hend with hend | ⟨hend, hend2⟩
        all_goals
          go_wp2_with fail
          refine (open_refuses _ _ N cap _ HRL.out (HTB.out.keeps HB.out) HRD.out hN4 (by omega) hcap HNO.out).mono ?_
          rintro e w4 ⟨rfl, hb4⟩
          have HB4 := Lib.hid (HB.out.trans (hb4.mono HB.out.size))
          clear hb4
          go_wp2_with fail
          refine (head_any _ (HTB.out.keeps HB4.out)).mono ?_
          rintro e w5 ⟨rfl, hb5⟩
          go_wp2
          go_ret
          exact ⟨rfl, HB4.out.trans (hb5.mono HB4.out.size)⟩

end Go.Proofs.YthfmhfddgmojaaaDoor
