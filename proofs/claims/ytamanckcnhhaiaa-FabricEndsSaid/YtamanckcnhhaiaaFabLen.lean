/-
  A number's length in bits (for slices.SortFunc).
-/
import Derived.Test.YtamanckcnhhaiaaFabTake
import Derived.Lib.BitFns
import Derived.Lib.Tables
import Derived.Laws.Bits64
import Derived.Laws.Bits64b
namespace Go.Proofs.Ytamanckcnhhaiaa
open Go.RowKit

set_option maxRecDepth 100000 in
/-- The table of lengths, as the turned program spells it. -/
theorem fold_table : (⟨((List.append ([0, 1, 2, 2, 3, 3, 3, 3, 4, 4, 4, 4, 4, 4, 4, 4, 5, 5, 5, 5, 5, 5, 5, 5, 5, 5, 5, 5, 5, 5, 5, 5, 6, 6, 6, 6, 6, 6, 6, 6, 6, 6, 6, 6, 6, 6, 6, 6, 6, 6, 6, 6, 6, 6, 6, 6, 6, 6, 6, 6, 6, 6, 6, 6] : List UInt8) [7, 7, 7, 7, 7, 7, 7, 7, 7, 7, 7, 7, 7, 7, 7, 7, 7, 7, 7, 7, 7, 7, 7, 7, 7, 7, 7, 7, 7, 7, 7, 7, 7, 7, 7, 7, 7, 7, 7, 7, 7, 7, 7, 7, 7, 7, 7, 7, 7, 7, 7, 7, 7, 7, 7, 7, 7, 7, 7, 7, 7, 7, 7, 7]).append (([8, 8, 8, 8, 8, 8, 8, 8, 8, 8, 8, 8, 8, 8, 8, 8, 8, 8, 8, 8, 8, 8, 8, 8, 8, 8, 8, 8, 8, 8, 8, 8, 8, 8, 8, 8, 8, 8, 8, 8, 8, 8, 8, 8, 8, 8, 8, 8, 8, 8, 8, 8, 8, 8, 8, 8, 8, 8, 8, 8, 8, 8, 8, 8] : List UInt8).append [8, 8, 8, 8, 8, 8, 8, 8, 8, 8, 8, 8, 8, 8, 8, 8, 8, 8, 8, 8, 8, 8, 8, 8, 8, 8, 8, 8, 8, 8, 8, 8, 8, 8, 8, 8, 8, 8, 8, 8, 8, 8, 8, 8, 8, 8, 8, 8, 8, 8, 8, 8, 8, 8, 8, 8, 8, 8, 8, 8, 8, 8, 8, 8])).toArray⟩ : ByteArray) = Lib.len8tab := rfl

set_option maxRecDepth 100000 in
set_option maxHeartbeats 2000000 in
theorem len64_any (x : Nat) (hx : x ≤ 1100) (w : World) : Calls Try.prog 42 #[.int .u64 (x : Int)] w fun e w' => e = .returned (.int .i64 ((Lib.bitLen x : Nat) : Int)) ∧ w' = w := by
  have h1 : ¬ ((4294967296 : Int) ≤ (x : Int)) := by omega
  have h2 : ¬ ((65536 : Int) ≤ (x : Int)) := by omega
  by_cases h3 : 256 ≤ x
  · have h4 : (256 : Int) ≤ (x : Int) := by omega
    obtain ⟨z, hz⟩ : ∃ z, x / 256 = z := ⟨_, rfl⟩
    have ez : (x : Int) / 256 = (z : Int) := by omega
    have z8 : (z : Int) % 256 = (z : Int) := by omega
    have z9 : (z : Int) ≤ 255 := by omega
    have zw : IntKind.u8.wrap (z : Int) = (z : Int) := by rw [IntKind.wrap_u8]; omega
    have s := Lib.bitLen_shift8 x h3 (by omega)
    rw [hz] at s
    have l := Lib.bitLen_le8' (z : Int) (by omega) (by omega)
    have HE := Lib.len8_of (z : Int) (by omega) (by omega)
    rw [Int.toNat_natCast] at HE l
    obtain ⟨q, hq⟩ : ∃ q, Lib.bitLen z = q := ⟨_, rfl⟩
    rw [hq] at s l HE
    rw [s]
    have hq8 : (q : Int) ≤ 8 := by omega
    obtain ⟨m, hm⟩ : ∃ m, 8 + q = m := ⟨_, rfl⟩
    rw [hm]
    have HQ := Lib.hid (show (8 : Int) + (q : Int) = (m : Int) by omega)
    clear s hq hz hm l
    go_enter Try.func42, Try.ntmps42
    rw [fold_table]
    go_wp2_with fail
    go_ret
    exact ⟨by rw [← HQ.out]; rfl, rfl⟩
  · have h4 : ¬ ((256 : Int) ≤ (x : Int)) := by omega
    have z8 : (x : Int) % 256 = (x : Int) := by omega
    have z9 : (x : Int) ≤ 255 := by omega
    have zw : IntKind.u8.wrap (x : Int) = (x : Int) := by rw [IntKind.wrap_u8]; omega
    have l := Lib.bitLen_le8' (x : Int) (by omega) (by omega)
    have HE := Lib.len8_of (x : Int) (by omega) (by omega)
    rw [Int.toNat_natCast] at HE l
    obtain ⟨q, hq⟩ : ∃ q, Lib.bitLen x = q := ⟨_, rfl⟩
    rw [hq] at l HE ⊢
    clear hq
    go_enter Try.func42, Try.ntmps42
    rw [fold_table]
    go_wp2_with fail
    go_ret
    exact ⟨rfl, rfl⟩

set_option maxRecDepth 100000 in
set_option maxHeartbeats 2000000 in
theorem len_any (x : Nat) (hx : x ≤ 1100) (w : World) : Calls Try.prog 28 #[.int .u64 (x : Int)] w fun e w' => e = .returned (.int .i64 ((Lib.bitLen x : Nat) : Int)) ∧ w' = w := by
  have HL := Lib.hid (fun w => len64_any x hx w)
  clear hx
  go_enter Try.func28, Try.ntmps28
  go_wp2_with (go_at_call 42; refine (HL.out _).mono ?_; rintro e w' ⟨rfl, rfl⟩)
  go_ret
  exact ⟨rfl, rfl⟩

end Go.Proofs.Ytamanckcnhhaiaa
