/-
  The walks over package octet, part E: what the three readings ask of the bytes that are left.
-/
import Derived.Test.YtbganaaiaokfmaaWalksB
import Derived.Deep.QuietTactic
import Derived.BigQuiet
namespace Go.Proofs.Ytbganaaiaokfmaa
open Go.RowKit

theorem isW_quiet (n : Int) (w : World) (k : Nat) : Calls Try.prog 50 #[.int .i64 n] (w.drewN k) fun e w' => e = .returned (.bool (isW n)) ∧ ∃ m, w' = w.drewN m :=
  (isW_any n (w.drewN k)).mono fun _ _ ⟨he, hw⟩ => ⟨he, k, hw.symm⟩

set_option maxRecDepth 100000 in
set_option maxHeartbeats 400000 in
theorem need_num (A : Option Addr) (l c b0 : Nat) (n : Int) (w : World) (hc : w.cell? ⟨b0, 0, none⟩ = some (.int .i64 n)) :
    Calls Try.prog 55 #[.slice A l c, .pointer (some ⟨b0, 0, none⟩)] w fun e w' => e = .returned (.tuple #[.int .i64 n, .bool (isW n)]) ∧ ∃ d, w' = w.drewN d := by
  go_enter Try.func55, Try.ntmps55
  go_wp2
  go_quiet ((go_at_call 50; exact isW_quiet _ _ _))
  go_wp2
  go_ret2
  exact ⟨rfl, _, rfl⟩

set_option maxRecDepth 100000 in
set_option maxHeartbeats 400000 in
theorem need_take (A : Option Addr) (l c b0 : Nat) (n : Int) (w : World) (hc : w.cell? ⟨b0, 0, none⟩ = some (.int .i64 n)) :
    Calls Try.prog 56 #[.slice A l c, .pointer (some ⟨b0, 0, none⟩)] w fun e w' => e = .returned (.tuple #[.int .i64 n, .bool true]) ∧ ∃ d, w' = w.drewN d := by
  go_enter Try.func56, Try.ntmps56
  go_wp2
  go_ret2
  exact ⟨rfl, 0, rfl⟩

set_option maxRecDepth 100000 in
set_option maxHeartbeats 400000 in
theorem need_text_no (A : Option Addr) (l c b0 b1 : Nat) (n : Int) (w : World) (hc0 : w.cell? ⟨b0, 0, none⟩ = some (.int .i64 n)) (hno : isT n = false ∨ (isT n = true ∧ (l : Int) < n)) :
    Calls Try.prog 57 #[.slice A l c, .pointer (some ⟨b0, 0, none⟩), .pointer (some ⟨b1, 0, none⟩)] w fun e w' => e = .returned (.tuple #[.int .i64 0, .bool false]) ∧ ∃ d, w' = w.drewN d := by
  rcases hno with hno | ⟨hno, hl⟩
  all_goals
    go_enter Try.func57, Try.ntmps57
    go_wp2_with (go_at_call 58; refine (isT_any _ _).mono ?_; rintro e w' ⟨rfl, rfl⟩)
    go_ret2
    exact ⟨rfl, 0, rfl⟩

set_option maxRecDepth 100000 in
set_option maxHeartbeats 400000 in
theorem need_text_long (A : Option Addr) (l : List UInt8) (c b0 b1 n : Nat) (m : Int) (w : World) (hr : Reads 5 w A l) (hlc : l.length ≤ c) (hc0 : w.cell? ⟨b0, 0, none⟩ = some (.int .i64 n)) (hc1 : w.cell? ⟨b1, 0, none⟩ = some (.int .i64 m)) (hok : isT n = true) (hl : n ≤ l.length)
    (hno : m < 0 ∨ (0 ≤ m ∧ m < (val (l.take n) : Int))) :
    Calls Try.prog 57 #[.slice A l.length c, .pointer (some ⟨b0, 0, none⟩), .pointer (some ⟨b1, 0, none⟩)] w fun e w' => e = .returned (.tuple #[.int .i64 0, .bool false]) ∧ ∃ d, w' = w.drewN d := by
  have hn : 1 ≤ n ∧ n ≤ 4 := by have := isT_cases hok; omega
  obtain ⟨hn1, hn4⟩ := hn
  have hv : val (l.take n) < 4294967296 := by
    have h1 := val_lt (l.take n)
    have h2 : (l.take n).length ≤ 4 := by rw [List.length_take]; omega
    exact Nat.lt_of_lt_of_le h1 (Nat.pow_le_pow_right (by omega) h2)
  have hlen : (l.take n).length = n := by rw [List.length_take]; omega
  have HNUM := Lib.hid (number_any A (l.take n) c w (hr.take n) (by omega))
  rw [hlen] at HNUM
  clear hlen hr
  rcases hno with hno | ⟨hm, hno⟩
  all_goals
    go_enter Try.func57, Try.ntmps57
    go_wp2_with (first | (go_at_call 58; refine (isT_any _ _).mono ?_; rintro e w' ⟨rfl, rfl⟩) | (go_at_call 53; refine HNUM.out.mono ?_; rintro e w' ⟨rfl, rfl⟩))
    go_ret2
    exact ⟨rfl, 0, rfl⟩

set_option maxRecDepth 100000 in
set_option maxHeartbeats 400000 in
theorem need_text_ok (A : Option Addr) (l : List UInt8) (c b0 b1 n : Nat) (m : Int) (w : World) (hr : Reads 5 w A l) (hlc : l.length ≤ c) (hc0 : w.cell? ⟨b0, 0, none⟩ = some (.int .i64 n)) (hc1 : w.cell? ⟨b1, 0, none⟩ = some (.int .i64 m)) (hok : isT n = true) (hl : n ≤ l.length)
    (hm : 0 ≤ m) (hm63 : m ≤ 9223372036854775807) (hyes : (val (l.take n) : Int) ≤ m) :
    Calls Try.prog 57 #[.slice A l.length c, .pointer (some ⟨b0, 0, none⟩), .pointer (some ⟨b1, 0, none⟩)] w fun e w' => e = .returned (.tuple #[.int .i64 ((n + val (l.take n) : Nat) : Int), .bool true]) ∧ ∃ d, w' = w.drewN d := by
  have hn : 1 ≤ n ∧ n ≤ 4 := by have := isT_cases hok; omega
  obtain ⟨hn1, hn4⟩ := hn
  have hv : val (l.take n) < 4294967296 := by
    have h1 := val_lt (l.take n)
    have h2 : (l.take n).length ≤ 4 := by rw [List.length_take]; omega
    exact Nat.lt_of_lt_of_le h1 (Nat.pow_le_pow_right (by omega) h2)
  have hlen : (l.take n).length = n := by rw [List.length_take]; omega
  have HNUM := Lib.hid (number_any A (l.take n) c w (hr.take n) (by omega))
  rw [hlen] at HNUM
  clear hlen hr
  go_enter Try.func57, Try.ntmps57
  go_wp2_with (first | (go_at_call 58; refine (isT_any _ _).mono ?_; rintro e w' ⟨rfl, rfl⟩) | (go_at_call 53; refine HNUM.out.mono ?_; rintro e w' ⟨rfl, rfl⟩))
  go_ret2
  exact ⟨rfl, 0, rfl⟩

end Go.Proofs.Ytbganaaiaokfmaa
