/-
  The walks over package octet, part A: widths, the grown copy, filling in a number, reading one.
-/
import Derived.Test.YtbganaaiaokfmaaRows
import Derived.Test.YtbganaaiaokfmaaBase
namespace Go.Proofs.Ytbganaaiaokfmaa
open Go.RowKit

set_option maxRecDepth 100000 in
set_option maxHeartbeats 400000 in
theorem isT_any (n : Int) (w : World) : Calls Try.prog 58 #[.int .i64 n] w fun e w' => e = .returned (.bool (isT n)) ∧ w = w' := by
  by_cases h1 : n = 1
  · subst h1
    go_enter Try.func58, Try.ntmps58
    go_wp2
    go_ret
    exact ⟨rfl, rfl⟩
  · by_cases h2 : n = 2
    · subst h2
      go_enter Try.func58, Try.ntmps58
      go_wp2
      go_ret
      exact ⟨rfl, rfl⟩
    · have e1 : (n == 1) = false := by simpa using h1
      have e2 : (n == 2) = false := by simpa using h2
      have e : isT n = (n == 4) := by simp [isT, e1, e2]
      rw [e]
      clear e
      go_enter Try.func58, Try.ntmps58
      go_wp2
      go_ret
      exact ⟨rfl, rfl⟩

set_option maxRecDepth 100000 in
set_option maxHeartbeats 400000 in
theorem isW_any (n : Int) (w : World) : Calls Try.prog 50 #[.int .i64 n] w fun e w' => e = .returned (.bool (isW n)) ∧ w = w' := by
  by_cases h1 : n = 8
  · subst h1
    go_enter Try.func50, Try.ntmps50
    go_wp2
    go_ret
    exact ⟨rfl, rfl⟩
  · have e1 : (n == 8) = false := by simpa using h1
    have e : isW n = isT n := by simp [isW, e1]
    rw [e]
    clear e
    go_enter Try.func50, Try.ntmps50
    go_wp2_with (go_at_call 58; refine (isT_any _ _).mono ?_; rintro e w' ⟨rfl, rfl⟩)
    go_ret
    exact ⟨rfl, rfl⟩

set_option maxRecDepth 100000 in
theorem Try.info_u8 : (Try.prog.info? 5).map (fun i => (i.zero, i.size, i.bytes)) = some (some (.int .u8 0), 1, 1) := by kernel_rfl

set_option maxRecDepth 100000 in
theorem Try.size_u8 : (Try.prog.info? 5).map (fun i => i.size) = some 1 := by kernel_rfl

theorem madeCells_zero (n : Nat) : madeCells (Value.int .u8 0).cells n = (byt (List.replicate n 0)).toArray := by
  apply Array.ext
  · simp [madeCells, byt]
  · intro i h1 h2
    simp [madeCells, byt, Value.cells, Nat.mod_one]

theorem make_bytes (n : Nat) (hn : n ≤ 281474976710656) (i : Int) (hi : i = (n : Int)) (w : World) : (Instr.makeSlice 58 (.int .i64 i) (.int .i64 i)).run Try.prog w =
    .ok (.slice (some ⟨w.heap.size, 0, none⟩) n n) (w.alloc (.cells (byt (List.replicate n 0)).toArray 5)) := by
  obtain ⟨i0, hi0, hz0, hz1, hz2⟩ := info_parts Try.info_u8
  subst hi
  have h := run_make (P := Try.prog) w 58 5 i0 _ Try.underlying58 hi0 hz0 .i64 .i64 n n (by omega) (by omega) (by rw [hz2]; omega) (by omega)
  rw [h, hz1, Int.toNat_natCast, Nat.mul_one, madeCells_zero]

theorem splice_head (l : List UInt8) (m : Nat) : splice (byt (List.replicate (l.length + m) 0)) 0 (byt l) = byt (l ++ List.replicate m 0) := by
  simp [splice, byt]

set_option maxRecDepth 100000 in
set_option maxHeartbeats 400000 in
theorem grown_any (A : Option Addr) (l : List UInt8) (c : Nat) (m : Nat) (w : World) (hr : Reads 5 w A l) (hs : l.length + m ≤ 281474976710656) :
    Calls Try.prog 51 #[.slice A l.length c, .int .i64 (m : Int)] w fun e w' =>
      e = .returned (.slice (some ⟨w.heap.size, 0, none⟩) (l.length + m) (l.length + m)) ∧ Below w.heap.size w w' ∧ Row w' w.heap.size 5 (byt (l ++ List.replicate m 0)) (0, 0) := by
  have hmk := make_bytes (l.length + m) hs (↑l.length + ↑m) (by omega)
  go_enter Try.func51, Try.ntmps51
  go_wp2_with (with_reducible refine wpList_copy_splice rfl (.tmp 11) (.tmp 12) 58 58 rfl 5 Try.underlying58 Try.size_u8 (some ⟨w.heap.size, 0, none⟩) A (l.length + m) (l.length + m) l.length c rfl rfl w.heap.size 0 (byt (List.replicate (l.length + m) 0)) 5 ?hg (byt l) ?hn ?hpos ?hfit (byt_one l) w.heap.size w ?hb (Nat.le_refl _) ?_)
  case hg => exact heap_alloc_new _ _
  case hn => rw [byt_length]; exact (Nat.min_eq_left (by omega)).symm
  case hfit => simp [byt]
  case hb => exact (Below.refl _ _).alloc (Nat.le_refl _) _
  case hpos =>
    intro h0
    rw [byt_length] at h0
    obtain ⟨g, off, cs, mk, hA, hrow, hc⟩ := hr h0
    refine ⟨_, hA, fun j v hj => ?_⟩
    have hjl : j < l.length := by
      have := (List.getElem?_eq_some_iff.1 hj).1
      rwa [byt_length] at this
    rw [Addr.add_lit, (hrow.alloc _).cell, hc j hjl, hj]
  intro w1 hg1 hb1
  go_wp2
  go_ret
  exact ⟨rfl, hb1, by have := hg1.out; rw [splice_head] at this; exact this⟩

end Go.Proofs.Ytbganaaiaokfmaa
