/-
  TapeNone: the walk.
-/
import Derived.Test.YtikcbalofbgdlaaTapD
namespace Go.Proofs.Ytikcbalofbgdlaa
open Go.RowKit

/-- A tape that nothing made. -/
def zeroTape : List Value := [.bool false, .int .i64 0, .slice none 0 0, .int .u64 0, .int .u64 0]

set_option maxRecDepth 100000 in
set_option maxHeartbeats 4000000 in
theorem none_any (x n m : Int) (s : ByteArray) (w : World) : Calls Try.prog 6 #[.agg #[.int .u8 x, .string s, .int .u64 n, .int .u64 m]] w fun e w' => e = .returned (.bool true) ∧ Below w.heap.size w w' := by
  have HR := Lib.hid (show ∀ w1, w1 = ((w.alloc (.cells #[.int .u8 x, .string s, .int .u64 n, .int .u64 m] 31)).alloc (.cells zeroTape.toArray 50)).alloc (.cells #[.pointer none, .pointer (some ⟨w.heap.size + 1, 0, none⟩)] 23) →
    Row w1 w.heap.size 31 [.int .u8 x, .string s, .int .u64 n, .int .u64 m] (0, 0) ∧ Row w1 (w.heap.size + 1) 50 zeroTape (0, 0) ∧ Row w1 (w.heap.size + 1 + 1) 23 [.pointer none, .pointer (some ⟨w.heap.size + 1, 0, none⟩)] (0, 0) ∧ Below w.heap.size w w1 from fun w1 h1 => by
      subst h1
      have e1 : (w.alloc (.cells #[.int .u8 x, .string s, .int .u64 n, .int .u64 m] 31)).heap.size = w.heap.size + 1 := by simp
      have e2 : ((w.alloc (.cells #[.int .u8 x, .string s, .int .u64 n, .int .u64 m] 31)).alloc (.cells zeroTape.toArray 50)).heap.size = w.heap.size + 1 + 1 := by simp
      refine ⟨((Row.new w 31 [.int .u8 x, .string s, .int .u64 n, .int .u64 m] (0, 0)).alloc _).alloc _, ?_, ?_, (((Below.refl _ _).alloc (Nat.le_refl _) _).alloc (by rw [e1]; omega) _).alloc (by rw [e2]; omega) _⟩
      · have := (Row.new (w.alloc (.cells #[.int .u8 x, .string s, .int .u64 n, .int .u64 m] 31)) 50 zeroTape (0, 0)).alloc (.cells #[.pointer none, .pointer (some ⟨w.heap.size + 1, 0, none⟩)] 23)
        rwa [e1] at this
      · have := Row.new ((w.alloc (.cells #[.int .u8 x, .string s, .int .u64 n, .int .u64 m] 31)).alloc (.cells zeroTape.toArray 50)) 23 [.pointer none, .pointer (some ⟨w.heap.size + 1, 0, none⟩)] (0, 0)
        rwa [e2] at this)
  go_enter Try.func6, Try.ntmps6
  go_wp2_with fail
  obtain ⟨hX, hT, hL, hb⟩ := HR.out _ rfl
  go_loopw [5, 6, 7, 8] (fun i _ _ _ wr => ∃ k : Nat, k ≤ 2 ∧ i = .int .i64 k ∧ Hid (Row wr w.heap.size 31 [.int .u8 x, .string s, .int .u64 n, .int .u64 m] (0, 0) ∧ Row wr (w.heap.size + 1) 50 zeroTape (0, 0) ∧ Row wr (w.heap.size + 1 + 1) 23 [.pointer none, .pointer (some ⟨w.heap.size + 1, 0, none⟩)] (0, 0) ∧ Below w.heap.size w wr)) (fun i _ _ _ _ => 2 - (intOf i).toNat)
  case atStart => exact ⟨0, by omega, rfl, Lib.hid ⟨hX, hT, hL, hb⟩⟩
  case round =>
    clear hX hT hL hb
    obtain ⟨k, hk, rfl, HW⟩ := hrel
    by_cases h2 : k = 2
    · subst h2
      go_wp2_with fail
      refine (head_any wr).mono ?_
      rintro e w1 ⟨rfl, hb⟩
      have HB1 := Lib.hid (HW.out.2.2.2.trans (hb.mono HW.out.2.2.2.size))
      clear hb
      go_wp2
      go_ret
      exact ⟨rfl, HB1.out⟩
    · obtain ⟨v, hv, hnd⟩ : ∃ v, wr.cell? ⟨w.heap.size + 1 + 1, k, none⟩ = some v ∧ NoTape wr v := by
        obtain ⟨hX, hT, hL, hb⟩ := HW.out
        rcases (show k = 0 ∨ k = 1 by omega) with rfl | rfl
        · exact ⟨_, hL.cell 0, ⟨.inl rfl⟩⟩
        · exact ⟨_, hL.cell 1, ⟨.inr ⟨_, rfl, hT.cell 0⟩⟩⟩
      have HND := Lib.hid hnd
      have hkl : (k : Int) < 2 := by omega
      have x1 : wr.cell? ⟨w.heap.size, 1, none⟩ = some (.string s) := HW.out.1.cell 1
      have x2 : wr.cell? ⟨w.heap.size, 2, none⟩ = some (.int .u64 n) := HW.out.1.cell 2
      clear hnd
      go_wp2_with fail
      refine (crash_none HND.out 1).mono ?_
      rintro e w1 ⟨rfl, rfl⟩
      go_wp2_with fail
      refine (read_none HND.out 0 0).mono ?_
      rintro e w1 ⟨rfl, rfl⟩
      go_wp2_with fail
      refine (append_none HND.out s).mono ?_
      rintro e w1 ⟨rfl, rfl⟩
      go_wp2_with fail
      refine (force_none HND.out).mono ?_
      rintro e w1 ⟨rfl, rfl⟩
      go_wp2_with fail
      refine (drop_none HND.out n).mono ?_
      rintro e w1 ⟨rfl, rfl⟩
      go_wp2_with fail
      refine (cut_none HND.out n).mono ?_
      rintro e w1 ⟨rfl, rfl⟩
      go_wp2_with fail
      refine (base_none HND.out).mono ?_
      rintro e w1 ⟨rfl, rfl⟩
      go_wp2_with fail
      refine (sure_none HND.out).mono ?_
      rintro e w1 ⟨rfl, rfl⟩
      go_wp2_with fail
      refine (End_none HND.out).mono ?_
      rintro e w1 ⟨rfl, rfl⟩
      go_wp2_with fail
      refine (room_none HND.out).mono ?_
      rintro e w1 ⟨rfl, rfl⟩
      go_wp2_with fail
      refine (copy_none HND.out).mono ?_
      rintro e w1 ⟨rfl, rfl⟩
      go_wp2
      go_roundw
      case rel => exact ⟨k + 1, by omega, by go_num, HW⟩
      case measure => simp [intOf]; omega

end Go.Proofs.Ytikcbalofbgdlaa
