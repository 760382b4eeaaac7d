/-
  The walks over the document's answers for octet: Width, Number, Fits, Value.
-/
import Derived.Test.YtfdfoijpkikfbaaWalksC
import Derived.Deep.QuietTactic
import Derived.BigQuiet
namespace Go.Proofs.Ytfdfoijpkikfbaa
open Go.RowKit

set_option maxHeartbeats 400000 in
theorem width_any (n : Int) (w : World) : Calls Try.prog 18 #[.int .i64 n] w fun e w' => e = .returned (.bool (isW n)) ∧ w = w' := by
  by_cases h : n = 1 ∨ n = 2 ∨ n = 4
  · rcases h with rfl | rfl | rfl
    all_goals
      go_enter Try.func18, Try.ntmps18
      go_wp2
      go_ret
      exact ⟨rfl, rfl⟩
  · have e1 : (n == 1) = false := by rw [beq_eq_false_iff_ne]; omega
    have e2 : (n == 2) = false := by rw [beq_eq_false_iff_ne]; omega
    have e4 : (n == 4) = false := by rw [beq_eq_false_iff_ne]; omega
    have e : isW n = (n == 8) := by simp [isW, isT, e1, e2, e4]
    rw [e]
    clear e h
    go_enter Try.func18, Try.ntmps18
    go_wp2
    go_ret
    exact ⟨rfl, rfl⟩

theorem div_step (v k : Nat) : (v / 256 ^ k) / 256 = v / 256 ^ (k + 1) := by rw [Nat.div_div_eq_div_mul, Nat.pow_succ]

theorem number_fill (n k v : Nat) (hk : k < n) :
    (splice (byt (List.replicate n 0)) (n - k) (byt (be v k))).set (n - 1 - k) (.int .u8 (((v / 256 ^ k : Nat) : Int) % 256)) = splice (byt (List.replicate n 0)) (n - (k + 1)) (byt (be v (k + 1))) := by
  have h := fill_step (byt (List.replicate n 0)) 0 n k v hk (by simp [byt])
  rw [shift_bytes] at h
  simpa only [Nat.zero_add] using h

set_option maxHeartbeats 400000 in
theorem refNumber_any (v n : Nat) (w : World) (hn : n ≤ 8) (hv : v < 18446744073709551616) :
    Calls Try.prog 13 #[.int .u64 (v : Int), .int .i64 (n : Int)] w fun e w' =>
      e = .returned (.slice (some ⟨w.heap.size, 0, none⟩) n n) ∧ Below w.heap.size w w' ∧ Row w' w.heap.size 5 (byt (be v n)) (0, 0) := by
  have hmk := make_bytes n (by omega) n rfl
  go_enter Try.func13, Try.ntmps13
  go_wp2
  go_loopw [0, 6] (fun x i wr => ∃ k : Nat, k ≤ n ∧ i = .int .i64 ((n : Int) - 1 - k) ∧ x = .int .u64 ((v / 256 ^ k : Nat) : Int) ∧ Below w.heap.size w wr ∧ Row wr w.heap.size 5 (splice (byt (List.replicate n 0)) (n - k) (byt (be v k))) (0, 0)) (fun _ i _ => (intOf i + 1).toNat)
  case atStart =>
    refine ⟨0, Nat.zero_le _, by simp, by simp, (Below.refl _ _).alloc (Nat.le_refl _) _, ?_⟩
    have := Row.new w 5 (byt (List.replicate n 0)) (0, 0)
    simpa [splice, be, byt] using this
  case round =>
    obtain ⟨k, hk, rfl, rfl, hb, hr⟩ := hrel
    by_cases hlt : k < n
    · have hcell : ∃ u, wr.cell? ⟨w.heap.size, n - 1 - k, none⟩ = some u := by
        rw [hr.cell]
        have hl : (splice (byt (List.replicate n 0)) (n - k) (byt (be v k))).length = n := by
          rw [length_splice _ _ _ (by rw [byt_length, byt_length, be_length]; simp; omega), byt_length]; simp
        exact ⟨_, List.getElem?_eq_getElem (by rw [hl]; omega)⟩
      obtain ⟨u0, hu0⟩ := hcell
      have hfree := hr.loose (n - 1 - k)
      have hst := hr.put (n - 1 - k) (.int .u8 (((v / 256 ^ k : Nat) : Int) % 256))
      rw [number_fill n k v hlt] at hst
      have HST := Lib.hid hst
      have HB := Lib.hid (hb.setCell (p := ⟨w.heap.size, n - 1 - k, none⟩) (Nat.le_refl _) (.int .u8 (((v / 256 ^ k : Nat) : Int) % 256)))
      have HD := Lib.hid (div_step v k)
      have hvk : v / 256 ^ k < 18446744073709551616 := Nat.lt_of_le_of_lt (Nat.div_le_self _ _) hv
      generalize hx : v / 256 ^ k = x at *
      clear hst hr hb hx
      go_wp2
      go_roundw
      case rel => exact ⟨k + 1, by omega, congrArg (Value.int IntKind.i64) (by omega), by rw [← HD.out]; simp, HB.out, HST.out⟩
      case measure => simp [intOf]; omega
    · obtain rfl : k = n := by omega
      have hf : splice (byt (List.replicate k 0)) (k - k) (byt (be v k)) = byt (be v k) := by
        rw [Nat.sub_self]; simp [splice, byt, be_length]
      rw [hf] at hr
      clear hf
      go_wp2
      go_ret
      exact ⟨rfl, hb, hr⟩

/-- Does a text's length fit a width? -/
def fitB (s : ByteArray) (n : Nat) : Bool := decide (s.size / 256 ^ n = 0)
theorem fit_eq (s : ByteArray) (k : Nat) : (((s.size / 256 ^ k : Nat) : Int) == 0) = fitB s k := by
  rw [Bool.eq_iff_iff, fitB, beq_iff_eq, decide_eq_true_iff]; omega

set_option maxHeartbeats 400000 in
theorem fits_any (s : ByteArray) (n : Nat) (w : World) (hn : n ≤ 8) (hs : s.size ≤ 9223372036854775807) :
    Calls Try.prog 20 #[.string s, .int .i64 (n : Int)] w fun e w' => e = .returned (.bool (fitB s n)) ∧ w = w' := by
  go_enter Try.func20, Try.ntmps20
  go_wp2
  go_loop [5, 6] (fun x i => ∃ k : Nat, k ≤ n ∧ i = .int .i64 k ∧ x = .int .i64 ((s.size / 256 ^ k : Nat) : Int)) (fun _ i => n - (intOf i).toNat)
  case atStart => exact ⟨0, Nat.zero_le _, rfl, by simp⟩
  case round =>
    obtain ⟨k, hk, rfl, rfl⟩ := hrel
    by_cases hlt : k < n
    · have HD := Lib.hid (div_step s.size k)
      have hvk : s.size / 256 ^ k ≤ 9223372036854775807 := Nat.le_trans (Nat.div_le_self _ _) hs
      generalize hx : s.size / 256 ^ k = x at *
      clear hx
      go_wp2
      go_round
      case rel => exact ⟨k + 1, by omega, by go_num, by rw [← HD.out]; simp⟩
      case measure => simp [intOf]; omega
    · obtain rfl : k = n := by omega
      have HF := Lib.hid (fit_eq s k)
      generalize s.size / 256 ^ k = x at *
      go_wp2
      go_ret
      exact ⟨by rw [← HF.out]; rfl, rfl⟩

end Go.Proofs.Ytfdfoijpkikfbaa
