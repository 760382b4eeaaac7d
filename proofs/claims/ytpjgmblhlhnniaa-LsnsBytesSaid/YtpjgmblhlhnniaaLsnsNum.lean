/-
  The walks over the document's answer for package lsns: a number's bytes, and what bytes are worth.
-/
import Derived.Test.YtpjgmblhlhnniaaLsnsHead
import Derived.Test.YtpjgmblhlhnniaaLsnsOctA
import Derived.Deep.QuietTactic
namespace Go.Proofs.Ytpjgmblhlhnniaa
open Go.RowKit

theorem div_step (v k : Nat) : (v / 256 ^ k) / 256 = v / 256 ^ (k + 1) := by rw [Nat.div_div_eq_div_mul, Nat.pow_succ]

theorem shift_bytes (x n : Nat) : ((x : Int) / 2 ^ (8 * n)) = ((x / 256 ^ n : Nat) : Int) := by
  have e : (2 : Int) ^ (8 * n) = ((256 ^ n : Nat) : Int) := by
    rw [show (256 : Nat) = 2 ^ 8 from rfl, ← Nat.pow_mul]; simp
  rw [e]; simp

theorem number_fill (n k v : Nat) (hk : k < n) :
    (splice (byt (List.replicate n 0)) (n - k) (byt (be v k))).set (n - 1 - k) (.int .u8 (((v / 256 ^ k : Nat) : Int) % 256)) = splice (byt (List.replicate n 0)) (n - (k + 1)) (byt (be v (k + 1))) := by
  have h := fill_step (byt (List.replicate n 0)) 0 n k v hk (by simp [byt])
  rw [shift_bytes] at h
  simpa only [Nat.zero_add] using h


set_option maxRecDepth 100000 in
set_option maxHeartbeats 400000 in
theorem rnumber_any (v n : Nat) (w : World) (hn : n ≤ 8) (hv : v < 18446744073709551616) :
    Calls Try.prog 43 #[.int .u64 (v : Int), .int .i64 (n : Int)] w fun e w' =>
      e = .returned (.slice (some ⟨w.heap.size, 0, none⟩) n n) ∧ Below w.heap.size w w' ∧ Row w' w.heap.size 5 (byt (be v n)) (0, 0) := by
  have hmk := make_bytes n (by omega) n rfl
  go_enter Try.func43, Try.ntmps43
  go_wp2
  go_loopw [0, 6] (fun x i wr => ∃ k : Nat, k ≤ n ∧ i = .int .i64 ((n : Int) - 1 - k) ∧ x = .int .u64 ((v / 256 ^ k : Nat) : Int) ∧ Below w.heap.size w wr ∧ Row wr w.heap.size 5 (splice (byt (List.replicate n 0)) (n - k) (byt (be v k))) (0, 0)) (fun _ i _ => (intOf i + 1).toNat)
  case atStart =>
    refine ⟨0, Nat.zero_le _, by simp, by simp, (Below.refl _ _).alloc (Nat.le_refl _) _, ?_⟩
    have := Row.new w 5 (byt (List.replicate n 0)) (0, 0)
    simpa [splice, be, byt] using this
  case round =>
    obtain ⟨k, hk, rfl, rfl, hb, hr⟩ := hrel
    by_cases hlt : k < n
    · have hcell : ∃ u, wr.cell? ⟨w.heap.size, n - 1 - k, none⟩ = some u := by
        rw [hr.cell]
        have hl : (splice (byt (List.replicate n 0)) (n - k) (byt (be v k))).length = n := by
          rw [length_splice _ _ _ (by rw [byt_length, byt_length, be_length]; simp; omega), byt_length]; simp
        exact ⟨_, List.getElem?_eq_getElem (by rw [hl]; omega)⟩
      obtain ⟨u0, hu0⟩ := hcell
      have hfree := hr.loose (n - 1 - k)
      have hst := hr.put (n - 1 - k) (.int .u8 (((v / 256 ^ k : Nat) : Int) % 256))
      rw [number_fill n k v hlt] at hst
      have HST := Lib.hid hst
      have HB := Lib.hid (hb.setCell (p := ⟨w.heap.size, n - 1 - k, none⟩) (Nat.le_refl _) (.int .u8 (((v / 256 ^ k : Nat) : Int) % 256)))
      have HD := Lib.hid (div_step v k)
      have hvk : v / 256 ^ k < 18446744073709551616 := Nat.lt_of_le_of_lt (Nat.div_le_self _ _) hv
      generalize hx : v / 256 ^ k = x at *
      clear hst hr hb hx
      go_wp2
      go_roundw
      case rel => exact ⟨k + 1, by omega, congrArg (Value.int IntKind.i64) (by omega), by rw [← HD.out]; simp, HB.out, HST.out⟩
      case measure => simp [intOf]; omega
    · obtain rfl : k = n := by omega
      have hf : splice (byt (List.replicate k 0)) (k - k) (byt (be v k)) = byt (be v k) := by
        rw [Nat.sub_self]; simp [splice, byt, be_length]
      rw [hf] at hr
      clear hf
      go_wp2
      go_ret
      exact ⟨rfl, hb, hr⟩


theorem val_take (l : List UInt8) (k : Nat) (h : k < l.length) : val (l.take (k + 1)) = val (l.take k) * 256 + l[k].toNat := by
  rw [List.take_succ_eq_append_getElem h, val_snoc]

set_option maxRecDepth 100000 in
set_option maxHeartbeats 1000000 in
theorem rworth_any {T : TypeId} (A : Option Addr) (l : List UInt8) (n c : Nat) (w : World) (hl : l.length = n) (hr : Reads T w A l) (hn : n ≤ 8) :
    Calls Try.prog 47 #[.slice A n c] w fun r w' => r = .returned (.int .u64 (val l : Int)) ∧ w = w' := by
  subst hl
  go_enter Try.func47, Try.ntmps47
  go_wp2
  go_loop [3, 4] (fun v i => ∃ k : Nat, k ≤ l.length ∧ i = .int .i64 k ∧ v = .int .u64 (val (l.take k) : Int)) (fun _ i => l.length - (intOf i).toNat)
  case atStart => exact ⟨0, by omega, rfl, by simp [val]⟩
  case round =>
    obtain ⟨k, hk, rfl, rfl⟩ := hrel
    by_cases hlt : k < l.length
    · obtain ⟨g, off, hA, hcell⟩ := hr.cell hlt
      subst hA
      have HV := Lib.hid (val_take l k hlt)
      have hb : val (l.take k) < 256 ^ 7 := Nat.lt_of_lt_of_le (val_lt _) (Nat.pow_le_pow_right (by omega) (by rw [List.length_take]; omega))
      have hc := l[k].toNat_lt
      obtain ⟨y, hy⟩ : ∃ y, l[k].toNat = y := ⟨_, rfl⟩
      rw [hy] at hcell hc HV
      obtain ⟨v, hv⟩ : ∃ v, val (l.take k) = v := ⟨_, rfl⟩
      rw [hv] at hb HV ⊢
      clear hy hv
      go_wp2
      go_round
      case rel => exact ⟨k + 1, by omega, by go_num, by rw [HV.out]; congr 1; omega⟩
      case measure => simp [intOf]; omega
    · obtain rfl : k = l.length := by omega
      rw [List.take_length]
      obtain ⟨v, hv⟩ : ∃ v, val l = v := ⟨_, rfl⟩
      rw [hv]
      go_wp2
      go_ret
      exact ⟨rfl, rfl⟩

end Go.Proofs.Ytpjgmblhlhnniaa
