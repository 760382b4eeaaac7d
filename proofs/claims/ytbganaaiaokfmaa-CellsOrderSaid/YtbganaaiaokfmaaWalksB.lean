/-
  The walks over package octet, part B: filling in a number.
-/
import Derived.Test.YtbganaaiaokfmaaWalksA
namespace Go.Proofs.Ytbganaaiaokfmaa
open Go.RowKit

theorem splice_grow (L : List Value) (o : Nat) (cs : List Value) (x : Value) (h : o + 1 + cs.length ≤ L.length) : (splice L (o + 1) cs).set o x = splice L o (x :: cs) := by
  have e1 : L.take (o + 1) = L.take o ++ [L[o]'(by omega)] := by rw [List.take_succ_eq_append_getElem (by omega)]
  have e2 : o = (L.take o).length := by rw [List.length_take]; omega
  unfold splice
  rw [e1, List.append_assoc, List.set_append_right _ _ (by omega)]
  rw [← e2, Nat.sub_self, show o + 1 + cs.length = o + (cs.length + 1) by omega]
  simp

theorem byte_num (v k : Nat) : ((v : Int) / 2 ^ (8 * k) % 256) = ((UInt8.ofNat (v / 256 ^ k)).toNat : Int) := by
  have e : (2 : Int) ^ (8 * k) = ((256 ^ k : Nat) : Int) := by
    rw [show (256 : Nat) = 2 ^ 8 from rfl, ← Nat.pow_mul]; simp
  rw [e, UInt8.toNat_ofNat']
  simp

theorem fill_step (cur : List Value) (off n k v : Nat) (hk : k < n) (hfit : off + n ≤ cur.length) :
    (splice cur (off + n - k) (byt (be v k))).set (off + (n - 1 - k)) (.int .u8 ((v : Int) / 2 ^ (8 * k) % 256)) = splice cur (off + n - (k + 1)) (byt (be v (k + 1))) := by
  have e := splice_grow cur (off + n - (k + 1)) (byt (be v k)) (.int .u8 ((v : Int) / 2 ^ (8 * k) % 256)) (by rw [byt_length, be_length]; omega)
  rw [show off + n - (k + 1) + 1 = off + n - k by omega] at e
  rw [show off + (n - 1 - k) = off + n - (k + 1) by omega, e, byte_num]
  rfl

set_option maxRecDepth 100000 in
set_option maxHeartbeats 400000 in
theorem fill_any (g off n c v : Nat) (cur : List Value) (w : World) (hn : 0 < n) (hn8 : n ≤ 8) (hrow : Row w g 5 cur (0, 0)) (hfit : off + n ≤ cur.length) :
    Calls Try.prog 52 #[.slice (some ⟨g, off, none⟩) n c, .int .u64 (v : Int)] w fun e w' =>
      e = .returned (.tuple #[]) ∧ w.grownBy w' (some g) ∧ Row w' g 5 (splice cur off (byt (be v n))) (0, 0) := by
  go_enter Try.func52, Try.ntmps52
  go_wp2
  go_loopw [7] (fun i wr => ∃ k : Nat, k ≤ n ∧ i = .int .i64 k ∧ w.grownBy wr (some g) ∧ Row wr g 5 (splice cur (off + n - k) (byt (be v k))) (0, 0)) (fun i _ => n - (intOf i).toNat)
  case atStart => exact ⟨0, Nat.zero_le _, rfl, only_refl _ _, by simpa [splice, be, byt] using hrow⟩
  case round =>
    obtain ⟨k, hk, rfl, hg, hr⟩ := hrel
    by_cases hlt : k < n
    · have hcell : ∃ u, wr.cell? ⟨g, off + (n - 1 - k), none⟩ = some u := by
        rw [hr.cell]
        have hl : (splice cur (off + n - k) (byt (be v k))).length = cur.length := length_splice _ _ _ (by rw [byt_length, be_length]; omega)
        exact ⟨_, List.getElem?_eq_getElem (by rw [hl]; omega)⟩
      obtain ⟨u0, hu0⟩ := hcell
      have hfree := hr.loose (off + (n - 1 - k))
      have hst := hr.put (off + (n - 1 - k)) (.int .u8 ((v : Int) / 2 ^ (8 * k) % 256))
      rw [fill_step cur off n k v hlt hfit] at hst
      have hg2 := only_put hg (off + (n - 1 - k)) (.int .u8 ((v : Int) / 2 ^ (8 * k) % 256))
      have HST := Lib.hid hst
      clear hst hr
      go_wp2
      go_roundw
      case rel => exact ⟨k + 1, by omega, by go_num, hg2, HST.out⟩
      case measure => simp [intOf]; omega
    · have hkn : off + n - k = off := by omega
      obtain rfl : k = n := by omega
      rw [hkn] at hr
      clear hkn
      go_wp2
      go_end0
      exact ⟨rfl, hg, hr⟩

theorem val_take_succ (l : List UInt8) (k : Nat) (h : k < l.length) : val (l.take (k + 1)) = val (l.take k) * 256 + l[k].toNat := by
  rw [List.take_succ_eq_append_getElem h, val_snoc]

theorem number_step (l : List UInt8) (k : Nat) (h : k < l.length) (h8 : l.length ≤ 8) :
    (val (l.take k) : Int) * 256 = ((val (l.take k) * 256 : Nat) : Int) ∧ val (l.take k) < 72057594037927936 := by
  refine ⟨by simp, ?_⟩
  have h1 := val_lt (l.take k)
  have h2 : (l.take k).length ≤ 7 := by rw [List.length_take]; omega
  exact Nat.lt_of_lt_of_le h1 (Nat.pow_le_pow_right (by omega) h2)

set_option maxRecDepth 100000 in
set_option maxHeartbeats 400000 in
theorem number_any (A : Option Addr) (l : List UInt8) (c : Nat) (w : World) (hr : Reads 5 w A l) (h8 : l.length ≤ 8) :
    Calls Try.prog 53 #[.slice A l.length c] w fun e w' => e = .returned (.int .u64 (val l : Int)) ∧ w = w' := by
  go_enter Try.func53, Try.ntmps53
  go_wp2
  go_loop [3, 8] (fun n i => ∃ k : Nat, k ≤ l.length ∧ i = .int .i64 k ∧ n = .int .u64 (val (l.take k) : Int)) (fun _ i => l.length - (intOf i).toNat)
  case atStart => exact ⟨0, Nat.zero_le _, rfl, rfl⟩
  case round =>
    obtain ⟨k, hk, rfl, rfl⟩ := hrel
    by_cases hlt : k < l.length
    · obtain ⟨g, off, rfl, hcell⟩ := hr.cell hlt
      have hb := (number_step l k hlt h8).2
      have hc : l[k].toNat < 256 := l[k].toNat_lt
      have hj := join_byte (val (l.take k)) l[k].toNat (by omega) (by omega) (by omega) (by omega)
      have HV := Lib.hid (val_take_succ l k hlt)
      clear hr
      go_wp2
      go_round
      case rel => exact ⟨k + 1, by omega, by go_num, by rw [HV.out]; simp⟩
      case measure => simp [intOf]; omega
    · obtain rfl : k = l.length := by omega
      have HL : val (l.take l.length) = val l := by rw [List.take_length]
      rw [HL]
      clear HL
      go_wp2
      go_ret
      exact ⟨rfl, rfl⟩

end Go.Proofs.Ytbganaaiaokfmaa
