/-
  The walks over package octet, as far as package record calls it (over crc's texts): grown, fill, number, Put.
-/
import Derived.Test.YtlhcacancnmhcaaDoorCrcC
namespace Go.Proofs.YtlhcacancnmhcaaDoor
open Go.RowKit

set_option maxRecDepth 100000 in
set_option maxHeartbeats 400000 in
theorem isT_any (n : Int) (w : World) : Calls Tryd.prog 42 #[.int .i64 n] w fun e w' => e = .returned (.bool (isT n)) ∧ w = w' := by
  by_cases h1 : n = 1
  · subst h1
    go_enter Tryd.func42, Tryd.ntmps42
    go_wp2
    go_ret
    exact ⟨rfl, rfl⟩
  · by_cases h2 : n = 2
    · subst h2
      go_enter Tryd.func42, Tryd.ntmps42
      go_wp2
      go_ret
      exact ⟨rfl, rfl⟩
    · have e1 : (n == 1) = false := by simpa using h1
      have e2 : (n == 2) = false := by simpa using h2
      have e : isT n = (n == 4) := by simp [isT, e1, e2]
      rw [e]
      clear e
      go_enter Tryd.func42, Tryd.ntmps42
      go_wp2
      go_ret
      exact ⟨rfl, rfl⟩

set_option maxRecDepth 100000 in
set_option maxHeartbeats 400000 in
theorem isW_any (n : Int) (w : World) : Calls Tryd.prog 32 #[.int .i64 n] w fun e w' => e = .returned (.bool (isW n)) ∧ w = w' := by
  by_cases h1 : n = 8
  · subst h1
    go_enter Tryd.func32, Tryd.ntmps32
    go_wp2
    go_ret
    exact ⟨rfl, rfl⟩
  · have e1 : (n == 8) = false := by simpa using h1
    have e : isW n = isT n := by simp [isW, e1]
    rw [e]
    clear e
    go_enter Tryd.func32, Tryd.ntmps32
    go_wp2_with (go_at_call 42; refine (isT_any _ _).mono ?_; rintro e w' ⟨rfl, rfl⟩)
    go_ret
    exact ⟨rfl, rfl⟩

set_option maxRecDepth 100000 in
set_option maxHeartbeats 400000 in
theorem grown_any {T : TypeId} (A : Option Addr) (l : List UInt8) (c : Nat) (m : Nat) (w : World) (hr : Reads T w A l) (hs : l.length + m ≤ 281474976710656) :
    Calls Tryd.prog 33 #[.slice A l.length c, .int .i64 (m : Int)] w fun e w' =>
      e = .returned (.slice (some ⟨w.heap.size, 0, none⟩) (l.length + m) (l.length + m)) ∧ Below w.heap.size w w' ∧ Row w' w.heap.size 5 (byt (l ++ List.replicate m 0)) (0, 0) := by
  have hmk := make_bytes (l.length + m) hs (↑l.length + ↑m) (by omega)
  go_enter Tryd.func33, Tryd.ntmps33
  go_wp2_with (with_reducible refine wpList_copy_splice rfl (.tmp 11) (.tmp 12) 47 47 rfl 5 Tryd.underlying47 Tryd.size_u8 (some ⟨w.heap.size, 0, none⟩) A (l.length + m) (l.length + m) l.length c rfl rfl w.heap.size 0 (byt (List.replicate (l.length + m) 0)) 5 ?hg (byt l) ?hn ?hpos ?hfit (byt_one l) w.heap.size w ?hb (Nat.le_refl _) ?_)
  case hg => exact heap_alloc_new _ _
  case hn => rw [byt_length]; exact (Nat.min_eq_left (by omega)).symm
  case hfit => simp [byt]
  case hb => exact (Below.refl _ _).alloc (Nat.le_refl _) _
  case hpos =>
    intro h0
    rw [byt_length] at h0
    obtain ⟨g, off, cs, mk, hA, hrow, hc⟩ := hr h0
    refine ⟨_, hA, fun j v hj => ?_⟩
    have hjl : j < l.length := by
      have := (List.getElem?_eq_some_iff.1 hj).1
      rwa [byt_length] at this
    rw [Addr.add_lit, (hrow.alloc _).cell, hc j hjl, hj]
  intro w1 hg1 hb1
  go_wp2
  go_ret
  exact ⟨rfl, hb1, by have := hg1.out; rw [splice_head] at this; exact this⟩

theorem splice_grow (L : List Value) (o : Nat) (cs : List Value) (x : Value) (h : o + 1 + cs.length ≤ L.length) : (splice L (o + 1) cs).set o x = splice L o (x :: cs) := by
  have e1 : L.take (o + 1) = L.take o ++ [L[o]'(by omega)] := by rw [List.take_succ_eq_append_getElem (by omega)]
  have e2 : o = (L.take o).length := by rw [List.length_take]; omega
  unfold splice
  rw [e1, List.append_assoc, List.set_append_right _ _ (by omega)]
  rw [← e2, Nat.sub_self, show o + 1 + cs.length = o + (cs.length + 1) by omega]
  simp

theorem byte_num (v k : Nat) : ((v : Int) / 2 ^ (8 * k) % 256) = ((UInt8.ofNat (v / 256 ^ k)).toNat : Int) := by
  have e : (2 : Int) ^ (8 * k) = ((256 ^ k : Nat) : Int) := by
    rw [show (256 : Nat) = 2 ^ 8 from rfl, ← Nat.pow_mul]; simp
  rw [e, UInt8.toNat_ofNat']
  simp

theorem fill_step (cur : List Value) (off n k v : Nat) (hk : k < n) (hfit : off + n ≤ cur.length) :
    (splice cur (off + n - k) (byt (be v k))).set (off + (n - 1 - k)) (.int .u8 ((v : Int) / 2 ^ (8 * k) % 256)) = splice cur (off + n - (k + 1)) (byt (be v (k + 1))) := by
  have e := splice_grow cur (off + n - (k + 1)) (byt (be v k)) (.int .u8 ((v : Int) / 2 ^ (8 * k) % 256)) (by rw [byt_length, be_length]; omega)
  rw [show off + n - (k + 1) + 1 = off + n - k by omega] at e
  rw [show off + (n - 1 - k) = off + n - (k + 1) by omega, e, byte_num]
  rfl

set_option maxRecDepth 100000 in
set_option maxHeartbeats 400000 in
theorem fill_any (g off n c v : Nat) (cur : List Value) (w : World) (hn : 0 < n) (hn8 : n ≤ 8) (hrow : Row w g 5 cur (0, 0)) (hfit : off + n ≤ cur.length) :
    Calls Tryd.prog 34 #[.slice (some ⟨g, off, none⟩) n c, .int .u64 (v : Int)] w fun e w' =>
      e = .returned (.tuple #[]) ∧ w.grownBy w' (some g) ∧ Row w' g 5 (splice cur off (byt (be v n))) (0, 0) := by
  go_enter Tryd.func34, Tryd.ntmps34
  go_wp2
  go_loopw [7] (fun i wr => ∃ k : Nat, k ≤ n ∧ i = .int .i64 k ∧ w.grownBy wr (some g) ∧ Row wr g 5 (splice cur (off + n - k) (byt (be v k))) (0, 0)) (fun i _ => n - (intOf i).toNat)
  case atStart => exact ⟨0, Nat.zero_le _, rfl, only_refl _ _, by simpa [splice, be, byt] using hrow⟩
  case round =>
    obtain ⟨k, hk, rfl, hg, hr⟩ := hrel
    by_cases hlt : k < n
    · have hcell : ∃ u, wr.cell? ⟨g, off + (n - 1 - k), none⟩ = some u := by
        rw [hr.cell]
        have hl : (splice cur (off + n - k) (byt (be v k))).length = cur.length := length_splice _ _ _ (by rw [byt_length, be_length]; omega)
        exact ⟨_, List.getElem?_eq_getElem (by rw [hl]; omega)⟩
      obtain ⟨u0, hu0⟩ := hcell
      have hfree := hr.loose (off + (n - 1 - k))
      have hst := hr.put (off + (n - 1 - k)) (.int .u8 ((v : Int) / 2 ^ (8 * k) % 256))
      rw [fill_step cur off n k v hlt hfit] at hst
      have hg2 := only_put hg (off + (n - 1 - k)) (.int .u8 ((v : Int) / 2 ^ (8 * k) % 256))
      have HST := Lib.hid hst
      clear hst hr
      go_wp2
      go_roundw
      case rel => exact ⟨k + 1, by omega, by go_num, hg2, HST.out⟩
      case measure => simp [intOf]; omega
    · have hkn : off + n - k = off := by omega
      obtain rfl : k = n := by omega
      rw [hkn] at hr
      clear hkn
      go_wp2
      go_end0
      exact ⟨rfl, hg, hr⟩

theorem val_take_succ (l : List UInt8) (k : Nat) (h : k < l.length) : val (l.take (k + 1)) = val (l.take k) * 256 + l[k].toNat := by
  rw [List.take_succ_eq_append_getElem h, val_snoc]

theorem number_step (l : List UInt8) (k : Nat) (h : k < l.length) (h8 : l.length ≤ 8) :
    (val (l.take k) : Int) * 256 = ((val (l.take k) * 256 : Nat) : Int) ∧ val (l.take k) < 72057594037927936 := by
  refine ⟨by simp, ?_⟩
  have h1 := val_lt (l.take k)
  have h2 : (l.take k).length ≤ 7 := by rw [List.length_take]; omega
  exact Nat.lt_of_lt_of_le h1 (Nat.pow_le_pow_right (by omega) h2)

set_option maxRecDepth 100000 in
set_option maxHeartbeats 400000 in
theorem number_any (A : Option Addr) (l : List UInt8) (c : Nat) (w : World) (hr : Reads 5 w A l) (h8 : l.length ≤ 8) :
    Calls Tryd.prog 38 #[.slice A l.length c] w fun e w' => e = .returned (.int .u64 (val l : Int)) ∧ w = w' := by
  go_enter Tryd.func38, Tryd.ntmps38
  go_wp2
  go_loop [3, 8] (fun n i => ∃ k : Nat, k ≤ l.length ∧ i = .int .i64 k ∧ n = .int .u64 (val (l.take k) : Int)) (fun _ i => l.length - (intOf i).toNat)
  case atStart => exact ⟨0, Nat.zero_le _, rfl, rfl⟩
  case round =>
    obtain ⟨k, hk, rfl, rfl⟩ := hrel
    by_cases hlt : k < l.length
    · obtain ⟨g, off, rfl, hcell⟩ := hr.cell hlt
      have hb := (number_step l k hlt h8).2
      have hc : l[k].toNat < 256 := l[k].toNat_lt
      have hj := join_byte (val (l.take k)) l[k].toNat (by omega) (by omega) (by omega) (by omega)
      have HV := Lib.hid (val_take_succ l k hlt)
      clear hr
      go_wp2
      go_round
      case rel => exact ⟨k + 1, by omega, by go_num, by rw [HV.out]; simp⟩
      case measure => simp [intOf]; omega
    · obtain rfl : k = l.length := by omega
      have HL : val (l.take l.length) = val l := by rw [List.take_length]
      rw [HL]
      clear HL
      go_wp2
      go_ret
      exact ⟨rfl, rfl⟩

set_option maxRecDepth 100000 in
set_option maxHeartbeats 400000 in
theorem fill_none (A : Option Addr) (c : Nat) (v : Int) (w : World) :
    Calls Tryd.prog 34 #[.slice A 0 c, .int .u64 v] w fun e w' => e = .returned (.tuple #[]) ∧ w = w' := by
  go_enter Tryd.func34, Tryd.ntmps34
  go_wp2
  go_loop [7] (fun i => i = .int .i64 0) (fun _ => 0)
  case atStart => rfl
  case round =>
    subst hrel
    go_wp2
    go_end0
    exact ⟨rfl, rfl⟩

theorem splice_tail (l : List UInt8) (k v : Nat) : splice (byt (l ++ List.replicate k 0)) l.length (byt (be v k)) = byt (l ++ be v k) := by
  have e : l.length = (byt l).length := (byt_length l).symm
  unfold splice
  rw [byt_append, e, List.take_left, byt_append]
  rw [List.drop_eq_nil_of_le (by simp [byt, be_length])]
  simp

theorem below_after0 {w w1 w2 : World} (hb : Below w.heap.size w w1) (hg : w1.grownBy w2 (some w.heap.size)) : Below w.heap.size w w2 :=
  hb.trans ⟨hg.os, hg.tape, hg.output, hg.size, fun k hk => hg.block k (Nat.lt_of_lt_of_le hk hb.size) (fun e => by injection e; omega)⟩

set_option maxRecDepth 100000 in
set_option maxHeartbeats 400000 in
theorem put_wide (A : Option Addr) (l : List UInt8) (c v : Nat) (n : Nat) (w : World) (hr : Reads 5 w A l) (hs : l.length + 8 ≤ 281474976710656) (hn : isW n = true) :
    Calls Tryd.prog 24 #[.slice A l.length c, .int .u64 (v : Int), .int .i64 (n : Int)] w fun e w' =>
      e = .returned (.slice (some ⟨w.heap.size, 0, none⟩) (l.length + n) (l.length + n)) ∧ Below w.heap.size w w' ∧ Row w' w.heap.size 5 (byt (l ++ be v n)) (0, 0) := by
  have hpos : 0 < n ∧ n ≤ 8 := by have := isW_cases hn; omega
  obtain ⟨h0, h8⟩ := hpos
  go_enter Tryd.func24, Tryd.ntmps24
  go_wp2_with (go_at_call 32; refine (isW_any _ _).mono ?_; rintro e w' ⟨rfl, rfl⟩)
  refine (grown_any A l c n w hr (by omega)).mono ?_
  rintro e w1 ⟨rfl, hb1, hrow1⟩
  have HROW := Lib.hid hrow1
  clear hrow1
  go_wp2_with fail
  refine (fill_any w.heap.size l.length n _ v _ _ h0 h8 HROW.out (by rw [byt_length]; simp)).mono ?_
  rintro e w2 ⟨rfl, hg2, hrow2⟩
  rw [splice_tail] at hrow2
  go_wp2
  go_ret
  exact ⟨rfl, below_after0 hb1 hg2, hrow2⟩

set_option maxRecDepth 100000 in
set_option maxHeartbeats 400000 in
theorem put_none (A : Option Addr) (l : List UInt8) (c v : Nat) (n : Int) (w : World) (hr : Reads 5 w A l) (hs : l.length + 8 ≤ 281474976710656) (hn : isW n = false) :
    Calls Tryd.prog 24 #[.slice A l.length c, .int .u64 (v : Int), .int .i64 n] w fun e w' =>
      e = .returned (.slice (some ⟨w.heap.size, 0, none⟩) l.length l.length) ∧ Below w.heap.size w w' ∧ Row w' w.heap.size 5 (byt l) (0, 0) := by
  go_enter Tryd.func24, Tryd.ntmps24
  go_wp2_with (go_at_call 32; refine (isW_any _ _).mono ?_; rintro e w' ⟨rfl, rfl⟩)
  refine (grown_any A l c 0 w hr (by omega)).mono ?_
  rintro e w1 ⟨rfl, hb1, hrow1⟩
  simp only [List.replicate_zero, List.append_nil] at hrow1
  go_wp2_with fail
  refine (fill_none _ _ _ _).mono ?_
  rintro e w2 ⟨rfl, rfl⟩
  go_wp2
  go_ret
  exact ⟨rfl, hb1, hrow1⟩

theorem Tryd.some_u8 : ((Tryd.prog.info? 5).map (fun i => i.size)).isSome = true := by kernel_rfl

end Go.Proofs.YtlhcacancnmhcaaDoor
