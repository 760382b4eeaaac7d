/-
  The walks over package octet, part A: widths, the grown copy, filling in a number, reading one.
-/
import Derived.Test.YtnmfgmlmjbfdcaaRows
import Derived.Test.YtnmfgmlmjbfdcaaBase
import Derived.Laws.Strings
namespace Go.Proofs.Ytnmfgmlmjbfdcaa
open Go.RowKit

set_option maxRecDepth 100000 in
set_option maxHeartbeats 400000 in
theorem isT_any (n : Int) (w : World) : Calls Try.prog 62 #[.int .i64 n] w fun e w' => e = .returned (.bool (isT n)) ∧ w = w' := by
  by_cases h1 : n = 1
  · subst h1
    go_enter Try.func62, Try.ntmps62
    go_wp2
    go_ret
    exact ⟨rfl, rfl⟩
  · by_cases h2 : n = 2
    · subst h2
      go_enter Try.func62, Try.ntmps62
      go_wp2
      go_ret
      exact ⟨rfl, rfl⟩
    · have e1 : (n == 1) = false := by simpa using h1
      have e2 : (n == 2) = false := by simpa using h2
      have e : isT n = (n == 4) := by simp [isT, e1, e2]
      rw [e]
      clear e
      go_enter Try.func62, Try.ntmps62
      go_wp2
      go_ret
      exact ⟨rfl, rfl⟩

set_option maxRecDepth 100000 in
set_option maxHeartbeats 400000 in
theorem isW_any (n : Int) (w : World) : Calls Try.prog 74 #[.int .i64 n] w fun e w' => e = .returned (.bool (isW n)) ∧ w = w' := by
  by_cases h1 : n = 8
  · subst h1
    go_enter Try.func74, Try.ntmps74
    go_wp2
    go_ret
    exact ⟨rfl, rfl⟩
  · have e1 : (n == 8) = false := by simpa using h1
    have e : isW n = isT n := by simp [isW, e1]
    rw [e]
    clear e
    go_enter Try.func74, Try.ntmps74
    go_wp2_with (go_at_call 62; refine (isT_any _ _).mono ?_; rintro e w' ⟨rfl, rfl⟩)
    go_ret
    exact ⟨rfl, rfl⟩

set_option maxRecDepth 100000 in
theorem Try.info_u8 : (Try.prog.info? 5).map (fun i => (i.zero, i.size, i.bytes)) = some (some (.int .u8 0), 1, 1) := by kernel_rfl

set_option maxRecDepth 100000 in
theorem Try.size_u8 : (Try.prog.info? 5).map (fun i => i.size) = some 1 := by kernel_rfl

theorem madeCells_zero (n : Nat) : madeCells (Value.int .u8 0).cells n = (byt (List.replicate n 0)).toArray := by
  apply Array.ext
  · simp [madeCells, byt]
  · intro i h1 h2
    simp [madeCells, byt, Value.cells, Nat.mod_one]

theorem make_bytes (n : Nat) (hn : n ≤ 281474976710656) (i : Int) (hi : i = (n : Int)) (w : World) : (Instr.makeSlice 69 (.int .i64 i) (.int .i64 i)).run Try.prog w =
    .ok (.slice (some ⟨w.heap.size, 0, none⟩) n n) (w.alloc (.cells (byt (List.replicate n 0)).toArray 5)) := by
  obtain ⟨i0, hi0, hz0, hz1, hz2⟩ := info_parts Try.info_u8
  subst hi
  have h := run_make (P := Try.prog) w 69 5 i0 _ Try.underlying69 hi0 hz0 .i64 .i64 n n (by omega) (by omega) (by rw [hz2]; omega) (by omega)
  rw [h, hz1, Int.toNat_natCast, Nat.mul_one, madeCells_zero]

theorem splice_head (l : List UInt8) (m : Nat) : splice (byt (List.replicate (l.length + m) 0)) 0 (byt l) = byt (l ++ List.replicate m 0) := by
  simp [splice, byt]

set_option maxRecDepth 100000 in
set_option maxHeartbeats 400000 in
theorem grown_any (A : Option Addr) (l : List UInt8) (c : Nat) (m : Nat) (w : World) (hr : Reads 5 w A l) (hs : l.length + m ≤ 281474976710656) :
    Calls Try.prog 63 #[.slice A l.length c, .int .i64 (m : Int)] w fun e w' =>
      e = .returned (.slice (some ⟨w.heap.size, 0, none⟩) (l.length + m) (l.length + m)) ∧ Below w.heap.size w w' ∧ Row w' w.heap.size 5 (byt (l ++ List.replicate m 0)) (0, 0) := by
  have hmk := make_bytes (l.length + m) hs (↑l.length + ↑m) (by omega)
  go_enter Try.func63, Try.ntmps63
  go_wp2_with (with_reducible refine wpList_copy_splice rfl (.tmp 11) (.tmp 12) 69 69 rfl 5 Try.underlying69 Try.size_u8 (some ⟨w.heap.size, 0, none⟩) A (l.length + m) (l.length + m) l.length c rfl rfl w.heap.size 0 (byt (List.replicate (l.length + m) 0)) 5 ?hg (byt l) ?hn ?hpos ?hfit (byt_one l) w.heap.size w ?hb (Nat.le_refl _) ?_)
  case hg => exact heap_alloc_new _ _
  case hn => rw [byt_length]; exact (Nat.min_eq_left (by omega)).symm
  case hfit => simp [byt]
  case hb => exact (Below.refl _ _).alloc (Nat.le_refl _) _
  case hpos =>
    intro h0
    rw [byt_length] at h0
    obtain ⟨g, off, cs, mk, hA, hrow, hc⟩ := hr h0
    refine ⟨_, hA, fun j v hj => ?_⟩
    have hjl : j < l.length := by
      have := (List.getElem?_eq_some_iff.1 hj).1
      rwa [byt_length] at this
    rw [Addr.add_lit, (hrow.alloc _).cell, hc j hjl, hj]
  intro w1 hg1 hb1
  go_wp2
  go_ret
  exact ⟨rfl, hb1, by have := hg1.out; rw [splice_head] at this; exact this⟩

end Go.Proofs.Ytnmfgmlmjbfdcaa

/-
  The walks over package octet, part B: filling in a number.
-/
namespace Go.Proofs.Ytnmfgmlmjbfdcaa
open Go.RowKit

theorem splice_grow (L : List Value) (o : Nat) (cs : List Value) (x : Value) (h : o + 1 + cs.length ≤ L.length) : (splice L (o + 1) cs).set o x = splice L o (x :: cs) := by
  have e1 : L.take (o + 1) = L.take o ++ [L[o]'(by omega)] := by rw [List.take_succ_eq_append_getElem (by omega)]
  have e2 : o = (L.take o).length := by rw [List.length_take]; omega
  unfold splice
  rw [e1, List.append_assoc, List.set_append_right _ _ (by omega)]
  rw [← e2, Nat.sub_self, show o + 1 + cs.length = o + (cs.length + 1) by omega]
  simp

theorem byte_num (v k : Nat) : ((v : Int) / 2 ^ (8 * k) % 256) = ((UInt8.ofNat (v / 256 ^ k)).toNat : Int) := by
  have e : (2 : Int) ^ (8 * k) = ((256 ^ k : Nat) : Int) := by
    rw [show (256 : Nat) = 2 ^ 8 from rfl, ← Nat.pow_mul]; simp
  rw [e, UInt8.toNat_ofNat']
  simp

theorem fill_step (cur : List Value) (off n k v : Nat) (hk : k < n) (hfit : off + n ≤ cur.length) :
    (splice cur (off + n - k) (byt (be v k))).set (off + (n - 1 - k)) (.int .u8 ((v : Int) / 2 ^ (8 * k) % 256)) = splice cur (off + n - (k + 1)) (byt (be v (k + 1))) := by
  have e := splice_grow cur (off + n - (k + 1)) (byt (be v k)) (.int .u8 ((v : Int) / 2 ^ (8 * k) % 256)) (by rw [byt_length, be_length]; omega)
  rw [show off + n - (k + 1) + 1 = off + n - k by omega] at e
  rw [show off + (n - 1 - k) = off + n - (k + 1) by omega, e, byte_num]
  rfl

set_option maxRecDepth 100000 in
set_option maxHeartbeats 400000 in
theorem ofill_any (g off n c v : Nat) (cur : List Value) (w : World) (hn : 0 < n) (hn8 : n ≤ 8) (hrow : Row w g 5 cur (0, 0)) (hfit : off + n ≤ cur.length) :
    Calls Try.prog 64 #[.slice (some ⟨g, off, none⟩) n c, .int .u64 (v : Int)] w fun e w' =>
      e = .returned (.tuple #[]) ∧ w.grownBy w' (some g) ∧ Row w' g 5 (splice cur off (byt (be v n))) (0, 0) := by
  go_enter Try.func64, Try.ntmps64
  go_wp2
  go_loopw [7] (fun i wr => ∃ k : Nat, k ≤ n ∧ i = .int .i64 k ∧ w.grownBy wr (some g) ∧ Row wr g 5 (splice cur (off + n - k) (byt (be v k))) (0, 0)) (fun i _ => n - (intOf i).toNat)
  case atStart => exact ⟨0, Nat.zero_le _, rfl, only_refl _ _, by simpa [splice, be, byt] using hrow⟩
  case round =>
    obtain ⟨k, hk, rfl, hg, hr⟩ := hrel
    by_cases hlt : k < n
    · have hcell : ∃ u, wr.cell? ⟨g, off + (n - 1 - k), none⟩ = some u := by
        rw [hr.cell]
        have hl : (splice cur (off + n - k) (byt (be v k))).length = cur.length := length_splice _ _ _ (by rw [byt_length, be_length]; omega)
        exact ⟨_, List.getElem?_eq_getElem (by rw [hl]; omega)⟩
      obtain ⟨u0, hu0⟩ := hcell
      have hfree := hr.loose (off + (n - 1 - k))
      have hst := hr.put (off + (n - 1 - k)) (.int .u8 ((v : Int) / 2 ^ (8 * k) % 256))
      rw [fill_step cur off n k v hlt hfit] at hst
      have hg2 := only_put hg (off + (n - 1 - k)) (.int .u8 ((v : Int) / 2 ^ (8 * k) % 256))
      have HST := Lib.hid hst
      clear hst hr
      go_wp2
      go_roundw
      case rel => exact ⟨k + 1, by omega, by go_num, hg2, HST.out⟩
      case measure => simp [intOf]; omega
    · have hkn : off + n - k = off := by omega
      obtain rfl : k = n := by omega
      rw [hkn] at hr
      clear hkn
      go_wp2
      go_end0
      exact ⟨rfl, hg, hr⟩

theorem val_take_succ (l : List UInt8) (k : Nat) (h : k < l.length) : val (l.take (k + 1)) = val (l.take k) * 256 + l[k].toNat := by
  rw [List.take_succ_eq_append_getElem h, val_snoc]

theorem number_step (l : List UInt8) (k : Nat) (h : k < l.length) (h8 : l.length ≤ 8) :
    (val (l.take k) : Int) * 256 = ((val (l.take k) * 256 : Nat) : Int) ∧ val (l.take k) < 72057594037927936 := by
  refine ⟨by simp, ?_⟩
  have h1 := val_lt (l.take k)
  have h2 : (l.take k).length ≤ 7 := by rw [List.length_take]; omega
  exact Nat.lt_of_lt_of_le h1 (Nat.pow_le_pow_right (by omega) h2)

set_option maxRecDepth 100000 in
set_option maxHeartbeats 400000 in
theorem number_any (A : Option Addr) (l : List UInt8) (c : Nat) (w : World) (hr : Reads 5 w A l) (h8 : l.length ≤ 8) :
    Calls Try.prog 70 #[.slice A l.length c] w fun e w' => e = .returned (.int .u64 (val l : Int)) ∧ w = w' := by
  go_enter Try.func70, Try.ntmps70
  go_wp2
  go_loop [3, 8] (fun n i => ∃ k : Nat, k ≤ l.length ∧ i = .int .i64 k ∧ n = .int .u64 (val (l.take k) : Int)) (fun _ i => l.length - (intOf i).toNat)
  case atStart => exact ⟨0, Nat.zero_le _, rfl, rfl⟩
  case round =>
    obtain ⟨k, hk, rfl, rfl⟩ := hrel
    by_cases hlt : k < l.length
    · obtain ⟨g, off, rfl, hcell⟩ := hr.cell hlt
      have hb := (number_step l k hlt h8).2
      have hc : l[k].toNat < 256 := l[k].toNat_lt
      have hj := join_byte (val (l.take k)) l[k].toNat (by omega) (by omega) (by omega) (by omega)
      have HV := Lib.hid (val_take_succ l k hlt)
      clear hr
      go_wp2
      go_round
      case rel => exact ⟨k + 1, by omega, by go_num, by rw [HV.out]; simp⟩
      case measure => simp [intOf]; omega
    · obtain rfl : k = l.length := by omega
      have HL : val (l.take l.length) = val l := by rw [List.take_length]
      rw [HL]
      clear HL
      go_wp2
      go_ret
      exact ⟨rfl, rfl⟩

end Go.Proofs.Ytnmfgmlmjbfdcaa

/-
  Plain facts on big-endian bytes: they are ordered as the numbers are; of one width no text's bytes begin another's. No program is read here.
-/
namespace Go.Proofs.Ytnmfgmlmjbfdcaa
open Go.RowKit

theorem be_mod (v k : Nat) : v % 256 ^ (k + 1) = (UInt8.ofNat (v / 256 ^ k)).toNat * 256 ^ k + v % 256 ^ k := by
  rw [Nat.mod_pow_succ, UInt8.toNat_ofNat', Nat.mul_comm, Nat.add_comm]

theorem digit_less (p q r s M : Nat) (hr : r < M) (hs : s < M) : (p < q ∨ (p = q ∧ r < s)) ↔ p * M + r < q * M + s := by
  constructor
  · rintro (h | ⟨rfl, h⟩)
    · have := Nat.mul_le_mul_right M (show p + 1 ≤ q from h)
      rw [Nat.add_mul, Nat.one_mul] at this
      omega
    · omega
  · intro h
    rcases Nat.lt_trichotomy p q with h1 | h1 | h1
    · exact .inl h1
    · subst h1; exact .inr ⟨rfl, by omega⟩
    · have := Nat.mul_le_mul_right M (show q + 1 ≤ p from h1)
      rw [Nat.add_mul, Nat.one_mul] at this
      omega

theorem less_be (a b : Nat) : ∀ k, Op.bytesLess (be a k) (be b k) = decide (a % 256 ^ k < b % 256 ^ k)
  | 0 => by simp [be, Op.bytesLess, Nat.mod_one]
  | k + 1 => by
    have hM : 0 < 256 ^ k := Nat.pow_pos (by omega)
    have h := digit_less (UInt8.ofNat (a / 256 ^ k)).toNat (UInt8.ofNat (b / 256 ^ k)).toNat (a % 256 ^ k) (b % 256 ^ k) (256 ^ k) (Nat.mod_lt _ hM) (Nat.mod_lt _ hM)
    rw [← be_mod, ← be_mod] at h
    rw [Bool.eq_iff_iff]
    simp only [be, Op.bytesLess, less_be a b k, Bool.or_eq_true, Bool.and_eq_true, decide_eq_true_eq, beq_iff_eq]
    rw [← h, UInt8.lt_iff_toNat_lt, UInt8.toNat_inj.symm]

theorem be_inj (a b : Nat) : ∀ k, be a k = be b k ↔ a % 256 ^ k = b % 256 ^ k
  | 0 => by simp [be, Nat.mod_one]
  | k + 1 => by
    have hM : 0 < 256 ^ k := Nat.pow_pos (by omega)
    have ha := Nat.mod_lt a hM
    have hb := Nat.mod_lt b hM
    rw [be_mod a, be_mod b]
    simp only [be, List.cons.injEq, be_inj a b k]
    rw [UInt8.toNat_inj.symm]
    constructor
    · rintro ⟨h1, h2⟩; rw [h1, h2]
    · intro h
      have e : (UInt8.ofNat (a / 256 ^ k)).toNat = (UInt8.ofNat (b / 256 ^ k)).toNat := by
        have h1 := digit_less (UInt8.ofNat (a / 256 ^ k)).toNat (UInt8.ofNat (b / 256 ^ k)).toNat (a % 256 ^ k) (b % 256 ^ k) (256 ^ k) ha hb
        have h2 := digit_less (UInt8.ofNat (b / 256 ^ k)).toNat (UInt8.ofNat (a / 256 ^ k)).toNat (b % 256 ^ k) (a % 256 ^ k) (256 ^ k) hb ha
        rw [h] at h1 h2
        have h3 : ¬ (UInt8.ofNat (a / 256 ^ k)).toNat < (UInt8.ofNat (b / 256 ^ k)).toNat := fun x => Nat.lt_irrefl _ (h1.1 (.inl x))
        have h4 : ¬ (UInt8.ofNat (b / 256 ^ k)).toNat < (UInt8.ofNat (a / 256 ^ k)).toNat := fun x => Nat.lt_irrefl _ (h2.1 (.inl x))
        omega
      refine ⟨e, ?_⟩
      rw [e] at h
      omega

/-- In the walk's form: x and y the numbers as the program holds them. -/
theorem less_num (a b n : Nat) (x y : Int) (hx : x = (a : Int)) (hy : y = (b : Int)) (ha : a < 256 ^ n) (hb : b < 256 ^ n) : Op.bytesLess (be a n) (be b n) = decide (x < y) := by
  subst hx; subst hy
  rw [less_be, Nat.mod_eq_of_lt ha, Nat.mod_eq_of_lt hb]
  simp
theorem same_num (a b n : Nat) (x y : Int) (hx : x = (a : Int)) (hy : y = (b : Int)) (ha : a < 256 ^ n) (hb : b < 256 ^ n) : (be a n == be b n) = (x == y) := by
  subst hx; subst hy
  rw [Bool.eq_iff_iff, beq_iff_eq, beq_iff_eq, be_inj, Nat.mod_eq_of_lt ha, Nat.mod_eq_of_lt hb]
  omega

/-- The bytes that stand for a text of a width. -/
def otx (s : ByteArray) (n : Nat) : List UInt8 := be s.size n ++ s.data.toList

theorem size_list (s : ByteArray) : s.data.toList.length = s.size := rfl

theorem otx_length (s : ByteArray) (n : Nat) : (otx s n).length = n + s.size := by
  rw [otx, List.length_append, be_length, size_list]

/-- The bytes of a text of at most 400 bytes begin another's just if they are the same texts. -/
theorem otx_begins (s t : ByteArray) (hs : s.size ≤ 400) (ht : t.size ≤ 400) : ((otx t 2).take (2 + s.size) == otx s 2) = (s.toList == t.toList) := by
  rw [ByteArray.toList_eq, ByteArray.toList_eq, Bool.eq_iff_iff, beq_iff_eq, beq_iff_eq]
  constructor
  · intro h
    have h2 : (otx t 2).take 2 = (otx s 2).take 2 := by
      rw [← h, List.take_take, Nat.min_eq_left (by omega)]
    rw [otx, otx, List.take_left' (be_length _ _), List.take_left' (be_length _ _), be_inj, Nat.mod_eq_of_lt (by omega), Nat.mod_eq_of_lt (by omega)] at h2
    rw [← h2, List.take_of_length_le (by rw [otx_length]; omega)] at h
    have h3 := congrArg (List.drop 2) h
    rw [otx, otx, List.drop_left' (be_length _ _), List.drop_left' (be_length _ _)] at h3
    exact h3.symm
  · intro h
    have e : s = t := by
      obtain ⟨⟨s⟩⟩ := s
      obtain ⟨⟨t⟩⟩ := t
      simp only at h
      rw [h]
    subst e
    rw [List.take_of_length_le (by rw [otx_length]; omega)]

theorem size_differs (s t : ByteArray) (h : t.size < s.size) : (s.toList == t.toList) = false := by
  rw [ByteArray.toList_eq, ByteArray.toList_eq, beq_eq_false_iff_ne]
  intro e
  have := congrArg List.length e
  rw [size_list, size_list] at this
  omega

end Go.Proofs.Ytnmfgmlmjbfdcaa

/-
  The walks over package octet, part C: Put, PutText.
-/
namespace Go.Proofs.Ytnmfgmlmjbfdcaa
open Go.RowKit

set_option maxRecDepth 100000 in
set_option maxHeartbeats 400000 in
theorem fill_none (A : Option Addr) (c : Nat) (v : Int) (w : World) :
    Calls Try.prog 64 #[.slice A 0 c, .int .u64 v] w fun e w' => e = .returned (.tuple #[]) ∧ w = w' := by
  go_enter Try.func64, Try.ntmps64
  go_wp2
  go_loop [7] (fun i => i = .int .i64 0) (fun _ => 0)
  case atStart => rfl
  case round =>
    subst hrel
    go_wp2
    go_end0
    exact ⟨rfl, rfl⟩

theorem splice_tail (l : List UInt8) (k v : Nat) : splice (byt (l ++ List.replicate k 0)) l.length (byt (be v k)) = byt (l ++ be v k) := by
  have e : l.length = (byt l).length := (byt_length l).symm
  unfold splice
  rw [byt_append, e, List.take_left, byt_append]
  rw [List.drop_eq_nil_of_le (by simp [byt, be_length])]
  simp

theorem below_after {w w1 w2 : World} (hb : Below w.heap.size w w1) (hg : w1.grownBy w2 (some w.heap.size)) : Below w.heap.size w w2 :=
  hb.trans ⟨hg.os, hg.tape, hg.output, hg.size, fun k hk => hg.block k (Nat.lt_of_lt_of_le hk hb.size) (fun e => by injection e; omega)⟩

set_option maxRecDepth 100000 in
set_option maxHeartbeats 400000 in
theorem put_wide (A : Option Addr) (l : List UInt8) (c v : Nat) (n : Nat) (w : World) (hr : Reads 5 w A l) (hs : l.length + 8 ≤ 281474976710656) (hn : isW n = true) :
    Calls Try.prog 65 #[.slice A l.length c, .int .u64 (v : Int), .int .i64 (n : Int)] w fun e w' =>
      e = .returned (.slice (some ⟨w.heap.size, 0, none⟩) (l.length + n) (l.length + n)) ∧ Below w.heap.size w w' ∧ Row w' w.heap.size 5 (byt (l ++ be v n)) (0, 0) := by
  have hpos : 0 < n ∧ n ≤ 8 := by have := isW_cases hn; omega
  obtain ⟨h0, h8⟩ := hpos
  go_enter Try.func65, Try.ntmps65
  go_wp2_with (go_at_call 74; refine (isW_any _ _).mono ?_; rintro e w' ⟨rfl, rfl⟩)
  refine (grown_any A l c n w hr (by omega)).mono ?_
  rintro e w1 ⟨rfl, hb1, hrow1⟩
  have HROW := Lib.hid hrow1
  clear hrow1
  go_wp2_with fail
  refine (ofill_any w.heap.size l.length n _ v _ _ h0 h8 HROW.out (by rw [byt_length]; simp)).mono ?_
  rintro e w2 ⟨rfl, hg2, hrow2⟩
  rw [splice_tail] at hrow2
  go_wp2
  go_ret
  exact ⟨rfl, below_after hb1 hg2, hrow2⟩

set_option maxRecDepth 100000 in
set_option maxHeartbeats 400000 in
theorem put_none (A : Option Addr) (l : List UInt8) (c v : Nat) (n : Int) (w : World) (hr : Reads 5 w A l) (hs : l.length + 8 ≤ 281474976710656) (hn : isW n = false) :
    Calls Try.prog 65 #[.slice A l.length c, .int .u64 (v : Int), .int .i64 n] w fun e w' =>
      e = .returned (.slice (some ⟨w.heap.size, 0, none⟩) l.length l.length) ∧ Below w.heap.size w w' ∧ Row w' w.heap.size 5 (byt l) (0, 0) := by
  go_enter Try.func65, Try.ntmps65
  go_wp2_with (go_at_call 74; refine (isW_any _ _).mono ?_; rintro e w' ⟨rfl, rfl⟩)
  refine (grown_any A l c 0 w hr (by omega)).mono ?_
  rintro e w1 ⟨rfl, hb1, hrow1⟩
  simp only [List.replicate_zero, List.append_nil] at hrow1
  go_wp2_with fail
  refine (fill_none _ _ _ _).mono ?_
  rintro e w2 ⟨rfl, rfl⟩
  go_wp2
  go_ret
  exact ⟨rfl, hb1, hrow1⟩

set_option maxRecDepth 100000 in
set_option maxHeartbeats 400000 in
theorem putText_arg (A : Option Addr) (l : List UInt8) (c : Nat) (s : ByteArray) (n : Int) (w : World) (hn : isT n = false) :
    Calls Try.prog 36 #[.slice A l.length c, .string s, .int .i64 n] w fun e w' =>
      e = .returned (.tuple #[.slice none 0 0, .int .i64 2]) ∧ w = w' := by
  go_enter Try.func36, Try.ntmps36
  go_wp2_with (go_at_call 62; refine (isT_any _ _).mono ?_; rintro e w' ⟨rfl, rfl⟩)
  go_ret2
  exact ⟨rfl, rfl⟩

set_option maxRecDepth 100000 in
theorem Try.some_u8 : ((Try.prog.info? 5).map (fun i => i.size)).isSome = true := by kernel_rfl

theorem splice_text (l : List UInt8) (k v m : Nat) : splice (byt (l ++ List.replicate (k + m) 0)) l.length (byt (be v k)) = byt (l ++ (be v k ++ List.replicate m 0)) := by
  have e : l.length = (byt l).length := (byt_length l).symm
  unfold splice
  rw [byt_append, e, List.take_left, byt_append, byt_append]
  rw [byt_length (be v k), be_length, List.drop_length_add_append]
  simp [byt]

theorem splice_last (l r : List UInt8) (n m : Nat) (hn : n = l.length) (hm : m = r.length) : splice (byt (l ++ List.replicate m 0)) n (byt r) = byt (l ++ r) := by
  subst hn; subst hm
  have e : l.length = (byt l).length := (byt_length l).symm
  unfold splice
  rw [byt_append, e, List.take_left, byt_append]
  rw [byt_length r, List.drop_length_add_append]
  simp [byt]

theorem splice_otx (l : List UInt8) (s : ByteArray) (n : Nat) : splice (byt (l ++ (be s.size n ++ List.replicate s.size 0))) (l.length + n) (byt s.data.toList) = byt (l ++ otx s n) := by
  rw [← List.append_assoc, splice_last _ _ _ _ (by simp [be_length]) (by rw [← Lib.size_eq]), otx, List.append_assoc]

/-- copy from a text into a row of the call's own, in the walk's form. -/
theorem wpList_copy_text {P : Program} {w : World} {ops : Array Oper} {rest : List Oper} {o : Oper} {a : Act} {Q : Exit → Act → World → Prop} (hgd : o.guard = none) (d s : Operand) (dT sT : TypeId)
    (ho : o.op = .call { callee := .builtin .copy, args := #[d, s], argTypes := #[dT, sT] }) (elem : TypeId) (hu : P.underlying dT = some (.slice elem)) (hsz : (P.info? elem).map (fun i => i.size) = some 1)
    (dp : Option Addr) (dLen dCap : Nat) (t : ByteArray) (hd : a.eval d = .slice dp dLen dCap) (hs : a.eval s = .string t) (hle : t.size ≤ dLen)
    (g off : Nat) (cur : List Value) (T : TypeId) (hg : Row w g T cur (0, 0)) (hpos : 0 < t.size → dp = some ⟨g, off, none⟩) (hfit : off + t.size ≤ cur.length) (B : Nat) (w0 : World) (hb : Below B w0 w) (hBg : B ≤ g)
    (h : ∀ w', Hid (Row w' g T (splice cur off (byt t.data.toList)) (0, 0)) → Below B w0 w' → wpList P ops Q rest (a.put o.dst (goInt t.size)) w') :
    wpList P ops Q (o :: rest) a w := by
  have hbl : (byt t.data.toList).length = t.size := by rw [byt_length, ← Lib.size_eq]
  refine wpList_plain hgd fun K hK => ?_
  rcases Nat.eq_zero_or_pos t.size with h0 | h0
  · have hrun := Lib.run_copy_empty_string (P := P) w dT sT o.type elem dp dLen dCap t hu (by cases hq : P.info? elem with
      | none => simp [hq] at hsz
      | some i => rfl) h0
    unfold Oper.wp
    simp [execOp, ho, resolve, invoke, builtin, hd, hs, hrun, Result.andThen]
    refine hK _ _ ?_
    have e : byt t.data.toList = [] := List.eq_nil_of_length_eq_zero (by rw [hbl]; exact h0)
    have := h w (show Row w g T _ (0, 0) by rw [e]; simpa [splice] using hg) hb
    rw [h0] at this
    exact this
  · obtain rfl := hpos h0
    have hrun := Lib.run_copy_row_string (P := P) w dT sT o.type elem g off dLen dCap t _ T hu hsz hg hle (by simpa using hfit)
    unfold Oper.wp
    simp [execOp, ho, resolve, invoke, builtin, hd, hs, hrun, Result.andThen]
    refine hK _ _ (h _ ?_ (below_setRow hb hBg _))
    have h2 := setRow_heap w g _ (splice cur off (byt t.data.toList)).toArray T _ hg
    have e : (splice cur off (byt t.data.toList)) = (List.take off cur ++ (Lib.byteCells t.data.toList ++ List.drop (off + t.size) cur)) := by
      unfold splice; rw [hbl]; rfl
    show Row _ _ _ _ _
    unfold Row
    rw [← e]
    exact h2

theorem shift_bytes (x n : Nat) : ((x : Int) / 2 ^ (8 * n)) = ((x / 256 ^ n : Nat) : Int) := by
  have e : (2 : Int) ^ (8 * n) = ((256 ^ n : Nat) : Int) := by
    rw [show (256 : Nat) = 2 ^ 8 from rfl, ← Nat.pow_mul]; simp
  rw [e]; simp

set_option maxRecDepth 100000 in
set_option maxHeartbeats 400000 in
theorem putText_long (A : Option Addr) (l : List UInt8) (c : Nat) (s : ByteArray) (n : Nat) (w : World) (hn : isT n = true) (hsz : s.size ≤ 140737488355328) (hq : ¬ s.size / 256 ^ n = 0) :
    Calls Try.prog 36 #[.slice A l.length c, .string s, .int .i64 (n : Int)] w fun e w' =>
      e = .returned (.tuple #[.slice none 0 0, .int .i64 3]) ∧ w = w' := by
  have hb : 1 ≤ n ∧ n ≤ 4 := by have := isT_cases hn; omega
  obtain ⟨h1, h4⟩ := hb
  have ht : ((s.size : Int) / 2 ^ (8 * n) != 0) = true := by
    rw [shift_bytes, bne_iff_ne]; omega
  clear hq
  go_enter Try.func36, Try.ntmps36
  go_wp2_with (go_at_call 62; refine (isT_any _ _).mono ?_; rintro e w' ⟨rfl, rfl⟩)
  go_ret2
  exact ⟨rfl, rfl⟩

theorem splice_nothing (l : List UInt8) (n : Nat) : splice (byt l) n (byt []) = byt l := by simp [splice, byt]

set_option maxRecDepth 100000 in
set_option maxHeartbeats 400000 in
theorem putText_empty (A : Option Addr) (l : List UInt8) (c : Nat) (n : Nat) (w : World) (hr : Reads 5 w A l) (hn : isT n = true) (hs : l.length + 8 ≤ 281474976710656) :
    Calls Try.prog 36 #[.slice A l.length c, .string ⟨#[]⟩, .int .i64 (n : Int)] w fun e w' =>
      e = .returned (.tuple #[.slice (some ⟨w.heap.size, 0, none⟩) (l.length + n) (l.length + n), .int .i64 0]) ∧ Below w.heap.size w w' ∧ Row w' w.heap.size 5 (byt (l ++ otx ⟨#[]⟩ n)) (0, 0) := by
  have hb : 1 ≤ n ∧ n ≤ 4 := by have := isT_cases hn; omega
  obtain ⟨h1, h4⟩ := hb
  go_enter Try.func36, Try.ntmps36
  go_wp2_with (go_at_call 62; refine (isT_any _ _).mono ?_; rintro e w' ⟨rfl, rfl⟩)
  refine (grown_any A l c n w hr (by omega)).mono ?_
  rintro e w1 ⟨rfl, hb1, hrow1⟩
  have HROW := Lib.hid hrow1
  clear hrow1
  go_wp2_with fail
  refine (ofill_any w.heap.size l.length n _ 0 _ _ (by omega) (by omega) HROW.out (by rw [byt_length]; simp)).mono ?_
  rintro e w2 ⟨rfl, hg2, hrow2⟩
  have hrow2 : Row w2 w.heap.size 5 (byt (l ++ otx ⟨#[]⟩ n)) (0, 0) := by rw [splice_tail] at hrow2; rw [show otx ⟨#[]⟩ n = be 0 n from List.append_nil _]; exact hrow2
  have hb2 := below_after hb1 hg2
  clear hb1 hg2
  have HR := Lib.hid hrow2
  clear hrow2
  go_wp2_with (with_reducible refine wpList_copy_text rfl (.tmp 41) (.tmp 42) 69 9 rfl 5 Try.underlying69 Try.size_u8 _ _ _ ⟨#[]⟩ rfl rfl (Nat.zero_le _) w.heap.size (l.length + n) _ 5 HR.out ?_ ?_ w.heap.size w hb2 (Nat.le_refl _) ?_)
  · exact fun h => absurd h (Nat.lt_irrefl 0)
  · simp [byt, otx, be_length]; exact Nat.le_refl _
  · intro w3 hr3 hb3
    rw [splice_nothing] at hr3
    go_wp2
    go_ret2
    exact ⟨rfl, hb3, hr3.out⟩

set_option maxRecDepth 100000 in
set_option maxHeartbeats 400000 in
theorem putText_some (A : Option Addr) (l : List UInt8) (c : Nat) (s : ByteArray) (n : Nat) (w : World) (hr : Reads 5 w A l) (hn : isT n = true) (h0 : 1 ≤ s.size) (hs : l.length + 8 + s.size ≤ 281474976710656) (hsz : s.size ≤ 140737488355328) (hq : s.size / 256 ^ n = 0) :
    Calls Try.prog 36 #[.slice A l.length c, .string s, .int .i64 (n : Int)] w fun e w' =>
      e = .returned (.tuple #[.slice (some ⟨w.heap.size, 0, none⟩) (l.length + (n + s.size)) (l.length + (n + s.size)), .int .i64 0]) ∧ Below w.heap.size w w' ∧ Row w' w.heap.size 5 (byt (l ++ otx s n)) (0, 0) := by
  have hb : 1 ≤ n ∧ n ≤ 4 := by have := isT_cases hn; omega
  obtain ⟨h1, h4⟩ := hb
  have ht : ((s.size : Int) / 2 ^ (8 * n) != 0) = false := by
    rw [shift_bytes, hq]; rfl
  clear hq
  go_enter Try.func36, Try.ntmps36
  go_wp2_with (go_at_call 62; refine (isT_any _ _).mono ?_; rintro e w' ⟨rfl, rfl⟩)
  refine (grown_any A l c (n + s.size) w hr (by omega)).mono ?_
  rintro e w1 ⟨rfl, hb1, hrow1⟩
  have HROW := Lib.hid hrow1
  clear hrow1
  go_wp2_with fail
  refine (ofill_any w.heap.size l.length n _ s.size _ _ (by omega) (by omega) HROW.out (by rw [byt_length]; simp)).mono ?_
  rintro e w2 ⟨rfl, hg2, hrow2⟩
  rw [splice_text] at hrow2
  have hb2 := below_after hb1 hg2
  clear hb1 hg2
  have HR := Lib.hid hrow2
  clear hrow2
  go_wp2_with (with_reducible refine wpList_copy_text rfl (.tmp 41) (.tmp 42) 69 9 rfl 5 Try.underlying69 Try.size_u8 _ _ _ s rfl rfl (by omega) w.heap.size (l.length + n) _ 5 HR.out ?_ ?_ w.heap.size w hb2 (Nat.le_refl _) ?_)
  · rw [byt_length]; simp [be_length]; omega
  · intro w3 hr3 hb3
    rw [splice_otx] at hr3
    go_wp2
    go_ret2
    exact ⟨rfl, hb3, hr3.out⟩

theorem putText_ok (A : Option Addr) (l : List UInt8) (c : Nat) (s : ByteArray) (n : Nat) (w : World) (hr : Reads 5 w A l) (hn : isT n = true) (hs : l.length + 8 + s.size ≤ 281474976710656) (hsz : s.size ≤ 140737488355328) (hq : s.size / 256 ^ n = 0) :
    Calls Try.prog 36 #[.slice A l.length c, .string s, .int .i64 (n : Int)] w fun e w' =>
      e = .returned (.tuple #[.slice (some ⟨w.heap.size, 0, none⟩) (l.length + (n + s.size)) (l.length + (n + s.size)), .int .i64 0]) ∧ Below w.heap.size w w' ∧ Row w' w.heap.size 5 (byt (l ++ otx s n)) (0, 0) := by
  rcases Nat.lt_or_ge s.size 1 with h0 | h0
  · obtain ⟨⟨d⟩⟩ := s
    obtain rfl : d = [] := List.eq_nil_of_length_eq_zero (Nat.lt_one_iff.1 (show d.length < 1 from h0))
    exact putText_empty A l c n w hr hn (by omega)
  · exact putText_some A l c s n w hr hn h0 hs hsz hq

end Go.Proofs.Ytnmfgmlmjbfdcaa
