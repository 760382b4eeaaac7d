/-
  Plain facts on big-endian bytes: they are ordered as the numbers are; of one width no text's bytes begin another's. No program is read here.
-/
import Derived.Test.YtbganaaiaokfmaaBase
import Derived.Laws.Strings
namespace Go.Proofs.Ytbganaaiaokfmaa
open Go.RowKit

theorem be_mod (v k : Nat) : v % 256 ^ (k + 1) = (UInt8.ofNat (v / 256 ^ k)).toNat * 256 ^ k + v % 256 ^ k := by
  rw [Nat.mod_pow_succ, UInt8.toNat_ofNat', Nat.mul_comm, Nat.add_comm]

theorem digit_less (p q r s M : Nat) (hr : r < M) (hs : s < M) : (p < q ∨ (p = q ∧ r < s)) ↔ p * M + r < q * M + s := by
  constructor
  · rintro (h | ⟨rfl, h⟩)
    · have := Nat.mul_le_mul_right M (show p + 1 ≤ q from h)
      rw [Nat.add_mul, Nat.one_mul] at this
      omega
    · omega
  · intro h
    rcases Nat.lt_trichotomy p q with h1 | h1 | h1
    · exact .inl h1
    · subst h1; exact .inr ⟨rfl, by omega⟩
    · have := Nat.mul_le_mul_right M (show q + 1 ≤ p from h1)
      rw [Nat.add_mul, Nat.one_mul] at this
      omega

theorem less_be (a b : Nat) : ∀ k, Op.bytesLess (be a k) (be b k) = decide (a % 256 ^ k < b % 256 ^ k)
  | 0 => by simp [be, Op.bytesLess, Nat.mod_one]
  | k + 1 => by
    have hM : 0 < 256 ^ k := Nat.pow_pos (by omega)
    have h := digit_less (UInt8.ofNat (a / 256 ^ k)).toNat (UInt8.ofNat (b / 256 ^ k)).toNat (a % 256 ^ k) (b % 256 ^ k) (256 ^ k) (Nat.mod_lt _ hM) (Nat.mod_lt _ hM)
    rw [← be_mod, ← be_mod] at h
    rw [Bool.eq_iff_iff]
    simp only [be, Op.bytesLess, less_be a b k, Bool.or_eq_true, Bool.and_eq_true, decide_eq_true_eq, beq_iff_eq]
    rw [← h, UInt8.lt_iff_toNat_lt, UInt8.toNat_inj.symm]

theorem be_inj (a b : Nat) : ∀ k, be a k = be b k ↔ a % 256 ^ k = b % 256 ^ k
  | 0 => by simp [be, Nat.mod_one]
  | k + 1 => by
    have hM : 0 < 256 ^ k := Nat.pow_pos (by omega)
    have ha := Nat.mod_lt a hM
    have hb := Nat.mod_lt b hM
    rw [be_mod a, be_mod b]
    simp only [be, List.cons.injEq, be_inj a b k]
    rw [UInt8.toNat_inj.symm]
    constructor
    · rintro ⟨h1, h2⟩; rw [h1, h2]
    · intro h
      have e : (UInt8.ofNat (a / 256 ^ k)).toNat = (UInt8.ofNat (b / 256 ^ k)).toNat := by
        have h1 := digit_less (UInt8.ofNat (a / 256 ^ k)).toNat (UInt8.ofNat (b / 256 ^ k)).toNat (a % 256 ^ k) (b % 256 ^ k) (256 ^ k) ha hb
        have h2 := digit_less (UInt8.ofNat (b / 256 ^ k)).toNat (UInt8.ofNat (a / 256 ^ k)).toNat (b % 256 ^ k) (a % 256 ^ k) (256 ^ k) hb ha
        rw [h] at h1 h2
        have h3 : ¬ (UInt8.ofNat (a / 256 ^ k)).toNat < (UInt8.ofNat (b / 256 ^ k)).toNat := fun x => Nat.lt_irrefl _ (h1.1 (.inl x))
        have h4 : ¬ (UInt8.ofNat (b / 256 ^ k)).toNat < (UInt8.ofNat (a / 256 ^ k)).toNat := fun x => Nat.lt_irrefl _ (h2.1 (.inl x))
        omega
      refine ⟨e, ?_⟩
      rw [e] at h
      omega

/-- In the walk's form: x and y the numbers as the program holds them. -/
theorem less_num (a b n : Nat) (x y : Int) (hx : x = (a : Int)) (hy : y = (b : Int)) (ha : a < 256 ^ n) (hb : b < 256 ^ n) : Op.bytesLess (be a n) (be b n) = decide (x < y) := by
  subst hx; subst hy
  rw [less_be, Nat.mod_eq_of_lt ha, Nat.mod_eq_of_lt hb]
  simp
theorem same_num (a b n : Nat) (x y : Int) (hx : x = (a : Int)) (hy : y = (b : Int)) (ha : a < 256 ^ n) (hb : b < 256 ^ n) : (be a n == be b n) = (x == y) := by
  subst hx; subst hy
  rw [Bool.eq_iff_iff, beq_iff_eq, beq_iff_eq, be_inj, Nat.mod_eq_of_lt ha, Nat.mod_eq_of_lt hb]
  omega

/-- The bytes that stand for a text of a width. -/
def txt (s : ByteArray) (n : Nat) : List UInt8 := be s.size n ++ s.data.toList

theorem size_list (s : ByteArray) : s.data.toList.length = s.size := rfl

theorem txt_length (s : ByteArray) (n : Nat) : (txt s n).length = n + s.size := by
  rw [txt, List.length_append, be_length, size_list]

/-- The bytes of a text of at most 400 bytes begin another's just if they are the same texts. -/
theorem txt_begins (s t : ByteArray) (hs : s.size ≤ 400) (ht : t.size ≤ 400) : ((txt t 2).take (2 + s.size) == txt s 2) = (s.toList == t.toList) := by
  rw [ByteArray.toList_eq, ByteArray.toList_eq, Bool.eq_iff_iff, beq_iff_eq, beq_iff_eq]
  constructor
  · intro h
    have h2 : (txt t 2).take 2 = (txt s 2).take 2 := by
      rw [← h, List.take_take, Nat.min_eq_left (by omega)]
    rw [txt, txt, List.take_left' (be_length _ _), List.take_left' (be_length _ _), be_inj, Nat.mod_eq_of_lt (by omega), Nat.mod_eq_of_lt (by omega)] at h2
    rw [← h2, List.take_of_length_le (by rw [txt_length]; omega)] at h
    have h3 := congrArg (List.drop 2) h
    rw [txt, txt, List.drop_left' (be_length _ _), List.drop_left' (be_length _ _)] at h3
    exact h3.symm
  · intro h
    have e : s = t := by
      obtain ⟨⟨s⟩⟩ := s
      obtain ⟨⟨t⟩⟩ := t
      simp only at h
      rw [h]
    subst e
    rw [List.take_of_length_le (by rw [txt_length]; omega)]

theorem size_differs (s t : ByteArray) (h : t.size < s.size) : (s.toList == t.toList) = false := by
  rw [ByteArray.toList_eq, ByteArray.toList_eq, beq_eq_false_iff_ne]
  intro e
  have := congrArg List.length e
  rw [size_list, size_list] at this
  omega

end Go.Proofs.Ytbganaaiaokfmaa
