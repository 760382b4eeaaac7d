/-
  Sectors of two packed texts, mixed by the bits of a number: none of them, but where all are one's. No program is read here.
-/
import Derived.Test.YtnmfgmlmjbfdcaaMasWords
namespace Go.Proofs.Ytnmfgmlmjbfdcaa
open Go.RowKit

/-- The first sectors, by the bits of m. -/
def mixS (P Q : List UInt8) (m : Nat) : Nat → List UInt8
  | 0 => []
  | j + 1 => mixS P Q m j ++ seg (if m / 2 ^ j % 2 = 1 then P else Q) (j * 64) 64
section
variable {P Q : List UInt8} {m K : Nat}
theorem mixS_length (hP : P.length = K * 64) (hQ : Q.length = K * 64) : ∀ j, j ≤ K → (mixS P Q m j).length = j * 64
  | 0, _ => rfl
  | j + 1, h => by
    have h1 := mixS_length hP hQ j (by omega)
    have h2 : (seg (if m / 2 ^ j % 2 = 1 then P else Q) (j * 64) 64).length = 64 := by
      split
      · exact seg_length _ _ _ (by omega)
      · exact seg_length _ _ _ (by omega)
    simp only [mixS, List.length_append, h1, h2]
    omega
theorem mixS_seg (hP : P.length = K * 64) (hQ : Q.length = K * 64) : ∀ j, j ≤ K → ∀ i, i < j → seg (mixS P Q m j) (i * 64) 64 = seg (if m / 2 ^ i % 2 = 1 then P else Q) (i * 64) 64
  | 0, _, i, hi => absurd hi (Nat.not_lt_zero _)
  | j + 1, h, i, hi => by
    have h1 := mixS_length (m := m) hP hQ j (by omega)
    have h2 : (seg (if m / 2 ^ j % 2 = 1 then P else Q) (j * 64) 64).length = 64 := by
      split
      · exact seg_length _ _ _ (by omega)
      · exact seg_length _ _ _ (by omega)
    simp only [mixS]
    by_cases hij : i < j
    · rw [seg_left _ _ _ _ (by rw [h1]; omega)]
      exact mixS_seg hP hQ j (by omega) i hij
    · obtain rfl : i = j := by omega
      rw [seg_right _ _ _ _ (by rw [h1]; exact Nat.le_refl _), h1, Nat.sub_self]
      generalize seg (if m / 2 ^ i % 2 = 1 then P else Q) (i * 64) 64 = X at *
      unfold seg
      rw [List.drop_zero, List.take_of_length_le (by omega)]
theorem mixS_zero (hP : P.length = K * 64) (hQ : Q.length = K * 64) (h0 : ∀ i, i < K → m / 2 ^ i % 2 ≠ 1) : mixS P Q m K = Q :=
  eq_of_segs K 64 (mixS_length hP hQ K (Nat.le_refl _)) hQ fun i hi => by rw [mixS_seg hP hQ K (Nat.le_refl _) i hi, if_neg (h0 i hi)]
theorem mixS_all (hP : P.length = K * 64) (hQ : Q.length = K * 64) (h0 : ∀ i, i < K → m / 2 ^ i % 2 = 1) : mixS P Q m K = P :=
  eq_of_segs K 64 (mixS_length hP hQ K (Nat.le_refl _)) hP fun i hi => by rw [mixS_seg hP hQ K (Nat.le_refl _) i hi, if_pos (h0 i hi)]
end
theorem bits_some : ∀ m : Fin 256, m.val ≠ 0 → m.val ≠ 255 → (∃ i : Fin 8, m.val / 2 ^ i.val % 2 = 1) ∧ ∃ j : Fin 8, m.val / 2 ^ j.val % 2 ≠ 1 := by decide +kernel
theorem bits_all : ∀ i : Fin 8, 255 / 2 ^ i.val % 2 = 1 := by decide
theorem bits_none (i : Nat) : 0 / 2 ^ i % 2 ≠ 1 := by simp
theorem stamp_of_seg {X Y : List UInt8} {o : Nat} (e : seg X o 64 = seg Y o 64) : seg X o 8 = seg Y o 8 := by
  have t : ∀ Z : List UInt8, seg Z o 8 = (seg Z o 64).take 8 := fun Z => by unfold seg; rw [List.take_take, Nat.min_eq_left (by decide)]
  rw [t X, t Y, e]
/-- What the statement asks of the mixture. -/
theorem mixed {a b : List UInt8} {m : Nat} (ha : a.length ≤ 400) (hb : b.length ≤ 400) (hm : m < 256) :
    (m = 0 → unpackP (mixS (packed 5 a 8) (packed 6 b 8) m 8) = some (6, b)) ∧ (m = 255 → unpackP (mixS (packed 5 a 8) (packed 6 b 8) m 8) = some (5, a)) ∧
    (m ≠ 0 → m ≠ 255 → unpackP (mixS (packed 5 a 8) (packed 6 b 8) m 8) = none ∧ topP (mixS (packed 5 a 8) (packed 6 b 8) m 8) = 6) := by
  have fa : Fits 5 a 8 := ⟨by decide, by decide, by decide, by decide, by omega⟩
  have fb : Fits 6 b 8 := ⟨by decide, by decide, by decide, by decide, by omega⟩
  have hP := packed_length 5 a 8
  have hQ := packed_length 6 b 8
  refine ⟨fun h => ?_, fun h => ?_, fun h0 h1 => ?_⟩
  · subst h
    rw [mixS_zero hP hQ fun i _ => bits_none i]
    exact unpack_packed fb
  · subst h
    rw [mixS_all hP hQ fun i hi => bits_all ⟨i, hi⟩]
    exact unpack_packed fa
  · obtain ⟨⟨⟨i, hi⟩, h2⟩, ⟨⟨j, hj⟩, h3⟩⟩ := bits_some ⟨m, hm⟩ h0 h1
    dsimp only at h2 h3
    have hl := mixS_length (m := m) hP hQ 8 (Nat.le_refl _)
    have st : ∀ k, k < 8 → seg (mixS (packed 5 a 8) (packed 6 b 8) m 8) (k * 64) 8 = be (if m / 2 ^ k % 2 = 1 then 5 else 6) 8 := fun k hk => by
      have := stamp_of_seg (mixS_seg (m := m) hP hQ 8 (Nat.le_refl _) k hk)
      rw [this]
      by_cases hb : m / 2 ^ k % 2 = 1
      · rw [if_pos hb, if_pos hb]; exact packed_stamp k hk
      · rw [if_neg hb, if_neg hb]; exact packed_stamp k hk
    have si := st i hi
    have sj := st j hj
    rw [if_pos h2] at si
    rw [if_neg h3] at sj
    refine ⟨mixed_none (v := 5) (w := 6) (by decide) (by decide) (by decide) (by rw [hl]; exact hi) (by rw [hl]; exact hj) si sj, ?_⟩
    unfold topP
    rw [hl, show 8 * 64 / 64 = 8 from rfl]
    refine Nat.le_antisymm (topL_le 8 fun k hk => ?_) ?_
    · rw [st k hk]
      split
      · rw [mval_be8 _ (by decide)]; decide
      · rw [mval_be8 _ (by decide)]; exact Nat.le_refl _
    · have := topL_ge (b := mixS (packed 5 a 8) (packed 6 b 8) m 8) 8 j hj
      rw [sj, mval_be8 _ (by decide)] at this
      exact this
end Go.Proofs.Ytnmfgmlmjbfdcaa
