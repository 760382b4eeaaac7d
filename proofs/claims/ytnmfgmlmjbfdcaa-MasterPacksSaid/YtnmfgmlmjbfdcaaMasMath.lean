/-
  Packed texts in plain words: sectors with stamps; what is read of bytes; texts of other versions mixed. No program is read here.
-/
import Derived.Test.YtnmfgmlmjbfdcaaBlkMath
namespace Go.Proofs.Ytnmfgmlmjbfdcaa
open Go.RowKit

theorem mbe_val4 : ∀ x : List UInt8, x.length = 4 → be (val x) 4 = x
  | [a, b, c, d], _ => by
    have ha := a.toNat_lt
    have hb := b.toNat_lt
    have hc := c.toNat_lt
    have hd := d.toNat_lt
    have e4 : val [a, b, c, d] = ((a.toNat * 256 + b.toNat) * 256 + c.toNat) * 256 + d.toNat := by simp [val]
    rw [e4]
    have t : ∀ (n : Nat) (u : UInt8), n % 256 = u.toNat → UInt8.ofNat n = u := fun n u h => UInt8.toNat.inj (by rw [UInt8.toNat_ofNat']; exact h)
    simp only [be]
    rw [t _ a (by omega), t _ b (by omega), t _ c (by omega), t _ d (by omega)]
theorem mval_be4 (n : Nat) (h : n < 4294967296) : val (be n 4) = n := by
  simp only [be, val, List.foldl_cons, List.foldl_nil, UInt8.toNat_ofNat']
  omega
theorem mval_be8 (n : Nat) (h : n < 18446744073709551616) : val (be n 8) = n := by
  simp only [be, val, List.foldl_cons, List.foldl_nil, UInt8.toNat_ofNat']
  omega

/-- k sectors: each has the stamp v, and its piece of the text t. -/
def packL (v : Nat) (t : List UInt8) : Nat → List UInt8
  | 0 => []
  | k + 1 => packL v t k ++ (be v 8 ++ seg t (k * 56) 56)
theorem packL_length (v : Nat) (t : List UInt8) : ∀ k, k * 56 ≤ t.length → (packL v t k).length = k * 64
  | 0, _ => by simp [packL]
  | k + 1, h => by
    have h1 := packL_length v t k (by omega)
    have h2 := seg_length t (k * 56) 56 (by omega)
    simp only [packL, List.length_append, h1, be_length, h2]
    omega
theorem seg_left {α : Type} (A B : List α) (o n : Nat) (h : o + n ≤ A.length) : seg (A ++ B) o n = seg A o n := by
  unfold seg
  rw [List.drop_append_of_le_length (by omega), List.take_append_of_le_length (by rw [List.length_drop]; omega)]
theorem seg_right {α : Type} (A B : List α) (o n : Nat) (h : A.length ≤ o) : seg (A ++ B) o n = seg B (o - A.length) n := by
  unfold seg
  rw [List.drop_append, List.drop_of_length_le (by omega), List.nil_append]
/-- A sector of them. -/
theorem packL_sec (v : Nat) (t : List UInt8) : ∀ k, k * 56 ≤ t.length → ∀ i, i < k → seg (packL v t k) (i * 64) 64 = be v 8 ++ seg t (i * 56) 56
  | 0, _, i, hi => absurd hi (Nat.not_lt_zero _)
  | k + 1, h, i, hi => by
    have h1 := packL_length v t k (by omega)
    have h2 := seg_length t (k * 56) 56 (by omega)
    have h3 := be_length v 8
    simp only [packL]
    by_cases hik : i < k
    · rw [seg_left _ _ _ _ (by rw [h1]; omega)]
      exact packL_sec v t k (by omega) i hik
    · obtain rfl : i = k := by omega
      rw [seg_right _ _ _ _ (by rw [h1]; exact Nat.le_refl _), h1, Nat.sub_self]
      unfold seg
      rw [List.drop_zero, List.take_of_length_le (by rw [List.length_append, h3]; unfold seg at h2; rw [h2]; decide)]
theorem packL_stamp (v : Nat) (t : List UInt8) (k : Nat) (h : k * 56 ≤ t.length) (i : Nat) (hi : i < k) : seg (packL v t k) (i * 64) 8 = be v 8 := by
  have := packL_sec v t k h i hi
  have e : seg (packL v t k) (i * 64) 8 = (seg (packL v t k) (i * 64) 64).take 8 := by unfold seg; rw [List.take_take, Nat.min_eq_left (by decide)]
  rw [e, this, List.take_append_of_le_length (by rw [be_length]; decide), List.take_of_length_le (by rw [be_length]; decide)]
theorem packL_piece (v : Nat) (t : List UInt8) (k : Nat) (h : k * 56 ≤ t.length) (i : Nat) (hi : i < k) : seg (packL v t k) (i * 64 + 8) 56 = seg t (i * 56) 56 := by
  have := packL_sec v t k h i hi
  have e : seg (packL v t k) (i * 64 + 8) 56 = (seg (packL v t k) (i * 64) 64).drop 8 := by
    unfold seg
    rw [List.drop_take, List.drop_drop]
  rw [e, this, List.drop_append_of_le_length (by rw [be_length]; decide), List.drop_of_length_le (by rw [be_length]; decide), List.nil_append]

/-- The text of sectors: their pieces, behind one another. -/
def bodyL (b : List UInt8) : Nat → List UInt8
  | 0 => []
  | k + 1 => bodyL b k ++ seg b (k * 64 + 8) 56
theorem bodyL_length (b : List UInt8) : ∀ k, k * 64 ≤ b.length → (bodyL b k).length = k * 56
  | 0, _ => rfl
  | k + 1, h => by
    simp only [bodyL, List.length_append, bodyL_length b k (by omega), seg_length b (k * 64 + 8) 56 (by omega)]
    omega
theorem take_seg {α : Type} (t : List α) (o n : Nat) : t.take (o + n) = t.take o ++ seg t o n := by unfold seg; rw [List.take_add]
theorem bodyL_pack (v : Nat) (t : List UInt8) (k : Nat) (h : k * 56 ≤ t.length) : ∀ j, j ≤ k → bodyL (packL v t k) j = t.take (j * 56)
  | 0, _ => by simp [bodyL]
  | j + 1, hj => by
    rw [bodyL, bodyL_pack v t k h j (by omega), packL_piece v t k h j (by omega), Nat.succ_mul, take_seg]

/-- The bytes of a text, packed with a version into so many sectors. -/
def textL (s : List UInt8) (k : Nat) : List UInt8 := pad (k * 56) (be s.length 4 ++ s)
def packed (v : Nat) (s : List UInt8) (k : Nat) : List UInt8 := packL v (textL s k) k
theorem textL_length (s : List UInt8) (k : Nat) : (textL s k).length = k * 56 := pad_length _ _
theorem packed_length (v : Nat) (s : List UInt8) (k : Nat) : (packed v s k).length = k * 64 := packL_length _ _ _ (by rw [textL_length]; exact Nat.le_refl _)
/-- May it be packed? -/
structure Fits (v : Nat) (s : List UInt8) (k : Nat) : Prop where
  k0 : 1 ≤ k
  k1 : k ≤ 256
  v0 : v ≠ 0
  v1 : v < 18446744073709551616
  s1 : s.length + 4 ≤ k * 56
theorem textL_eq {s : List UInt8} {k : Nat} (h : s.length + 4 ≤ k * 56) : textL s k = be s.length 4 ++ (s ++ List.replicate (k * 56 - (be s.length 4 ++ s).length) 0) := by
  have hl : (be s.length 4 ++ s).length ≤ k * 56 := by rw [List.length_append, be_length]; omega
  unfold textL pad
  rw [List.take_of_length_le hl, List.append_assoc]
theorem be4_take (n : Nat) (X : List UInt8) : (be n 4 ++ X).take 4 = be n 4 := by
  conv => lhs; rw [← be_length n 4]
  exact List.take_left
theorem be4_drop (n : Nat) (X : List UInt8) : (be n 4 ++ X).drop 4 = X := by
  conv => lhs; rw [← be_length n 4]
  exact List.drop_left
theorem textL_num {s : List UInt8} {k : Nat} (h : s.length + 4 ≤ k * 56) : (textL s k).take 4 = be s.length 4 := by rw [textL_eq h, be4_take]
theorem textL_text {s : List UInt8} {k : Nat} (h : s.length + 4 ≤ k * 56) : ((textL s k).drop 4).take s.length = s := by rw [textL_eq h, be4_drop, List.take_left]
theorem packed_stamp {v : Nat} {s : List UInt8} {k : Nat} (i : Nat) (hi : i < k) : seg (packed v s k) (i * 64) 8 = be v 8 := packL_stamp _ _ _ (by rw [textL_length]; exact Nat.le_refl _) i hi
theorem packed_body (v : Nat) (s : List UInt8) (k : Nat) : bodyL (packed v s k) k = textL s k := by
  unfold packed
  rw [bodyL_pack v (textL s k) k (by rw [textL_length]; exact Nat.le_refl _) k (Nat.le_refl _), List.take_of_length_le (by rw [textL_length]; exact Nat.le_refl _)]
/-- What is read of bytes. -/
def verOf (b : List UInt8) : Nat := val (b.take 8)
def numOf (b : List UInt8) : Nat := val ((bodyL b (b.length / 64)).take 4)
def txtOf (b : List UInt8) : List UInt8 := ((bodyL b (b.length / 64)).drop 4).take (numOf b)
theorem packed_read {v : Nat} {s : List UInt8} {k : Nat} (h : Fits v s k) : verOf (packed v s k) = v ∧ numOf (packed v s k) = s.length ∧ txtOf (packed v s k) = s ∧ (packed v s k).length / 64 = k := by
  have hl := packed_length v s k
  have hk : (packed v s k).length / 64 = k := by omega
  have hs := h.s1
  have hk1 := h.k1
  have e1 : numOf (packed v s k) = s.length := by
    unfold numOf
    rw [hk, packed_body, textL_num h.s1, mval_be4 _ (by omega)]
  refine ⟨?_, e1, ?_, hk⟩
  · have := packed_stamp (v := v) (s := s) (k := k) 0 h.k0
    unfold verOf
    rw [Nat.zero_mul] at this
    unfold seg at this
    rw [List.drop_zero] at this
    rw [this, mval_be8 _ h.v1]
  · unfold txtOf
    rw [e1, hk, packed_body, textL_text h.s1]
theorem packed_inj {v w : Nat} {s t : List UInt8} {k j : Nat} (h : Fits v s k) (h' : Fits w t j) (e : packed v s k = packed w t j) : v = w ∧ s = t ∧ k = j := by
  obtain ⟨a1, _, a3, a4⟩ := packed_read h
  obtain ⟨b1, _, b3, b4⟩ := packed_read h'
  rw [e] at a1 a3 a4
  exact ⟨a1.symm.trans b1, a3.symm.trans b3, a4.symm.trans b4⟩
/-- Bytes that are a packed text. -/
def isPacked (b : List UInt8) : Prop := ∃ v s k, Fits v s k ∧ b = packed v s k
def fitsB (v : Nat) (s : List UInt8) (k : Nat) : Bool := decide (1 ≤ k) && decide (k ≤ 256) && decide (v ≠ 0) && decide (v < 18446744073709551616) && decide (s.length + 4 ≤ k * 56)
theorem fitsB_iff {v : Nat} {s : List UInt8} {k : Nat} : fitsB v s k = true ↔ Fits v s k := by
  unfold fitsB
  simp only [Bool.and_eq_true, decide_eq_true_eq]
  exact ⟨fun ⟨⟨⟨⟨a, b⟩, c⟩, d⟩, e⟩ => ⟨a, b, c, d, e⟩, fun h => ⟨⟨⟨⟨h.k0, h.k1⟩, h.v0⟩, h.v1⟩, h.s1⟩⟩
/-- What Unpack tells. -/
def unpackP (b : List UInt8) : Option (Nat × List UInt8) := if fitsB (verOf b) (txtOf b) (b.length / 64) = true ∧ b = packed (verOf b) (txtOf b) (b.length / 64) then some (verOf b, txtOf b) else none
theorem unpack_packed {v : Nat} {s : List UInt8} {k : Nat} (h : Fits v s k) : unpackP (packed v s k) = some (v, s) := by
  obtain ⟨a1, _, a3, a4⟩ := packed_read h
  unfold unpackP
  rw [a1, a3, a4, if_pos ⟨fitsB_iff.2 h, rfl⟩]
theorem unpack_some {b : List UInt8} {v : Nat} {s : List UInt8} (h : unpackP b = some (v, s)) : Fits v s (b.length / 64) ∧ b = packed v s (b.length / 64) := by
  unfold unpackP at h
  split at h
  · rename_i hc
    injection h with h
    injection h with h1 h2
    subst h1 h2
    exact ⟨fitsB_iff.1 hc.1, hc.2⟩
  · cases h
/-- The greatest stamp. -/
def topL (b : List UInt8) : Nat → Nat
  | 0 => 0
  | k + 1 => max (topL b k) (val (seg b (k * 64) 8))
def topP (b : List UInt8) : Nat := topL b (b.length / 64)
theorem topL_const {b : List UInt8} {v : Nat} : ∀ k, (∀ i, i < k → val (seg b (i * 64) 8) = v) → 1 ≤ k → topL b k = v
  | 0, _, h => absurd h (by decide)
  | 1, hv, _ => by simp only [topL]; rw [hv 0 (by decide)]; omega
  | k + 2, hv, _ => by
    have := topL_const (k + 1) (fun i hi => hv i (by omega)) (by omega)
    rw [topL, this, hv (k + 1) (by omega)]
    omega
theorem top_packed {v : Nat} {s : List UInt8} {k : Nat} (h : Fits v s k) : topP (packed v s k) = v := by
  unfold topP
  rw [(packed_read h).2.2.2]
  exact topL_const k (fun i hi => by rw [packed_stamp i hi, mval_be8 _ h.v1]) h.k0
theorem topL_le {b : List UInt8} {m : Nat} : ∀ k, (∀ i, i < k → val (seg b (i * 64) 8) ≤ m) → topL b k ≤ m
  | 0, _ => Nat.zero_le _
  | k + 1, h => by
    have := topL_le k (fun i hi => h i (by omega))
    have := h k (by omega)
    simp only [topL]
    omega
theorem topL_ge {b : List UInt8} : ∀ k i, i < k → val (seg b (i * 64) 8) ≤ topL b k
  | 0, i, h => absurd h (Nat.not_lt_zero _)
  | k + 1, i, h => by
    simp only [topL]
    by_cases hi : i < k
    · have := topL_ge (b := b) k i hi; omega
    · obtain rfl : i = k := by omega
      omega
/-- All stamps of packed bytes are the version. -/
theorem packed_stamps {b : List UInt8} {v : Nat} {s : List UInt8} (h : unpackP b = some (v, s)) : ∀ i, i < b.length / 64 → seg b (i * 64) 8 = be v 8 := by
  obtain ⟨_, h2⟩ := unpack_some h
  intro i hi
  conv => lhs; rw [h2]
  exact packed_stamp i hi
/-- Sectors with two unlike stamps are no packed text. -/
theorem mixed_none {b : List UInt8} {v w : Nat} (hv : v < 18446744073709551616) (hw : w < 18446744073709551616) (hne : v ≠ w) {i j : Nat} (hi : i < b.length / 64) (hj : j < b.length / 64) (h1 : seg b (i * 64) 8 = be v 8) (h2 : seg b (j * 64) 8 = be w 8) : unpackP b = none := by
  cases h : unpackP b with
  | none => rfl
  | some q =>
    obtain ⟨u, s⟩ := q
    have a := packed_stamps h i hi
    have c := packed_stamps h j hj
    exfalso
    apply hne
    rw [← mval_be8 v hv, ← mval_be8 w hw, ← h1, ← h2, a, c]
end Go.Proofs.Ytnmfgmlmjbfdcaa
