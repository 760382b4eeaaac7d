/-
  Packed texts in plain words: sectors with stamps; what is read of bytes; texts of other versions mixed. No program is read here.
-/
import Derived.Test.YtnmfgmlmjbfdcaaBlkMath
namespace Go.Proofs.Ytnmfgmlmjbfdcaa
open Go.RowKit

theorem mbe_val4 : ∀ x : List UInt8, x.length = 4 → be (val x) 4 = x
  | [a, b, c, d], _ => by
    have ha := a.toNat_lt
    have hb := b.toNat_lt
    have hc := c.toNat_lt
    have hd := d.toNat_lt
    have e4 : val [a, b, c, d] = ((a.toNat * 256 + b.toNat) * 256 + c.toNat) * 256 + d.toNat := by simp [val]
    rw [e4]
    have t : ∀ (n : Nat) (u : UInt8), n % 256 = u.toNat → UInt8.ofNat n = u := fun n u h => UInt8.toNat.inj (by rw [UInt8.toNat_ofNat']; exact h)
    simp only [be]
    rw [t _ a (by omega), t _ b (by omega), t _ c (by omega), t _ d (by omega)]
theorem mval_be4 (n : Nat) (h : n < 4294967296) : val (be n 4) = n := by
  simp only [be, val, List.foldl_cons, List.foldl_nil, UInt8.toNat_ofNat']
  omega
theorem mval_be8 (n : Nat) (h : n < 18446744073709551616) : val (be n 8) = n := by
  simp only [be, val, List.foldl_cons, List.foldl_nil, UInt8.toNat_ofNat']
  omega

/-- k sectors: each has the stamp v, and its piece of the text t. -/
def packL (v : Nat) (t : List UInt8) : Nat → List UInt8
  | 0 => []
  | k + 1 => packL v t k ++ (be v 8 ++ seg t (k * 56) 56)
theorem packL_length (v : Nat) (t : List UInt8) : ∀ k, k * 56 ≤ t.length → (packL v t k).length = k * 64
  | 0, _ => by simp [packL]
  | k + 1, h => by
    have h1 := packL_length v t k (by omega)
    have h2 := seg_length t (k * 56) 56 (by omega)
    simp only [packL, List.length_append, h1, be_length, h2]
    omega
theorem seg_left {α : Type} (A B : List α) (o n : Nat) (h : o + n ≤ A.length) : seg (A ++ B) o n = seg A o n := by
  unfold seg
  rw [List.drop_append_of_le_length (by omega), List.take_append_of_le_length (by rw [List.length_drop]; omega)]
theorem seg_right {α : Type} (A B : List α) (o n : Nat) (h : A.length ≤ o) : seg (A ++ B) o n = seg B (o - A.length) n := by
  unfold seg
  rw [List.drop_append, List.drop_of_length_le (by omega), List.nil_append]
/-- A sector of them. -/
theorem packL_sec (v : Nat) (t : List UInt8) : ∀ k, k * 56 ≤ t.length → ∀ i, i < k → seg (packL v t k) (i * 64) 64 = be v 8 ++ seg t (i * 56) 56
  | 0, _, i, hi => absurd hi (Nat.not_lt_zero _)
  | k + 1, h, i, hi => by
    have h1 := packL_length v t k (by omega)
    have h2 := seg_length t (k * 56) 56 (by omega)
    have h3 := be_length v 8
    simp only [packL]
    by_cases hik : i < k
    · rw [seg_left _ _ _ _ (by rw [h1]; omega)]
      exact packL_sec v t k (by omega) i hik
    · obtain rfl : i = k := by omega
      rw [seg_right _ _ _ _ (by rw [h1]; exact Nat.le_refl _), h1, Nat.sub_self]
      unfold seg
      rw [List.drop_zero, List.take_of_length_le (by rw [List.length_append, h3]; unfold seg at h2; rw [h2]; decide)]
theorem packL_stamp (v : Nat) (t : List UInt8) (k : Nat) (h : k * 56 ≤ t.length) (i : Nat) (hi : i < k) : seg (packL v t k) (i * 64) 8 = be v 8 := by
  have := packL_sec v t k h i hi
  have e : seg (packL v t k) (i * 64) 8 = (seg (packL v t k) (i * 64) 64).take 8 := by unfold seg; rw [List.take_take, Nat.min_eq_left (by decide)]
  rw [e, this, List.take_append_of_le_length (by rw [be_length]; decide), List.take_of_length_le (by rw [be_length]; decide)]
theorem packL_piece (v : Nat) (t : List UInt8) (k : Nat) (h : k * 56 ≤ t.length) (i : Nat) (hi : i < k) : seg (packL v t k) (i * 64 + 8) 56 = seg t (i * 56) 56 := by
  have := packL_sec v t k h i hi
  have e : seg (packL v t k) (i * 64 + 8) 56 = (seg (packL v t k) (i * 64) 64).drop 8 := by
    unfold seg
    rw [List.drop_take, List.drop_drop]
  rw [e, this, List.drop_append_of_le_length (by rw [be_length]; decide), List.drop_of_length_le (by rw [be_length]; decide), List.nil_append]

/-- The text of sectors: their pieces, behind one another. -/
def bodyL (b : List UInt8) : Nat → List UInt8
  | 0 => []
  | k + 1 => bodyL b k ++ seg b (k * 64 + 8) 56
theorem bodyL_length (b : List UInt8) : ∀ k, k * 64 ≤ b.length → (bodyL b k).length = k * 56
  | 0, _ => rfl
  | k + 1, h => by
    simp only [bodyL, List.length_append, bodyL_length b k (by omega), seg_length b (k * 64 + 8) 56 (by omega)]
    omega
theorem take_seg {α : Type} (t : List α) (o n : Nat) : t.take (o + n) = t.take o ++ seg t o n := by unfold seg; rw [List.take_add]
theorem bodyL_pack (v : Nat) (t : List UInt8) (k : Nat) (h : k * 56 ≤ t.length) : ∀ j, j ≤ k → bodyL (packL v t k) j = t.take (j * 56)
  | 0, _ => by simp [bodyL]
  | j + 1, hj => by
    rw [bodyL, bodyL_pack v t k h j (by omega), packL_piece v t k h j (by omega), Nat.succ_mul, take_seg]

/-- The bytes of a text, packed with a version into so many sectors. -/
def textL (s : List UInt8) (k : Nat) : List UInt8 := pad (k * 56) (be s.length 4 ++ s)
def packed (v : Nat) (s : List UInt8) (k : Nat) : List UInt8 := packL v (textL s k) k
theorem textL_length (s : List UInt8) (k : Nat) : (textL s k).length = k * 56 := pad_length _ _
theorem packed_length (v : Nat) (s : List UInt8) (k : Nat) : (packed v s k).length = k * 64 := packL_length _ _ _ (by rw [textL_length]; exact Nat.le_refl _)
/-- May it be packed? -/
structure Fits (v : Nat) (s : List UInt8) (k : Nat) : Prop where
  k0 : 1 ≤ k
  k1 : k ≤ 256
  v0 : v ≠ 0
  v1 : v < 18446744073709551616
  s1 : s.length + 4 ≤ k * 56
theorem textL_eq {s : List UInt8} {k : Nat} (h : s.length + 4 ≤ k * 56) : textL s k = be s.length 4 ++ (s ++ List.replicate (k * 56 - (be s.length 4 ++ s).length) 0) := by
  have hl : (be s.length 4 ++ s).length ≤ k * 56 := by rw [List.length_append, be_length]; omega
  unfold textL pad
  rw [List.take_of_length_le hl, List.append_assoc]
theorem be4_take (n : Nat) (X : List UInt8) : (be n 4 ++ X).take 4 = be n 4 := by
  conv => lhs; rw [← be_length n 4]
  exact List.take_left
theorem be4_drop (n : Nat) (X : List UInt8) : (be n 4 ++ X).drop 4 = X := by
  conv => lhs; rw [← be_length n 4]
  exact List.drop_left
theorem textL_num {s : List UInt8} {k : Nat} (h : s.length + 4 ≤ k * 56) : (textL s k).take 4 = be s.length 4 := by rw [textL_eq h, be4_take]
theorem textL_text {s : List UInt8} {k : Nat} (h : s.length + 4 ≤ k * 56) : ((textL s k).drop 4).take s.length = s := by rw [textL_eq h, be4_drop, List.take_left]
theorem packed_stamp {v : Nat} {s : List UInt8} {k : Nat} (i : Nat) (hi : i < k) : seg (packed v s k) (i * 64) 8 = be v 8 := packL_stamp _ _ _ (by rw [textL_length]; exact Nat.le_refl _) i hi
theorem packed_body (v : Nat) (s : List UInt8) (k : Nat) : bodyL (packed v s k) k = textL s k := by
  unfold packed
  rw [bodyL_pack v (textL s k) k (by rw [textL_length]; exact Nat.le_refl _) k (Nat.le_refl _), List.take_of_length_le (by rw [textL_length]; exact Nat.le_refl _)]
/-- What is read of bytes. -/
def verOf (b : List UInt8) : Nat := val (b.take 8)
def numOf (b : List UInt8) : Nat := val ((bodyL b (b.length / 64)).take 4)
def txtOf (b : List UInt8) : List UInt8 := ((bodyL b (b.length / 64)).drop 4).take (numOf b)
theorem packed_read {v : Nat} {s : List UInt8} {k : Nat} (h : Fits v s k) : verOf (packed v s k) = v ∧ numOf (packed v s k) = s.length ∧ txtOf (packed v s k) = s ∧ (packed v s k).length / 64 = k := by
  have hl := packed_length v s k
  have hk : (packed v s k).length / 64 = k := by omega
  have hs := h.s1
  have hk1 := h.k1
  have e1 : numOf (packed v s k) = s.length := by
    unfold numOf
    rw [hk, packed_body, textL_num h.s1, mval_be4 _ (by omega)]
  refine ⟨?_, e1, ?_, hk⟩
  · have := packed_stamp (v := v) (s := s) (k := k) 0 h.k0
    unfold verOf
    rw [Nat.zero_mul] at this
    unfold seg at this
    rw [List.drop_zero] at this
    rw [this, mval_be8 _ h.v1]
  · unfold txtOf
    rw [e1, hk, packed_body, textL_text h.s1]
theorem packed_inj {v w : Nat} {s t : List UInt8} {k j : Nat} (h : Fits v s k) (h' : Fits w t j) (e : packed v s k = packed w t j) : v = w ∧ s = t ∧ k = j := by
  obtain ⟨a1, _, a3, a4⟩ := packed_read h
  obtain ⟨b1, _, b3, b4⟩ := packed_read h'
  rw [e] at a1 a3 a4
  exact ⟨a1.symm.trans b1, a3.symm.trans b3, a4.symm.trans b4⟩
/-- Bytes that are a packed text. -/
def isPacked (b : List UInt8) : Prop := ∃ v s k, Fits v s k ∧ b = packed v s k
def fitsB (v : Nat) (s : List UInt8) (k : Nat) : Bool := decide (1 ≤ k) && decide (k ≤ 256) && decide (v ≠ 0) && decide (v < 18446744073709551616) && decide (s.length + 4 ≤ k * 56)
theorem fitsB_iff {v : Nat} {s : List UInt8} {k : Nat} : fitsB v s k = true ↔ Fits v s k := by
  unfold fitsB
  simp only [Bool.and_eq_true, decide_eq_true_eq]
  exact ⟨fun ⟨⟨⟨⟨a, b⟩, c⟩, d⟩, e⟩ => ⟨a, b, c, d, e⟩, fun h => ⟨⟨⟨⟨h.k0, h.k1⟩, h.v0⟩, h.v1⟩, h.s1⟩⟩
/-- What Unpack tells. -/
def unpackP (b : List UInt8) : Option (Nat × List UInt8) := if fitsB (verOf b) (txtOf b) (b.length / 64) = true ∧ b = packed (verOf b) (txtOf b) (b.length / 64) then some (verOf b, txtOf b) else none
theorem unpack_packed {v : Nat} {s : List UInt8} {k : Nat} (h : Fits v s k) : unpackP (packed v s k) = some (v, s) := by
  obtain ⟨a1, _, a3, a4⟩ := packed_read h
  unfold unpackP
  rw [a1, a3, a4, if_pos ⟨fitsB_iff.2 h, rfl⟩]
theorem unpack_some {b : List UInt8} {v : Nat} {s : List UInt8} (h : unpackP b = some (v, s)) : Fits v s (b.length / 64) ∧ b = packed v s (b.length / 64) := by
  unfold unpackP at h
  split at h
  · rename_i hc
    injection h with h
    injection h with h1 h2
    subst h1 h2
    exact ⟨fitsB_iff.1 hc.1, hc.2⟩
  · cases h
/-- The greatest stamp. -/
def topL (b : List UInt8) : Nat → Nat
  | 0 => 0
  | k + 1 => max (topL b k) (val (seg b (k * 64) 8))
def topP (b : List UInt8) : Nat := topL b (b.length / 64)
theorem topL_const {b : List UInt8} {v : Nat} : ∀ k, (∀ i, i < k → val (seg b (i * 64) 8) = v) → 1 ≤ k → topL b k = v
  | 0, _, h => absurd h (by decide)
  | 1, hv, _ => by simp only [topL]; rw [hv 0 (by decide)]; omega
  | k + 2, hv, _ => by
    have := topL_const (k + 1) (fun i hi => hv i (by omega)) (by omega)
    rw [topL, this, hv (k + 1) (by omega)]
    omega
theorem top_packed {v : Nat} {s : List UInt8} {k : Nat} (h : Fits v s k) : topP (packed v s k) = v := by
  unfold topP
  rw [(packed_read h).2.2.2]
  exact topL_const k (fun i hi => by rw [packed_stamp i hi, mval_be8 _ h.v1]) h.k0
theorem topL_le {b : List UInt8} {m : Nat} : ∀ k, (∀ i, i < k → val (seg b (i * 64) 8) ≤ m) → topL b k ≤ m
  | 0, _ => Nat.zero_le _
  | k + 1, h => by
    have := topL_le k (fun i hi => h i (by omega))
    have := h k (by omega)
    simp only [topL]
    omega
theorem topL_ge {b : List UInt8} : ∀ k i, i < k → val (seg b (i * 64) 8) ≤ topL b k
  | 0, i, h => absurd h (Nat.not_lt_zero _)
  | k + 1, i, h => by
    simp only [topL]
    by_cases hi : i < k
    · have := topL_ge (b := b) k i hi; omega
    · obtain rfl : i = k := by omega
      omega
/-- All stamps of packed bytes are the version. -/
theorem packed_stamps {b : List UInt8} {v : Nat} {s : List UInt8} (h : unpackP b = some (v, s)) : ∀ i, i < b.length / 64 → seg b (i * 64) 8 = be v 8 := by
  obtain ⟨_, h2⟩ := unpack_some h
  intro i hi
  conv => lhs; rw [h2]
  exact packed_stamp i hi
/-- Sectors with two unlike stamps are no packed text. -/
theorem mixed_none {b : List UInt8} {v w : Nat} (hv : v < 18446744073709551616) (hw : w < 18446744073709551616) (hne : v ≠ w) {i j : Nat} (hi : i < b.length / 64) (hj : j < b.length / 64) (h1 : seg b (i * 64) 8 = be v 8) (h2 : seg b (j * 64) 8 = be w 8) : unpackP b = none := by
  cases h : unpackP b with
  | none => rfl
  | some q =>
    obtain ⟨u, s⟩ := q
    have a := packed_stamps h i hi
    have c := packed_stamps h j hj
    exfalso
    apply hne
    rw [← mval_be8 v hv, ← mval_be8 w hw, ← h1, ← h2, a, c]
end Go.Proofs.Ytnmfgmlmjbfdcaa

/-
  Two blocks and what they hold together; behind a failure, in plain words. No program is read here.
-/
namespace Go.Proofs.Ytnmfgmlmjbfdcaa
open Go.RowKit

/-- What a block holds, if it is newer than what is known. -/
structure Held where
  at_ : Nat
  v : Nat
  s : List UInt8
def Held.none : Held := ⟨0, 0, []⟩
def Held.look (h : Held) (i : Nat) (b : List UInt8) : Held := match unpackP b with
  | some (v, s) => if h.v < v then ⟨i, v, s⟩ else h
  | _ => h
/-- What the two hold. -/
def best (b0 b1 : List UInt8) : Held := (Held.none.look 0 b0).look 1 b1
theorem look_none {h : Held} {i : Nat} {b : List UInt8} (hb : unpackP b = none) : h.look i b = h := by unfold Held.look; rw [hb]
theorem look_some {h : Held} {i : Nat} {b : List UInt8} {v : Nat} {s : List UInt8} (hb : unpackP b = some (v, s)) : h.look i b = if h.v < v then ⟨i, v, s⟩ else h := by unfold Held.look; rw [hb]
theorem unpack_top {b : List UInt8} {v : Nat} {s : List UInt8} (hb : unpackP b = some (v, s)) : topP b = v ∧ v ≠ 0 := by
  obtain ⟨h1, h2⟩ := unpack_some hb
  refine ⟨?_, h1.v0⟩
  rw [h2]
  exact top_packed h1
theorem look_at (h : Held) (i : Nat) (b : List UInt8) (hh : h.at_ ≤ 1) (hi : i ≤ 1) : (h.look i b).at_ ≤ 1 := by
  cases hb : unpackP b with
  | none => rw [look_none hb]; exact hh
  | some q =>
    obtain ⟨v, s⟩ := q
    rw [look_some hb]
    split
    · exact hi
    · exact hh
theorem best_at (b0 b1 : List UInt8) : (best b0 b1).at_ ≤ 1 := look_at _ 1 b1 (look_at _ 0 b0 (Nat.zero_le _) (Nat.zero_le _)) (Nat.le_refl _)
theorem best_top (b0 b1 : List UInt8) : (best b0 b1).v ≤ max (topP b0) (topP b1) := by
  have h0 : (Held.none.look 0 b0).v ≤ topP b0 := by
    cases h : unpackP b0 with
    | none => rw [look_none h]; exact Nat.zero_le _
    | some q =>
      obtain ⟨v, s⟩ := q
      rw [look_some h]
      have := (unpack_top h).1
      split
      · show v ≤ _; omega
      · exact Nat.zero_le _
  unfold best
  cases h : unpackP b1 with
  | none => rw [look_none h]; omega
  | some q =>
    obtain ⟨v, s⟩ := q
    rw [look_some h]
    have := (unpack_top h).1
    split
    · show v ≤ _; omega
    · omega
/-- Some of a packed text's sectors over bytes of smaller stamps: nothing, what was there, or the text as a whole. -/
theorem mixed_cases {k v : Nat} {s P B M : List UInt8} (hf : Fits v s k) (hP : P = packed v s k) (hB : B.length = k * 64) (hM : M.length = k * 64)
    (hmix : ∀ i, i < k → seg M (i * 64) 64 = seg P (i * 64) 64 ∨ seg M (i * 64) 64 = seg B (i * 64) 64) (htop : topP B < v) : unpackP M = none ∨ M = B ∨ M = P := by
  have hPl : P.length = k * 64 := by rw [hP]; exact packed_length _ _ _
  by_cases h1 : M = P
  · exact .inr (.inr h1)
  by_cases h2 : M = B
  · exact .inr (.inl h2)
  left
  have n1 : ∃ i, i < k ∧ seg M (i * 64) 64 ≠ seg P (i * 64) 64 := Classical.byContradiction fun hh => h1 (eq_of_segs k 64 hM hPl fun i hi => Classical.byContradiction fun hn => hh ⟨i, hi, hn⟩)
  have n2 : ∃ j, j < k ∧ seg M (j * 64) 64 ≠ seg B (j * 64) 64 := Classical.byContradiction fun hh => h2 (eq_of_segs k 64 hM hB fun i hi => Classical.byContradiction fun hn => hh ⟨i, hi, hn⟩)
  obtain ⟨i, hi, hni⟩ := n1
  obtain ⟨j, hj, hnj⟩ := n2
  have ei := (hmix i hi).resolve_left hni
  have ej := (hmix j hj).resolve_right hnj
  have stamp : ∀ (X Y : List UInt8) (o : Nat), seg X o 64 = seg Y o 64 → seg X o 8 = seg Y o 8 := fun X Y o e => by
    have t : ∀ Z : List UInt8, seg Z o 8 = (seg Z o 64).take 8 := fun Z => by unfold seg; rw [List.take_take, Nat.min_eq_left (by decide)]
    rw [t X, t Y, e]
  have si := stamp _ _ _ ei
  have sj := stamp _ _ _ ej
  rw [hP, packed_stamp j hj] at sj
  cases hu : unpackP M with
  | none => rfl
  | some q =>
    obtain ⟨u, t⟩ := q
    exfalso
    have hMk : M.length / 64 = k := by omega
    have hBk : B.length / 64 = k := by omega
    have st := packed_stamps hu
    rw [hMk] at st
    have hge := topL_ge (b := B) k i hi
    have h3 : val (seg B (i * 64) 8) = v := by rw [← si, st i hi, ← st j hj, sj, mval_be8 _ hf.v1]
    unfold topP at htop
    rw [hBk] at htop
    omega
/-- The block that holds what counts, and the other one. -/
def blkAt (b0 b1 : List UInt8) (i : Nat) : List UInt8 := if i = 0 then b0 else b1
/-- Writing over the block that does not count: behind a failure that keeps some sectors of it, the text is the one that was, or the new one. -/
theorem best_mixed {k : Nat} {s b0 b1 P M : List UInt8} (h0 : b0.length = k * 64) (h1 : b1.length = k * 64) (hf : Fits (max (topP b0) (topP b1) + 1) s k) (hP : P = packed (max (topP b0) (topP b1) + 1) s k) (hM : M.length = k * 64)
    (hmix : ∀ i, i < k → seg M (i * 64) 64 = seg P (i * 64) 64 ∨ seg M (i * 64) 64 = seg (blkAt b0 b1 (1 - (best b0 b1).at_)) (i * 64) 64) :
    ∀ h, h = (if (best b0 b1).at_ = 0 then best b0 M else best M b1) → (h.s = (best b0 b1).s ∧ h.v = (best b0 b1).v ∧ (M = blkAt b0 b1 (1 - (best b0 b1).at_) → h = best b0 b1)) ∨ (h.s = s ∧ h.v = max (topP b0) (topP b1) + 1 ∧ h.at_ = 1 - (best b0 b1).at_ ∧ M = P) := by
  intro h hh
  have hbt := best_top b0 b1
  have hPu : unpackP P = some (max (topP b0) (topP b1) + 1, s) := by rw [hP]; exact unpack_packed hf
  have hba := best_at b0 b1
  rcases (show (best b0 b1).at_ = 0 ∨ (best b0 b1).at_ = 1 by omega) with ha | ha
  · rw [ha] at hmix hh ⊢
    rw [if_pos rfl] at hh
    have e1 : blkAt b0 b1 (1 - 0) = b1 := rfl
    rw [e1] at hmix ⊢
    rcases mixed_cases hf hP h1 hM hmix (by omega) with hm | hm | hm
    · left
      have hl : (Held.none.look 0 b0) = ⟨(best b0 b1).at_, (best b0 b1).v, (best b0 b1).s⟩ := by
        show _ = best b0 b1
        unfold best at ha ⊢
        cases hu : unpackP b1 with
        | none => rw [look_none hu]
        | some q =>
          obtain ⟨v, t⟩ := q
          rw [look_some hu] at ha ⊢
          by_cases hc : (Held.none.look 0 b0).v < v
          · rw [if_pos hc] at ha; cases ha
          · rw [if_neg hc]
      have e2 : h = Held.none.look 0 b0 := by rw [hh]; unfold best; rw [look_none hm]
      rw [e2, hl]
      exact ⟨rfl, rfl, fun _ => rfl⟩
    · left
      rw [hh, hm]
      exact ⟨rfl, rfl, fun _ => rfl⟩
    · right
      rw [← hm] at hPu
      have hlt : (Held.none.look 0 b0).v < max (topP b0) (topP b1) + 1 := by
        have h2 := best_top b0 []
        have h3 : best b0 [] = Held.none.look 0 b0 := by
          unfold best
          apply look_none
          rfl
        rw [h3] at h2
        have h4 : topP ([] : List UInt8) = 0 := rfl
        omega
      have e2 : h = ⟨1, max (topP b0) (topP b1) + 1, s⟩ := by rw [hh]; unfold best; rw [look_some hPu, if_pos hlt]
      rw [e2]
      exact ⟨rfl, rfl, rfl, hm⟩
  · rw [ha] at hmix hh ⊢
    rw [if_neg (by decide)] at hh
    have e1 : blkAt b0 b1 (1 - 1) = b0 := rfl
    rw [e1] at hmix ⊢
    -- block 1 counts: it holds a text, newer than block 0's
    obtain ⟨v1, s1, hu1, hb1⟩ : ∃ v1 s1, unpackP b1 = some (v1, s1) ∧ best b0 b1 = ⟨1, v1, s1⟩ := by
      unfold best at ha ⊢
      cases hu : unpackP b1 with
      | none =>
        rw [look_none hu] at ha
        exfalso
        unfold Held.look at ha
        split at ha
        · split at ha <;> cases ha
        · cases ha
      | some q =>
        obtain ⟨v, t⟩ := q
        rw [look_some hu] at ha ⊢
        by_cases hc : (Held.none.look 0 b0).v < v
        · rw [if_pos hc]; exact ⟨v, t, rfl, rfl⟩
        · rw [if_neg hc] at ha
          exfalso
          unfold Held.look at ha
          split at ha
          · split at ha <;> cases ha
          · cases ha
    have ht1 := (unpack_top hu1).1
    have hv10 := (unpack_top hu1).2
    rcases mixed_cases hf hP h0 hM hmix (by omega) with hm | hm | hm
    · left
      have e2 : h = ⟨1, v1, s1⟩ := by
        rw [hh]; unfold best; rw [look_none hm, look_some hu1, if_pos (by show 0 < v1; omega)]
      rw [e2, hb1]
      exact ⟨rfl, rfl, fun _ => rfl⟩
    · left
      rw [hh, hm]
      exact ⟨rfl, rfl, fun _ => rfl⟩
    · right
      rw [← hm] at hPu
      have e2 : h = ⟨0, max (topP b0) (topP b1) + 1, s⟩ := by
        rw [hh]; unfold best
        rw [look_some hPu, if_pos (by show 0 < _; omega), look_some hu1, if_neg (by show ¬ (max (topP b0) (topP b1) + 1) < v1; omega)]
      rw [e2]
      exact ⟨rfl, rfl, rfl, hm⟩
end Go.Proofs.Ytnmfgmlmjbfdcaa

/-
  What packing and unpacking tell, in plain words: errors, texts, the cases of what is no packed text. No program is read here.
-/
namespace Go.Proofs.Ytnmfgmlmjbfdcaa
open Go.RowKit

/-- Bytes as a text. -/
def tb (l : List UInt8) : ByteArray := ⟨l.toArray⟩
theorem tb_size (l : List UInt8) : (tb l).size = l.length := by simp [tb, ByteArray.size]
theorem tb_list (l : List UInt8) : (tb l).data.toList = l := by simp [tb]
theorem tb_app (a b : List UInt8) : tb a ++ tb b = tb (a ++ b) := by
  apply ByteArray.ext
  rw [ByteArray.data_append]
  simp [tb]
theorem tb_of (s : ByteArray) : tb s.data.toList = s := by cases s; simp [tb]
theorem tb_inj {a b : List UInt8} (h : tb a = tb b) : a = b := by rw [← tb_list a, ← tb_list b, h]
theorem tb_cut (l : List UInt8) (i j : Nat) : (tb l).extract i j = tb (seg l i (j - i)) := by
  apply ByteArray.ext
  rw [ByteArray.data_extract]
  apply Array.ext'
  simp [tb, seg]

/-- The error of Pack. -/
def packE (v n : Nat) (size : Int) : Nat := if size < 64 ∨ 16384 < size ∨ size % 64 ≠ 0 ∨ v = 0 then 2 else if size / 64 * 56 < (n : Int) + 4 then 3 else 0
/-- The text of Pack. -/
def packT (v : Nat) (s : List UInt8) (size : Int) : List UInt8 := if packE v s.length size = 0 then packed v s (size / 64).toNat else []
theorem packE_ok {v n : Nat} {size : Int} (h : packE v n size = 0) : 64 ≤ size ∧ size ≤ 16384 ∧ size % 64 = 0 ∧ v ≠ 0 ∧ (n : Int) + 4 ≤ size / 64 * 56 := by
  unfold packE at h
  split at h
  · cases h
  · split at h
    · cases h
    · omega
theorem packE_fits {v : Nat} {s : List UInt8} {size : Int} (h : packE v s.length size = 0) (hv : v < 18446744073709551616) : ∃ k : Nat, size = (k : Int) * 64 ∧ (size / 64).toNat = k ∧ Fits v s k := by
  obtain ⟨h1, h2, h3, h4, h5⟩ := packE_ok h
  exact ⟨(size / 64).toNat, by omega, rfl, by omega, by omega, h4, hv, by omega⟩
theorem packE_of {v : Nat} {s : List UInt8} {k : Nat} (h : Fits v s k) : packE v s.length ((k : Int) * 64) = 0 := by
  have h0 := h.k0
  have h1 := h.k1
  have h2 := h.v0
  have h3 := h.s1
  unfold packE
  rw [if_neg (by omega), if_neg (by omega)]
theorem packT_of {v : Nat} {s : List UInt8} {k : Nat} (h : Fits v s k) : packT v s ((k : Int) * 64) = packed v s k := by
  unfold packT
  rw [if_pos (packE_of h), show ((k : Int) * 64 / 64).toNat = k by omega]

section
variable {b : List UInt8}
theorem unpack_none {b : List UInt8} (h : ∀ v s, unpackP b = some (v, s) → False) : unpackP b = none := by
  cases hu : unpackP b with
  | none => rfl
  | some q => exact (h q.1 q.2 hu).elim
/-- Sectors of other stamps than the first one's. -/
theorem unpack_stamps {j : Nat} (hj : j * 64 + 64 ≤ b.length) (h : seg b (j * 64) 8 ≠ seg b 0 8) : unpackP b = none := by
  refine unpack_none fun v s hu => h ?_
  have st := packed_stamps hu
  rw [st j (by omega)]
  have := st 0 (by omega)
  rw [Nat.zero_mul] at this
  exact this.symm
/-- Less than a sector. -/
theorem unpack_short (h : b.length < 64) : unpackP b = none := by
  refine unpack_none fun v s hu => ?_
  obtain ⟨h1, h2⟩ := unpack_some hu
  have := h1.k0
  omega
/-- A length that is not there. -/
theorem unpack_far (h : b.length / 64 * 56 < numOf b + 4) : unpackP b = none := by
  refine unpack_none fun v s hu => ?_
  obtain ⟨h1, h2⟩ := unpack_some hu
  have h3 := (packed_read h1).2.1
  rw [← h2] at h3
  have := h1.s1
  omega
/-- What is packed otherwise. -/
theorem unpack_other (h : packE (verOf b) (txtOf b).length (b.length : Int) ≠ 0 ∨ packT (verOf b) (txtOf b) (b.length : Int) ≠ b) : unpackP b = none := by
  refine unpack_none fun v s hu => ?_
  obtain ⟨h1, h2⟩ := unpack_some hu
  have h3 := packed_read h1
  rw [← h2] at h3
  have hl : b.length = b.length / 64 * 64 := by
    have := packed_length v s (b.length / 64)
    rw [← h2] at this
    exact this
  have hlI : (b.length : Int) = ((b.length / 64 : Nat) : Int) * 64 := by omega
  rw [h3.1, h3.2.2.1] at h
  rw [hlI, packE_of h1, packT_of h1] at h
  rcases h with h | h
  · exact h rfl
  · exact h h2.symm
theorem unpack_good (hv : verOf b < 18446744073709551616) (h : packE (verOf b) (txtOf b).length (b.length : Int) = 0) (h' : packT (verOf b) (txtOf b) (b.length : Int) = b) : unpackP b = some (verOf b, txtOf b) := by
  obtain ⟨k, e1, e2, h3⟩ := packE_fits h hv
  have hk : b.length / 64 = k := by omega
  rw [e1, packT_of h3] at h'
  have := unpack_packed h3
  rw [h'] at this
  exact this
end
theorem txtOf_length {b : List UInt8} (h : numOf b + 4 ≤ b.length / 64 * 56) : (txtOf b).length = numOf b := by
  unfold txtOf
  rw [List.length_take, List.length_drop, bodyL_length b _ (by omega)]
  omega
theorem val_lt_of {l : List UInt8} {k : Nat} (h : l.length ≤ k) : val l < 256 ^ k := Nat.lt_of_lt_of_le (val_lt l) (Nat.pow_le_pow_right (by decide) h)
theorem numOf_lt {b : List UInt8} : numOf b < 4294967296 := val_lt_of (k := 4) (by rw [List.length_take]; omega)
theorem verOf_lt {b : List UInt8} : verOf b < 18446744073709551616 := val_lt_of (k := 8) (by rw [List.length_take]; omega)
theorem stamp_lt (b : List UInt8) (o : Nat) : val (seg b o 8) < 18446744073709551616 := val_lt_of (k := 8) (by unfold seg; rw [List.length_take]; omega)
theorem topL_lt (b : List UInt8) : ∀ k, topL b k < 18446744073709551616
  | 0 => by show 0 < _; decide
  | k + 1 => by
    have := topL_lt b k
    have := stamp_lt b (k * 64)
    simp only [topL]
    omega
theorem topP_lt (b : List UInt8) : topP b < 18446744073709551616 := topL_lt b _
/-- The text's bytes, as they are made. -/
theorem textL_made {s : List UInt8} {k : Nat} (h : s.length + 4 ≤ k * 56) : tb (be s.length 4) ++ tb s ++ tb (List.replicate (k * 56 - (4 + s.length)) 0) = tb (textL s k) := by
  rw [tb_app, tb_app, textL_eq h, List.append_assoc, List.length_append, be_length]

/-- What a master is. -/
structure MS where
  at_ : Nat
  v : Nat
  s : List UInt8
  way : Bool
  next : List UInt8
def MS.opened (b0 b1 : List UInt8) : MS := ⟨(best b0 b1).at_, (best b0 b1).v, (best b0 b1).s, false, []⟩
end Go.Proofs.Ytnmfgmlmjbfdcaa

/-
  Sectors of two packed texts, mixed by the bits of a number: none of them, but where all are one's. No program is read here.
-/
namespace Go.Proofs.Ytnmfgmlmjbfdcaa
open Go.RowKit

/-- The first sectors, by the bits of m. -/
def mixS (P Q : List UInt8) (m : Nat) : Nat → List UInt8
  | 0 => []
  | j + 1 => mixS P Q m j ++ seg (if m / 2 ^ j % 2 = 1 then P else Q) (j * 64) 64
section
variable {P Q : List UInt8} {m K : Nat}
theorem mixS_length (hP : P.length = K * 64) (hQ : Q.length = K * 64) : ∀ j, j ≤ K → (mixS P Q m j).length = j * 64
  | 0, _ => rfl
  | j + 1, h => by
    have h1 := mixS_length hP hQ j (by omega)
    have h2 : (seg (if m / 2 ^ j % 2 = 1 then P else Q) (j * 64) 64).length = 64 := by
      split
      · exact seg_length _ _ _ (by omega)
      · exact seg_length _ _ _ (by omega)
    simp only [mixS, List.length_append, h1, h2]
    omega
theorem mixS_seg (hP : P.length = K * 64) (hQ : Q.length = K * 64) : ∀ j, j ≤ K → ∀ i, i < j → seg (mixS P Q m j) (i * 64) 64 = seg (if m / 2 ^ i % 2 = 1 then P else Q) (i * 64) 64
  | 0, _, i, hi => absurd hi (Nat.not_lt_zero _)
  | j + 1, h, i, hi => by
    have h1 := mixS_length (m := m) hP hQ j (by omega)
    have h2 : (seg (if m / 2 ^ j % 2 = 1 then P else Q) (j * 64) 64).length = 64 := by
      split
      · exact seg_length _ _ _ (by omega)
      · exact seg_length _ _ _ (by omega)
    simp only [mixS]
    by_cases hij : i < j
    · rw [seg_left _ _ _ _ (by rw [h1]; omega)]
      exact mixS_seg hP hQ j (by omega) i hij
    · obtain rfl : i = j := by omega
      rw [seg_right _ _ _ _ (by rw [h1]; exact Nat.le_refl _), h1, Nat.sub_self]
      generalize seg (if m / 2 ^ i % 2 = 1 then P else Q) (i * 64) 64 = X at *
      unfold seg
      rw [List.drop_zero, List.take_of_length_le (by omega)]
theorem mixS_zero (hP : P.length = K * 64) (hQ : Q.length = K * 64) (h0 : ∀ i, i < K → m / 2 ^ i % 2 ≠ 1) : mixS P Q m K = Q :=
  eq_of_segs K 64 (mixS_length hP hQ K (Nat.le_refl _)) hQ fun i hi => by rw [mixS_seg hP hQ K (Nat.le_refl _) i hi, if_neg (h0 i hi)]
theorem mixS_all (hP : P.length = K * 64) (hQ : Q.length = K * 64) (h0 : ∀ i, i < K → m / 2 ^ i % 2 = 1) : mixS P Q m K = P :=
  eq_of_segs K 64 (mixS_length hP hQ K (Nat.le_refl _)) hP fun i hi => by rw [mixS_seg hP hQ K (Nat.le_refl _) i hi, if_pos (h0 i hi)]
end
theorem bits_some : ∀ m : Fin 256, m.val ≠ 0 → m.val ≠ 255 → (∃ i : Fin 8, m.val / 2 ^ i.val % 2 = 1) ∧ ∃ j : Fin 8, m.val / 2 ^ j.val % 2 ≠ 1 := by decide +kernel
theorem bits_all : ∀ i : Fin 8, 255 / 2 ^ i.val % 2 = 1 := by decide
theorem bits_none (i : Nat) : 0 / 2 ^ i % 2 ≠ 1 := by simp
theorem stamp_of_seg {X Y : List UInt8} {o : Nat} (e : seg X o 64 = seg Y o 64) : seg X o 8 = seg Y o 8 := by
  have t : ∀ Z : List UInt8, seg Z o 8 = (seg Z o 64).take 8 := fun Z => by unfold seg; rw [List.take_take, Nat.min_eq_left (by decide)]
  rw [t X, t Y, e]
/-- What the statement asks of the mixture. -/
theorem mixed {a b : List UInt8} {m : Nat} (ha : a.length ≤ 400) (hb : b.length ≤ 400) (hm : m < 256) :
    (m = 0 → unpackP (mixS (packed 5 a 8) (packed 6 b 8) m 8) = some (6, b)) ∧ (m = 255 → unpackP (mixS (packed 5 a 8) (packed 6 b 8) m 8) = some (5, a)) ∧
    (m ≠ 0 → m ≠ 255 → unpackP (mixS (packed 5 a 8) (packed 6 b 8) m 8) = none ∧ topP (mixS (packed 5 a 8) (packed 6 b 8) m 8) = 6) := by
  have fa : Fits 5 a 8 := ⟨by decide, by decide, by decide, by decide, by omega⟩
  have fb : Fits 6 b 8 := ⟨by decide, by decide, by decide, by decide, by omega⟩
  have hP := packed_length 5 a 8
  have hQ := packed_length 6 b 8
  refine ⟨fun h => ?_, fun h => ?_, fun h0 h1 => ?_⟩
  · subst h
    rw [mixS_zero hP hQ fun i _ => bits_none i]
    exact unpack_packed fb
  · subst h
    rw [mixS_all hP hQ fun i hi => bits_all ⟨i, hi⟩]
    exact unpack_packed fa
  · obtain ⟨⟨⟨i, hi⟩, h2⟩, ⟨⟨j, hj⟩, h3⟩⟩ := bits_some ⟨m, hm⟩ h0 h1
    dsimp only at h2 h3
    have hl := mixS_length (m := m) hP hQ 8 (Nat.le_refl _)
    have st : ∀ k, k < 8 → seg (mixS (packed 5 a 8) (packed 6 b 8) m 8) (k * 64) 8 = be (if m / 2 ^ k % 2 = 1 then 5 else 6) 8 := fun k hk => by
      have := stamp_of_seg (mixS_seg (m := m) hP hQ 8 (Nat.le_refl _) k hk)
      rw [this]
      by_cases hb : m / 2 ^ k % 2 = 1
      · rw [if_pos hb, if_pos hb]; exact packed_stamp k hk
      · rw [if_neg hb, if_neg hb]; exact packed_stamp k hk
    have si := st i hi
    have sj := st j hj
    rw [if_pos h2] at si
    rw [if_neg h3] at sj
    refine ⟨mixed_none (v := 5) (w := 6) (by decide) (by decide) (by decide) (by rw [hl]; exact hi) (by rw [hl]; exact hj) si sj, ?_⟩
    unfold topP
    rw [hl, show 8 * 64 / 64 = 8 from rfl]
    refine Nat.le_antisymm (topL_le 8 fun k hk => ?_) ?_
    · rw [st k hk]
      split
      · rw [mval_be8 _ (by decide)]; decide
      · rw [mval_be8 _ (by decide)]; exact Nat.le_refl _
    · have := topL_ge (b := mixS (packed 5 a 8) (packed 6 b 8) m 8) 8 j hj
      rw [sj, mval_be8 _ (by decide)] at this
      exact this
end Go.Proofs.Ytnmfgmlmjbfdcaa
