/-
  Plain facts on cells as bytes: what Bytes makes, what Get reads. No program is read here.
-/
import Derived.Test.YtbganaaiaokfmaaCelMath
import Derived.Test.YtbganaaiaokfmaaBase
namespace Go.Proofs.Ytbganaaiaokfmaa
open Go.RowKit

theorem cval_be2 (n : Nat) (h : n < 65536) : val (be n 2) = n := by
  simp only [be, val, List.foldl_cons, List.foldl_nil, UInt8.toNat_ofNat']
  omega
/-- A cell's bytes on the heap. -/
def entC (c : Cel) : List UInt8 := be c.1.length 2 ++ c.1 ++ be c.2.length 2 ++ c.2
def heapC (l : List Cel) : List UInt8 := l.flatMap entC
/-- Where each cell lies on the heap: the sizes ahead of it, from o on. -/
def slotsC : List Cel → Nat → List UInt8
  | [], _ => []
  | c :: l, o => be o 4 ++ slotsC l (o + (entC c).length)
def bytesC (l : List Cel) : List UInt8 := be l.length 2 ++ slotsC l 0 ++ heapC l
theorem entC_length (c : Cel) : (entC c).length = 4 + c.1.length + c.2.length := by
  unfold entC
  simp only [List.length_append, be_length]
  omega
theorem heapC_length (l : List Cel) : (heapC l).length = sizeC l := by
  induction l with
  | nil => rfl
  | cons c l ih =>
    show (entC c ++ heapC l).length = _
    rw [List.length_append, entC_length, ih, sizeC_cons]
theorem slotsC_length : ∀ (l : List Cel) (o : Nat), (slotsC l o).length = 4 * l.length
  | [], _ => rfl
  | c :: l, o => by
    show (be o 4 ++ slotsC l _).length = _
    rw [List.length_append, be_length, slotsC_length l, List.length_cons]
    omega
theorem bytesC_length (l : List Cel) : (bytesC l).length = 2 + 4 * l.length + sizeC l := by
  unfold bytesC
  rw [List.length_append, List.length_append, be_length, slotsC_length, heapC_length]
/-- One more behind: how a loop makes them. -/
theorem heapC_snoc (l : List Cel) (c : Cel) : heapC (l ++ [c]) = heapC l ++ entC c := by simp [heapC]
theorem slotsC_snoc : ∀ (l : List Cel) (c : Cel) (o : Nat), slotsC (l ++ [c]) o = slotsC l o ++ be (o + sizeC l) 4
  | [], c, o => by
    show be o 4 ++ slotsC [] _ = [] ++ be (o + sizeC []) 4
    simp [slotsC, sizeC]
  | a :: l, c, o => by
    show be o 4 ++ slotsC (l ++ [c]) _ = be o 4 ++ slotsC l _ ++ be (o + sizeC (a :: l)) 4
    rw [slotsC_snoc l c, sizeC_cons, entC_length, List.append_assoc]
    congr 3
    omega

/-- A text of the width 2 at a place, and the place behind it. -/
def rdT (s : List UInt8) (at_ : Nat) : Option (Txt × Nat) :=
  if at_ + 2 ≤ s.length ∧ at_ + 2 + val ((s.drop at_).take 2) ≤ s.length then some ((s.drop (at_ + 2)).take (val ((s.drop at_).take 2)), at_ + 2 + val ((s.drop at_).take 2)) else none
/-- n cells from a place on. -/
def rdL (s : List UInt8) : Nat → Nat → Option (List Cel)
  | 0, _ => some []
  | n + 1, at_ => match rdT s at_ with
    | none => none
    | some (k, a1) => match rdT s a1 with
      | none => none
      | some (v, a2) => (rdL s n a2).map ((k, v) :: ·)
theorem rdT_here (A B t : List UInt8) (h : t.length < 65536) : rdT (A ++ (be t.length 2 ++ t ++ B)) A.length = some (t, A.length + 2 + t.length) := by
  have e0 : (A ++ (be t.length 2 ++ t ++ B)).drop A.length = be t.length 2 ++ t ++ B := List.drop_left
  have e1 : ((A ++ (be t.length 2 ++ t ++ B)).drop A.length).take 2 = be t.length 2 := by
    rw [e0, List.append_assoc]
    exact List.take_left' (be_length _ _)
  have e2 : ((A ++ (be t.length 2 ++ t ++ B)).drop (A.length + 2)).take t.length = t := by
    rw [← List.drop_drop, e0, List.append_assoc, List.drop_left' (be_length _ _), List.take_left]
  unfold rdT
  rw [e1, cval_be2 _ h, e2, if_pos]
  simp only [List.length_append, be_length]
  omega
/-- What was written is read. -/
theorem rdL_heap : ∀ (l : List Cel) (A : List UInt8), (∀ c ∈ l, fitC c = true) → rdL (A ++ heapC l) l.length A.length = some l
  | [], _, _ => rfl
  | c :: l, A, h => by
    have hc := h c (by simp)
    unfold fitC at hc
    simp only [Bool.and_eq_true, decide_eq_true_eq] at hc
    have e1 : A ++ heapC (c :: l) = A ++ (be c.1.length 2 ++ c.1 ++ (be c.2.length 2 ++ c.2 ++ heapC l)) := by
      show A ++ (entC c ++ heapC l) = _
      unfold entC
      simp only [List.append_assoc]
    have e2 : A ++ heapC (c :: l) = (A ++ (be c.1.length 2 ++ c.1)) ++ (be c.2.length 2 ++ c.2 ++ heapC l) := by
      rw [e1]
      simp only [List.append_assoc]
    have e3 : A ++ heapC (c :: l) = (A ++ entC c) ++ heapC l := by
      show A ++ (entC c ++ heapC l) = _
      rw [List.append_assoc]
    have h1 := rdT_here A (be c.2.length 2 ++ c.2 ++ heapC l) c.1 (by omega)
    rw [← e1] at h1
    have h2 := rdT_here (A ++ (be c.1.length 2 ++ c.1)) (heapC l) c.2 (by omega)
    rw [← e2] at h2
    have h3 := rdL_heap l (A ++ entC c) fun x hx => h x (by simp [hx])
    rw [← e3] at h3
    have l2 : (A ++ (be c.1.length 2 ++ c.1)).length = A.length + 2 + c.1.length := by simp only [List.length_append, be_length]; omega
    have l3 : (A ++ entC c).length = A.length + 2 + c.1.length + 2 + c.2.length := by rw [List.length_append, entC_length]; omega
    rw [l2] at h2
    rw [l3] at h3
    show (match rdT (A ++ heapC (c :: l)) A.length with
      | none => none
      | some (k, a1) => match rdT (A ++ heapC (c :: l)) a1 with
        | none => none
        | some (v, a2) => (rdL (A ++ heapC (c :: l)) l.length a2).map ((k, v) :: ·)) = _
    rw [h1]
    show (match rdT (A ++ heapC (c :: l)) (A.length + 2 + c.1.length) with
        | none => none
        | some (v, a2) => (rdL (A ++ heapC (c :: l)) l.length a2).map ((c.1, v) :: ·)) = _
    rw [h2]
    show (rdL (A ++ heapC (c :: l)) l.length (A.length + 2 + c.1.length + 2 + c.2.length)).map ((c.1, c.2) :: ·) = _
    rw [h3]
    rfl
/-- What Get reads: the cells whose bytes they are, if there are any. -/
noncomputable def getC (s : List UInt8) : Option (List Cel) := open Classical in if h : ∃ l, Rgt l ∧ l.length ≤ 65535 ∧ bytesC l = s then some h.choose else none
theorem bytesC_read {l : List Cel} (h : Rgt l) (hl : l.length ≤ 65535) : val ((bytesC l).take 2) = l.length ∧ rdL (bytesC l) l.length (2 + 4 * l.length) = some l := by
  refine ⟨?_, ?_⟩
  · unfold bytesC
    rw [List.append_assoc, List.take_left' (be_length _ _), cval_be2 _ (by omega)]
  · have := rdL_heap l (be l.length 2 ++ slotsC l 0) h.2
    rw [show (be l.length 2 ++ slotsC l 0).length = 2 + 4 * l.length by rw [List.length_append, be_length, slotsC_length]] at this
    exact this
theorem bytesC_inj {l m : List Cel} (hl : Rgt l) (hm : Rgt m) (h1 : l.length ≤ 65535) (h2 : m.length ≤ 65535) (e : bytesC l = bytesC m) : l = m := by
  obtain ⟨a1, a2⟩ := bytesC_read hl h1
  obtain ⟨b1, b2⟩ := bytesC_read hm h2
  rw [e] at a1 a2
  have hn : l.length = m.length := by rw [← a1, b1]
  rw [hn, b2] at a2
  exact (Option.some.inj a2).symm
theorem getC_bytes {l : List Cel} (h : Rgt l) (hl : l.length ≤ 65535) : getC (bytesC l) = some l := by
  have hx : ∃ m, Rgt m ∧ m.length ≤ 65535 ∧ bytesC m = bytesC l := ⟨l, h, hl, rfl⟩
  unfold getC
  rw [dif_pos hx]
  obtain ⟨k1, k2, k3⟩ := hx.choose_spec
  rw [bytesC_inj k1 h k2 hl k3]
theorem getC_iff {s : List UInt8} {l : List Cel} : getC s = some l ↔ Rgt l ∧ l.length ≤ 65535 ∧ bytesC l = s := by
  constructor
  · intro hg
    unfold getC at hg
    split at hg
    · rename_i hx
      obtain ⟨k1, k2, k3⟩ := hx.choose_spec
      rw [← Option.some.inj hg]
      exact ⟨k1, k2, k3⟩
    · cases hg
  · rintro ⟨h1, h2, rfl⟩
    exact getC_bytes h1 h2
/-- How it is found: read, write again, compare. -/
theorem getC_of {s : List UInt8} : getC s = match rdL s (val (s.take 2)) (2 + 4 * val (s.take 2)) with
    | none => none
    | some l => open Classical in if Rgt l ∧ l.length ≤ 65535 ∧ bytesC l = s then some l else none := by
  cases hg : getC s with
  | some l =>
    obtain ⟨h1, h2, rfl⟩ := getC_iff.1 hg
    obtain ⟨a1, a2⟩ := bytesC_read h1 h2
    rw [a1, a2]
    exact (if_pos ⟨h1, h2, rfl⟩).symm
  | none =>
    cases hr : rdL s (val (s.take 2)) (2 + 4 * val (s.take 2)) with
    | none => rfl
    | some l =>
      refine (if_neg fun h => ?_).symm
      rw [getC_iff.2 h] at hg
      cases hg
end Go.Proofs.Ytbganaaiaokfmaa
