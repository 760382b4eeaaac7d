/-
  The walks over package master, part E: Unpack, up to what it reads.
-/
import Derived.Test.YtnmfgmlmjbfdcaaMasPackB
import Derived.Test.YtnmfgmlmjbfdcaaMasBts
import Derived.Test.YtnmfgmlmjbfdcaaDraw
namespace Go.Proofs.Ytnmfgmlmjbfdcaa
open Go.RowKit

attribute [local go_sem] Oper.semAt_some

/-- What Unpack tells. -/
def unpV (b : List UInt8) : Value := match unpackP b with
  | none => .tuple #[.int .u64 0, .string ⟨#[]⟩, .bool false]
  | some (v, s) => .tuple #[.int .u64 (v : Int), .string (tb s), .bool true]
theorem unpV_none {b : List UInt8} (h : unpackP b = none) : unpV b = .tuple #[.int .u64 0, .string ⟨#[]⟩, .bool false] := by unfold unpV; rw [h]
theorem unpV_some {b : List UInt8} {v : Nat} {s : List UInt8} (h : unpackP b = some (v, s)) : unpV b = .tuple #[.int .u64 (v : Int), .string (tb s), .bool true] := by unfold unpV; rw [h]
/-- Bytes that are no sectors. -/
theorem unpack_noSz {b : List UInt8} (h : isSz (b.length : Int) = false) : unpackP b = none := by
  refine unpack_none fun v s hu => ?_
  obtain ⟨h1, h2⟩ := unpack_some hu
  have hl := packed_length v s (b.length / 64)
  rw [← h2] at hl
  have e : (b.length : Int) = ((b.length / 64 : Nat) : Int) * 64 := by omega
  rw [e, isSz_of _ h1.k0 h1.k1] at h
  cases h
/-- The text that is read of a body. -/
def readT (b : List UInt8) : List UInt8 := (rtext (some (bodyL b (b.length / 64))) 4 (b.length : Int)).1
theorem rtext_ok {l : List UInt8} {m : Int} (h1 : 4 ≤ l.length) (h2 : (val (l.take 4) : Int) ≤ m) (h3 : 4 + val (l.take 4) ≤ l.length) : (rtext (some l) 4 m).1 = (l.drop 4).take (val (l.take 4)) := by
  show (if isT 4 = true ∧ (4 : Int) ≤ (l.length : Int) ∧ 0 ≤ m ∧ (val (l.take (4 : Int).toNat) : Int) ≤ m ∧ 4 + (val (l.take (4 : Int).toNat) : Int) ≤ (l.length : Int) then _ else _ : List UInt8 × Option (List UInt8)).1 = _
  rw [if_pos ⟨rfl, by omega, by omega, h2, by show (4 : Int) + (val (l.take 4) : Int) ≤ _; omega⟩]
  rfl
theorem unpack_reads {b : List UInt8} {v : Nat} {s : List UInt8} (h : unpackP b = some (v, s)) : topP b = v ∧ readT b = s ∧ packE v s.length (b.length : Int) = 0 ∧ packT v s (b.length : Int) = b := by
  obtain ⟨h1, h2⟩ := unpack_some h
  have hl := packed_length v s (b.length / 64)
  rw [← h2] at hl
  have e : (b.length : Int) = ((b.length / 64 : Nat) : Int) * 64 := by omega
  obtain ⟨k, hk⟩ : ∃ k, b.length / 64 = k := ⟨_, rfl⟩
  have hs := h1.s1
  have hk1 := h1.k1
  refine ⟨(unpack_top h).1, ?_, by rw [e]; exact packE_of h1, by rw [e, packT_of h1]; exact h2.symm⟩
  unfold readT
  have hb : bodyL b (b.length / 64) = textL s (b.length / 64) := by
    conv => lhs; arg 1; rw [h2]
    exact packed_body v s _
  have hn : val ((textL s (b.length / 64)).take 4) = s.length := by rw [textL_num hs, mval_be4 _ (by omega)]
  rw [hb, rtext_ok (by rw [textL_length]; omega) (by rw [hn]; omega) (by rw [hn, textL_length]; omega), hn, textL_text hs]
theorem unpack_of {b s : List UInt8} (h : packE (topP b) s.length (b.length : Int) = 0) (h' : packT (topP b) s (b.length : Int) = b) : unpackP b = some (topP b, s) := by
  obtain ⟨k, e1, e2, h3⟩ := packE_fits h (topP_lt b)
  rw [e1, packT_of h3] at h'
  have := unpack_packed h3
  rw [h'] at this
  exact this
theorem packE_cases (v n : Nat) (size : Int) : packE v n size = 0 ∨ packE v n size = 2 ∨ packE v n size = 3 := by
  unfold packE
  split
  · exact .inr (.inl rfl)
  · split
    · exact .inr (.inr rfl)
    · exact .inl rfl

/-- The pieces so far. -/
def bodF (b : List UInt8) (pre : List Nat) : List UInt8 := pre.flatMap fun i => seg b (i * 64 + 8) 56
theorem bodF_snoc (b : List UInt8) (pre : List Nat) (i : Nat) : bodF b (pre ++ [i]) = bodF b pre ++ seg b (i * 64 + 8) 56 := by simp [bodF]
theorem bodF_range (b : List UInt8) : ∀ k, bodF b (List.range k) = bodyL b k
  | 0 => rfl
  | k + 1 => by rw [List.range_succ, bodF_snoc, bodF_range b k]; rfl
theorem seg_le {α : Type} (l : List α) (o n : Nat) : (seg l o n).length ≤ n := by unfold seg; rw [List.length_take]; omega
theorem bodF_le (b : List UInt8) : ∀ pre : List Nat, (bodF b pre).length ≤ pre.length * 56 := by
  intro pre
  induction pre with
  | nil => exact Nat.le_refl _
  | cons i l ih =>
    have h1 := seg_le b (i * 64 + 8) 56
    have e : bodF b (i :: l) = seg b (i * 64 + 8) 56 ++ bodF b l := by simp [bodF]
    rw [e, List.length_append, List.length_cons]
    omega

/-- What lies between two rounds: the bytes so far in their box; the iterator's box. -/
structure Coll (w : World) (b : List UInt8) (l : List UInt8) (W : World) : Prop where
  box : ∃ v c, Row W w.heap.size 69 [.slice v l.length c] (0, 0) ∧ Bts W v l c ∧ ∀ k, blk v = some k → w.heap.size ≤ k
  it : Row W (w.heap.size + 1) 9 [.string (tb b)] (0, 0)
  below : Below w.heap.size w W
theorem Coll.kept {w W W' : World} {b l : List UInt8} {row : Option Nat} (h : Coll w b l W) (hg : W.grownBy W' row) (hr : ∀ r, row = some r → w.heap.size + 2 ≤ r ∧ ∃ o : Obj, W.heap[r]? = some o ∧ o.isCells = false) : Coll w b l W' := by
  obtain ⟨v, c, h1, h2, h3⟩ := h.box
  exact ⟨⟨v, c, h1.grown hg (fun e => by have := (hr _ e.symm).1; omega), h2.kept hg (fun r e => (hr r e).2), h3⟩, h.it.grown hg (fun e => by have := (hr _ e.symm).1; omega), h.below.grown hg h.below.size (fun k e => by have := (hr k e).1; omega)⟩
theorem Coll.keeps {w W W' : World} {b l : List UInt8} (h : Coll w b l W) (hb : Below W.heap.size W W') : Coll w b l W' := h.kept (only_below hb none) (fun r e => by cases e)
end Go.Proofs.Ytnmfgmlmjbfdcaa
