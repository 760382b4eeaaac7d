/-
  The acts of MasterPlays, opened.
-/
import Derived.Test.YtnmfgmlmjbfdcaaMasLift
import Derived.Test.YtnmfgmlmjbfdcaaMasAct
namespace Go.Proofs.Ytnmfgmlmjbfdcaa
open Go.ChangeShapes Go.WideShapes Go.ChangeAt Go.RowKit Go.Joins Go.Deep

set_option maxRecDepth 100000 in
/-- An act of an argument, opened. -/
theorem act_open {H : Type} {enc : TypeId × Value → H} {w : World} {base : Nat} {spare : Nat → Bool} {held : Bool} {g o : Nat} {fs : Array Field}
    (t0 : ∃ f, fs[0]? = some f ∧ f.type = 5) (t1 : ∃ f, fs[1]? = some f ∧ f.type = 9) (t2 : ∃ f, fs[2]? = some f ∧ f.type = 3) (t3 : ∃ f, fs[3]? = some f ∧ f.type = 54)
    (h : ∀ (j : Nat) (f : Field), fs[j]? = some f → ∃ (v : Value) (y : DataW H × List MemPlace) (n : Nat), w.cell? ⟨g, o + j, none⟩ = some v ∧ DataW.trod enc Try.prog w base spare held n f.type [v] = some y) :
    ∃ x : ActM, x.Ok w ∧ ∀ j, j < 4 → w.cell? ⟨g, o + j, none⟩ = (x.cells)[j]? := by
  have hmx : maxLen ≤ 9223372036854775807 := by unfold maxLen; omega
  obtain ⟨f0, e0, k0⟩ := t0
  obtain ⟨f1, e1, k1⟩ := t1
  obtain ⟨f2, e2, k2⟩ := t2
  obtain ⟨f3, e3, k3⟩ := t3
  obtain ⟨v0, y0, n0, c0, h0⟩ := h 0 f0 e0
  obtain ⟨v1, y1, n1, c1, h1⟩ := h 1 f1 e1
  obtain ⟨v2, y2, n2, c2, h2⟩ := h 2 f2 e2
  obtain ⟨v3, y3, n3, c3, h3⟩ := h 3 f3 e3
  rw [k0] at h0
  rw [k1] at h1
  rw [k2] at h2
  rw [k3] at h3
  obtain ⟨m0, r0, _, w0⟩ := DataW.trod_int Try.underlying5 h0
  obtain ⟨s, r1, _, w1⟩ := DataW.trod_string Try.underlying9 h1
  obtain ⟨m2, r2, _, w2⟩ := DataW.trod_int Try.underlying3 h2
  obtain ⟨A, n, c, l, rfl, _, hold⟩ := keep_open h3
  simp only [List.cons.injEq, and_true] at r0 r1 r2
  subst r0 r1 r2
  have b0 := bounds_u8 w0
  have b2 := bounds_i64 w2
  refine ⟨⟨m0.toNat, s, m2, A, n, c, l⟩, ⟨by show m0.toNat < 256; omega, by show s.size ≤ _; omega, by show _ ≤ m2; omega, by show m2 ≤ _; omega, hold⟩, fun j hj => ?_⟩
  have q0 : ((m0.toNat : Nat) : Int) = m0 := by omega
  show _ = (([.int .u8 ((m0.toNat : Nat) : Int), .string s, .int .i64 m2, .slice A n c] : List Value))[j]?
  rw [q0]
  rcases (show j = 0 ∨ j = 1 ∨ j = 2 ∨ j = 3 by omega) with rfl | rfl | rfl | rfl
  · exact c0
  · exact c1
  · exact c2
  · exact c3

set_option maxRecDepth 100000 in
/-- Acts of an argument, opened. -/
theorem acts_arg {H : Type} {enc : TypeId × Value → H} {w : World} {r : Reach} {b0 base : Nat} {spare : Nat → Bool} {held : Bool} {v : Value} {d : DataW H} {p : List MemPlace} (hv : Value.okWide Try.prog w r b0 37 v)
    (h : DataW.Trod enc Try.prog w base spare held 37 v d p) : ∃ (A : Option Addr) (c : Nat) (l : List ActM), v = .slice A l.length c ∧ l.length ≤ 9223372036854775807 ∧ ActsM w A l := by
  obtain ⟨fuel, hf⟩ := h
  have hmx : maxLen ≤ 9223372036854775807 := by unfold maxLen; omega
  obtain ⟨q, n, c, rfl⟩ := okWide_slice Try.underlying37 hv
  rcases rows_open Try.underlying37 Try.underlying56 (by kernel_rfl) (by kernel_rfl) (by decide) hf with h0 | ⟨a, cap, h0, _⟩ | ⟨b, off, len, cap, h0, hpos, hl, hm, hb, hcell⟩
  · replace h0 := (List.cons.inj (show [Value.slice q n c] = _ from h0)).1
    exact ⟨none, 0, [], h0, by simp, ⟨fun x hx => by simp at hx, fun i hi => by simp at hi⟩⟩
  · replace h0 := (List.cons.inj (show [Value.slice q n c] = _ from h0)).1
    exact ⟨some a, cap, [], h0, by simp, ⟨fun x hx => by simp at hx, fun i hi => by simp at hi⟩⟩
  · replace h0 := (List.cons.inj (show [Value.slice q n c] = _ from h0)).1
    have hall : ∀ i, i < len → ∃ x : ActM, x.Ok w ∧ ∀ j, j < 4 → w.cell? ⟨b, off + i * 4 + j, none⟩ = (x.cells)[j]? := fun i hi =>
      act_open ⟨_, rfl, rfl⟩ ⟨_, rfl, rfl⟩ ⟨_, rfl, rfl⟩ ⟨_, rfl, rfl⟩ (hcell i hi)
    obtain ⟨F, hF⟩ := choose_below hall
    refine ⟨some ⟨b, off, none⟩, cap, (List.range len).map F, by rw [h0]; simp, by simp; omega, ⟨fun x hx => ?_, fun i hi => ⟨b, off, rfl, hb, fun j hj => ?_⟩⟩⟩
    · obtain ⟨i, hi, rfl⟩ := List.mem_map.1 hx
      exact (hF i (List.mem_range.1 hi)).1
    · have hi : i < len := by simpa using hi
      simp only [List.getElem_map, List.getElem_range]
      exact (hF i hi).2 j hj
end Go.Proofs.Ytnmfgmlmjbfdcaa
