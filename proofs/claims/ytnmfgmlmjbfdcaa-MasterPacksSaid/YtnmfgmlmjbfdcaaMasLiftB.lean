/-
  The argument of MasterPacks, opened.
-/
import Derived.Test.YtnmfgmlmjbfdcaaMasLift
namespace Go.Proofs.Ytnmfgmlmjbfdcaa
open Go.ChangeShapes Go.WideShapes Go.ChangeAt Go.RowKit Go.Joins Go.Deep

set_option maxRecDepth 100000 in
/-- A number, a text, a size and bytes, by value. -/
theorem packed_arg {H : Type} {enc : TypeId × Value → H} {w : World} {r : Reach} {b0 base : Nat} {spare : Nat → Bool} {held : Bool} {v : Value} {d : DataW H} {p : List MemPlace} (hv : Value.okWide Try.prog w r b0 24 v)
    (h : DataW.Trod enc Try.prog w base spare held 24 v d p) : ∃ (n : Nat) (s : ByteArray) (z : Int) (b : ByteArray), v = .agg #[.int .u64 (n : Int), .string s, .int .i64 z, .string b] ∧ n < 18446744073709551616 ∧ s.size ≤ 9223372036854775807 ∧ (-9223372036854775808 ≤ z ∧ z ≤ 9223372036854775807) ∧ b.size ≤ 9223372036854775807 := by
  have hmx : maxLen ≤ 9223372036854775807 := by unfold maxLen; omega
  obtain ⟨v0, v1, v2, v3, y0, y1, y2, y3, n, rfl, h0, h1, h2, h3⟩ := four_fields Try.underlying24 (by kernel_rfl) (by kernel_rfl) hv h
  obtain ⟨m0, r0, _, w0⟩ := DataW.trod_int Try.underlying22 h0
  obtain ⟨s, r1, _, w1⟩ := DataW.trod_string Try.underlying9 h1
  obtain ⟨m2, r2, _, w2⟩ := DataW.trod_int Try.underlying3 h2
  obtain ⟨b, r3, _, w3⟩ := DataW.trod_string Try.underlying9 h3
  simp only [List.cons.injEq, and_true] at r0 r1 r2 r3
  subst r0 r1 r2 r3
  have b0 := bounds_u64 w0
  have b2 := bounds_i64 w2
  refine ⟨m0.toNat, s, m2, b, ?_, by omega, by omega, ⟨by omega, by omega⟩, by omega⟩
  rw [show ((m0.toNat : Nat) : Int) = m0 by omega]
end Go.Proofs.Ytnmfgmlmjbfdcaa
