/-
  LsnsMembers' argument, opened: two sets and two numbers, laid flat.
-/
import Derived.Test.YtkcjhkhdpafjhaaLsnsLift
namespace Go.Proofs.Ytkcjhkhdpafjhaa
open Go.ChangeShapes Go.WideShapes Go.ChangeAt Go.RowKit Go.Joins Go.Deep

theorem Try.cells64 : Try.prog.cellsOf 22 = 1 := by kernel_rfl
theorem Try.cellsSl : Try.prog.cellsOf 23 = 1 := by kernel_rfl
theorem Try.cellsLs : Try.prog.cellsOf 25 = 2 := by kernel_rfl
theorem Try.cellsFour : Try.prog.cellsOf 41 = 6 := by kernel_rfl

section
variable {H : Type} {enc : TypeId × Value → H} {w : World} {base : Nat} {spare : Nat → Bool} {held : Bool}

/-- A set's two cells, opened. -/
theorem lsns_cells {fuel : Nat} {c0 c1 : Value} {y : DataW H × List MemPlace} (h : DataW.trod enc Try.prog w base spare held fuel 25 [c0, c1] = some y) :
    ∃ x : LV, c0 = .int .u64 (x.low : Int) ∧ c1 = .slice x.A x.n x.c ∧ x.In w ∧ x.n ≤ 9223372036854775807 := by
  obtain ⟨y0, y1, n, _, _, h0, h1⟩ := trod_struct2 Try.underlying25 h
  simp only [Try.cells64, Try.cellsSl, List.drop_zero, List.take_succ_cons, List.take_zero, List.drop_succ_cons] at h0 h1
  obtain ⟨k, e0, _, hw⟩ := DataW.trod_int Try.underlying22 h0
  simp only [List.cons.injEq, and_true] at e0
  subst e0
  have hbd := bounds_u64 hw
  obtain ⟨A, m, c, l, rfl, hkc, hc, hnil, hl, hl64, hr⟩ := list_open h1
  refine ⟨⟨k.toNat, A, m, c, l⟩, ?_, rfl, ⟨hl, hkc, hnil, by show k.toNat < _; omega, hl64, hr⟩, by show m ≤ _; omega⟩
  congr 1; show k = ((k.toNat : Nat) : Int); omega
theorem u64_cell {fuel : Nat} {c0 : Value} {y : DataW H × List MemPlace} (h : DataW.trod enc Try.prog w base spare held fuel 22 [c0] = some y) : ∃ m : Nat, c0 = .int .u64 (m : Int) ∧ m < 18446744073709551616 := by
  obtain ⟨k, e0, _, hw⟩ := DataW.trod_int Try.underlying22 h
  simp only [List.cons.injEq, and_true] at e0
  subst e0
  have hbd := bounds_u64 hw
  exact ⟨k.toNat, by congr 1; omega, by omega⟩

theorem four_open {r : Reach} {b0 : Nat} {v : Value} {d : DataW H} {p : List MemPlace} (hv : Value.okWide Try.prog w r b0 41 v) (h : DataW.Trod enc Try.prog w base spare held 41 v d p) :
    ∃ (x y : LV) (n m : Nat), v = .agg #[.int .u64 (x.low : Int), .slice x.A x.n x.c, .int .u64 (y.low : Int), .slice y.A y.n y.c, .int .u64 (n : Int), .int .u64 (m : Int)] ∧ x.In w ∧ y.In w ∧ x.n ≤ 9223372036854775807 ∧ y.n ≤ 9223372036854775807 ∧ n < 18446744073709551616 ∧ m < 18446744073709551616 := by
  obtain ⟨cs, rfl, hsz⟩ := okWide_struct Try.underlying41 hv
  obtain ⟨l⟩ := cs
  match l, hsz.trans Try.cellsFour with
  | [c0, c1, c2, c3, c4, c5], _ =>
    obtain ⟨fuel, hf⟩ := h
    obtain ⟨xs, n, _, _, _, hlen, hg⟩ := DataW.trod_struct Try.underlying41 hf
    match xs, hlen with
    | [y0, y1, y2, y3], _ =>
      have g0 : DataW.trod enc Try.prog w base spare held n 25 [c0, c1] = some y0 := by simpa [Value.cells, Try.cellsLs] using hg 0 _ rfl
      have g1 : DataW.trod enc Try.prog w base spare held n 25 [c2, c3] = some y1 := by simpa [Value.cells, Try.cellsLs] using hg 1 _ rfl
      have g2 : DataW.trod enc Try.prog w base spare held n 22 [c4] = some y2 := by simpa [Value.cells, Try.cells64] using hg 2 _ rfl
      have g3 : DataW.trod enc Try.prog w base spare held n 22 [c5] = some y3 := by simpa [Value.cells, Try.cells64] using hg 3 _ rfl
      obtain ⟨x, rfl, rfl, hx, hxn⟩ := lsns_cells g0
      obtain ⟨y, rfl, rfl, hy, hyn⟩ := lsns_cells g1
      obtain ⟨a, rfl, ha⟩ := u64_cell g2
      obtain ⟨b, rfl, hb⟩ := u64_cell g3
      exact ⟨x, y, a, b, rfl, hx, hy, hxn, hyn, ha, hb⟩
end

end Go.Proofs.Ytkcjhkhdpafjhaa
