/-
  Numbers of 64 bits as cells; a list of them that lies somewhere, and one that lies in memory of its own.
-/
import Derived.Test.YtkcjhkhdpafjhaaProg
import Derived.Test.YtkcjhkhdpafjhaaBase
import Derived.Test.YtkcjhkhdpafjhaaLsnsMath
import Derived.Maps.AppendAt
import Derived.Deep.AppendLies
import Derived.Deep.RegionLaw
import Derived.Deep.DeepCutAuto
import Derived.Laws.AppendOwnNone
import Derived.Laws.StructEq
import Derived.BigQuiet
namespace Go.Proofs.Ytkcjhkhdpafjhaa
open Go.RowKit

def nv (l : List Nat) : List Value := l.map fun n : Nat => .int .u64 (n : Int)
theorem nv_length (l : List Nat) : (nv l).length = l.length := by simp [nv]
theorem nv_append (a b : List Nat) : nv (a ++ b) = nv a ++ nv b := by simp [nv]
theorem nv_get (l : List Nat) (j : Nat) (h : j < l.length) : (nv l)[j]? = some (.int .u64 (l[j] : Int)) := by
  simp [nv, List.getElem?_eq_getElem h]
theorem nv_one (l : List Nat) : ∀ u ∈ nv l, u.oneCell' = true := by
  intro u hu
  obtain ⟨_, _, rfl⟩ := List.mem_map.1 hu
  rfl

/-- The slice with address A and these numbers, wherever they lie. -/
def RN (w : World) (A : Option Addr) (l : List Nat) : Prop :=
  0 < l.length → ∃ T g off cs m, A = some ⟨g, off, none⟩ ∧ Row w g T cs m ∧ ∀ j, j < l.length → cs[off + j]? = (nv l)[j]?

/-- They lie in memory from base on, and may be written. -/
def Own (base : Nat) (w : World) (A : Option Addr) (l : List Nat) : Prop :=
  0 < l.length → ∃ T g off cs, A = some ⟨g, off, none⟩ ∧ base ≤ g ∧ Row w g T cs (0, 0) ∧ ∀ j, j < l.length → cs[off + j]? = (nv l)[j]?

section
variable {w w' : World} {A : Option Addr} {l : List Nat}
theorem RN.nil : RN w A [] := fun h => by simp at h
theorem Own.reads {base : Nat} (h : Own base w A l) : RN w A l := fun h0 => by
  obtain ⟨T, g, off, cs, hA, _, hr, hc⟩ := h h0
  exact ⟨T, g, off, cs, (0, 0), hA, hr, hc⟩
theorem RN.cell (h : RN w A l) {j : Nat} (hj : j < l.length) : ∃ g off, A = some ⟨g, off, none⟩ ∧ w.cell? ⟨g, off + j, none⟩ = some (.int .u64 (l[j] : Int)) := by
  obtain ⟨T, g, off, cs, m, hA, hr, hc⟩ := h (by omega)
  exact ⟨g, off, hA, by rw [hr.cell, hc j hj, nv_get l j hj]⟩
theorem RN.cells (h : RN w A l) (h0 : 0 < l.length) : ∃ g off, A = some ⟨g, off, none⟩ ∧ ∀ j (hj : j < l.length), w.cell? ⟨g, off + j, none⟩ = some (.int .u64 (l[j] : Int)) := by
  obtain ⟨T, g, off, cs, m, hA, hr, hc⟩ := h h0
  exact ⟨g, off, hA, fun j hj => by rw [hr.cell, hc j hj, nv_get l j hj]⟩
theorem RN.below {B : Nat} (h : RN w A l) (hb : Below B w w') (hB : w.heap.size ≤ B) : RN w' A l := fun h0 => by
  obtain ⟨T, g, off, cs, m, hA, hr, hc⟩ := h h0
  exact ⟨T, g, off, cs, m, hA, hr.below hb (Nat.lt_of_lt_of_le hr.lt hB), hc⟩
theorem RN.keeps (h : RN w A l) (hb : Below w.heap.size w w') : RN w' A l := h.below hb (Nat.le_refl _)
theorem RN.alloc (h : RN w A l) (o : Obj) : RN (w.alloc o) A l := fun h0 => by
  obtain ⟨T, g, off, cs, m, hA, hr, hc⟩ := h h0
  exact ⟨T, g, off, cs, m, hA, hr.alloc o, hc⟩
theorem RN.drop (h : RN w A l) (n cap : Nat) (hc : l.length ≤ cap) : RN w (if cap = n then A else A.map (·.add n)) (l.drop n) := fun h0 => by
  rw [List.length_drop] at h0
  obtain ⟨T, g, off, cs, m, rfl, hrow, hcs⟩ := h (by omega)
  rw [if_neg (by omega)]
  refine ⟨T, g, off + n, cs, m, by simp [Addr.add_lit], hrow, fun j hj => ?_⟩
  rw [List.length_drop] at hj
  rw [Nat.add_assoc, hcs (n + j) (by omega)]
  simp only [nv, List.getElem?_map, List.getElem?_drop]
theorem RN.news {ad : Addr} (h : RN w (some ad) l) : ∀ j u, (nv l)[j]? = some u → w.cell? (ad.add j) = some u := by
  intro j u hu
  have hj : j < l.length := by
    have := (List.getElem?_eq_some_iff.1 hu).1
    rwa [nv_length] at this
  obtain ⟨T, g, off, cs, m, hA, hrow, hc⟩ := h (by omega)
  obtain rfl := Option.some.inj hA
  rw [Addr.add_lit, hrow.cell, hc j hj, hu]
theorem RN.none_nil (h : RN w none l) : l = [] := by
  rcases Nat.eq_zero_or_pos l.length with h0 | h0
  · exact List.eq_nil_of_length_eq_zero h0
  · obtain ⟨T, g, off, cs, m, hA, _⟩ := h h0
    cases hA
theorem Own.keeps {base : Nat} (h : Own base w A l) (hb : Below w.heap.size w w') : Own base w' A l := fun h0 => by
  obtain ⟨T, g, off, cs, hA, hg, hr, hc⟩ := h h0
  exact ⟨T, g, off, cs, hA, hg, hr.below hb hr.lt, hc⟩
end

/-- A set of numbers as the program holds it. -/
structure LV where
  low : Nat
  A : Option Addr
  n : Nat
  c : Nat
  l : List Nat

abbrev LV.v (x : LV) : Value := .agg #[.int .u64 (x.low : Int), .slice x.A x.n x.c]
def LV.s (x : LV) : LS := ⟨x.low, x.l⟩

/-- It lies in this world. -/
structure LV.In (w : World) (x : LV) : Prop where
  len : x.l.length = x.n
  cap : x.n ≤ x.c
  nil : x.A = none → x.c = 0
  low : x.low < 18446744073709551616
  ins : ∀ k ∈ x.l, k < 18446744073709551616
  reads : RN w x.A x.l

theorem LV.In.keeps {w w' : World} {x : LV} (h : x.In w) (hb : Below w.heap.size w w') : x.In w' := ⟨h.len, h.cap, h.nil, h.low, h.ins, h.reads.keeps hb⟩
theorem LV.In.alloc {w : World} {x : LV} (h : x.In w) (o : Obj) : x.In (w.alloc o) := ⟨h.len, h.cap, h.nil, h.low, h.ins, h.reads.alloc o⟩
theorem LV.In.below {w w' : World} {x : LV} {B : Nat} (h : x.In w) (hb : Below B w w') (hB : w.heap.size ≤ B) : x.In w' := ⟨h.len, h.cap, h.nil, h.low, h.ins, h.reads.below hb hB⟩

/-- A struct lies whole in a block of its own. -/
def LiesS (w : World) (g : Nat) (low : Nat) (A : Option Addr) (n c : Nat) : Prop := Row w g 25 [.int .u64 (low : Int), .slice A n c] (0, 0)
theorem LiesS.c0 {w : World} {g low n c : Nat} {A : Option Addr} (h : LiesS w g low A n c) : w.cell? ⟨g, 0, none⟩ = some (.int .u64 (low : Int)) := by have := Row.cell h 0; simpa using this
theorem LiesS.c1 {w : World} {g low n c : Nat} {A : Option Addr} (h : LiesS w g low A n c) : w.cell? ⟨g, 1, none⟩ = some (.slice A n c) := by have := Row.cell h 1; simpa using this
theorem LiesS.new (w : World) (low : Nat) (A : Option Addr) (n c : Nat) : LiesS (w.alloc (.cells #[.int .u64 (low : Int), .slice A n c] 25)) w.heap.size low A n c := Row.new w 25 [.int .u64 (low : Int), .slice A n c] (0, 0)
theorem LiesS.keeps {w w' : World} {g low n c : Nat} {A : Option Addr} (h : LiesS w g low A n c) (hb : Below w.heap.size w w') : LiesS w' g low A n c := Row.below h hb (Row.lt h)

theorem size_new (w : World) (o : Obj) : (w.alloc o).heap.size = w.heap.size + 1 := by simp
/-- Nothing that was there is written behind a new block. -/
theorem below_new (w : World) (o : Obj) : Below w.heap.size w (w.alloc o) := (Below.refl _ _).alloc (Nat.le_refl _) _

/-- Nothing of a world is written. -/
def Keep (W wx : World) : Prop := Below W.heap.size W wx
theorem Keep.refl (W : World) : Keep W W := Below.refl _ W
theorem Keep.drewN {W wx : World} (h : Keep W wx) (n : Nat) : Keep W (wx.drewN n) := ⟨h.os, h.tape, h.output, h.size, h.block⟩
theorem Keep.drew {W wx : World} (h : Keep W wx) : Keep W wx.drew := Below.drew h
theorem Keep.alloc {W wx : World} (h : Keep W wx) (o : Obj) : Keep W (wx.alloc o) := Below.alloc h (Below.size h) o
theorem Keep.then {W wx w' : World} (h : Keep W wx) (hb : Below wx.heap.size wx w') : Keep W w' := Below.trans h (hb.mono (Below.size h))
theorem Keep.calls {W wx : World} {P : Program} {f : Nat} {args : Array Value} {v : Value} (hk : Keep W wx) (h : Calls P f args wx fun r w' => r = .returned v ∧ Below wx.heap.size wx w') :
    Calls P f args wx fun r w' => r = .returned v ∧ Keep W w' := h.mono fun _ _ ⟨e, hb⟩ => ⟨e, hk.then hb⟩
theorem LiesS.keep {w w' : World} {g low n c : Nat} {A : Option Addr} (h : LiesS w g low A n c) (hb : Keep w w') : LiesS w' g low A n c := h.keeps hb
theorem RN.keep {w w' : World} {A : Option Addr} {l : List Nat} (h : RN w A l) (hb : Keep w w') : RN w' A l := h.keeps hb

end Go.Proofs.Ytkcjhkhdpafjhaa
