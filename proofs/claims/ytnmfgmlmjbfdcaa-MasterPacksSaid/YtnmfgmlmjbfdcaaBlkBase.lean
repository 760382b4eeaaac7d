/-
  A device in memory: its own block, its two rows of bytes, the pending writes; and what a call leaves alone.
-/
import Derived.Test.YtnmfgmlmjbfdcaaChecked
import Derived.Test.YtnmfgmlmjbfdcaaBlkMath
import Derived.WalkSpells
import Derived.BigQuiet
import Derived.Deep.QuietTactic
import Derived.StillTailTactics
import Derived.Deep.RegionHeld3
import Derived.Deep.RegionLaw
import Derived.Lib.SliceRun
import Derived.Lib.Strings
import Derived.Lib.Walk
import Derived.Lib.UnsafeStr
import Derived.Laws.MakeOwn
namespace Go.Proofs.Ytnmfgmlmjbfdcaa
open Go.RowKit

/-- Only blocks of F have turned; others have come. -/
structure Only (F : Nat → Prop) (w w' : World) : Prop where
  os : w'.os = w.os
  tape : w'.tape = w.tape
  output : w'.output = w.output
  size : w.heap.size ≤ w'.heap.size
  block : ∀ k, k < w.heap.size → ¬ F k → w'.heap[k]? = w.heap[k]?

section
variable {F G : Nat → Prop} {w w' w'' : World}
theorem Only.refl (F : Nat → Prop) (w : World) : Only F w w := ⟨rfl, rfl, rfl, Nat.le_refl _, fun _ _ _ => rfl⟩
theorem Only.trans (h : Only F w w') (k : Only F w' w'') : Only F w w'' :=
  ⟨k.os.trans h.os, k.tape.trans h.tape, k.output.trans h.output, Nat.le_trans h.size k.size, fun i hi hn => (k.block i (Nat.lt_of_lt_of_le hi h.size) hn).trans (h.block i hi hn)⟩
theorem Only.imp (h : Only F w w') (hi : ∀ k, k < w.heap.size → F k → G k) : Only G w w' := ⟨h.os, h.tape, h.output, h.size, fun k hk hn => h.block k hk fun hf => hn (hi k hk hf)⟩
/-- What a second call turns may have come with the first. -/
theorem Only.then (h : Only F w w') (k : Only G w' w'') (hi : ∀ x, x < w.heap.size → G x → F x) : Only F w w'' :=
  ⟨k.os.trans h.os, k.tape.trans h.tape, k.output.trans h.output, Nat.le_trans h.size k.size, fun i hl hn => (k.block i (Nat.lt_of_lt_of_le hl h.size) (fun hg => hn (hi i hl hg))).trans (h.block i hl hn)⟩
theorem Only.below (h : Below w.heap.size w w') (F : Nat → Prop) : Only F w w' := ⟨h.os, h.tape, h.output, h.size, fun k hk _ => h.block k hk⟩
theorem Only.toBelow (h : Only F w w') (hF : ∀ k, k < w.heap.size → ¬ F k) : Below w.heap.size w w' := ⟨h.os, h.tape, h.output, h.size, fun k hk => h.block k hk (hF k hk)⟩
theorem Only.alloc (h : Only F w w') (o : Obj) : Only F w (w'.alloc o) := h.trans (Only.below ((Below.refl _ _).alloc (Nat.le_refl _) o) F)
theorem Only.drewN (h : Only F w w') (n : Nat) : Only F w (w'.drewN n) := ⟨h.os, h.tape, h.output, h.size, h.block⟩
theorem Only.drew (h : Only F w w') : Only F w w'.drew := ⟨h.os, h.tape, h.output, h.size, h.block⟩
theorem Only.setRow (h : Only F w w') {g : Nat} (hg : F g) (cs : Array Value) : Only F w (w'.setRow g cs) :=
  h.trans ⟨rfl, rfl, rfl, by simp [World.setRow], fun k _ hn => setRow_other w' g k cs (fun e => hn (e ▸ hg))⟩
theorem Only.setCell (h : Only F w w') {p : Addr} (hg : F p.block) (u : Value) : Only F w (w'.setCell p u) :=
  h.trans ⟨rfl, rfl, rfl, by simp [World.setCell], fun k _ hn => Below.heap_setCell w' p u k (fun e => hn (e ▸ hg))⟩
theorem Only.setNew (h : Only F w w') {p : Addr} (hg : w.heap.size ≤ p.block) (u : Value) : Only F w (w'.setCell p u) :=
  ⟨h.os, h.tape, h.output, by simpa [World.setCell] using h.size, fun k hk hn => (Below.heap_setCell w' p u k (by omega)).trans (h.block k hk hn)⟩
theorem Only.grown (h : Only F w w') {r : Option Nat} (hg : w'.grownBy w'' r) (hr : ∀ k, r = some k → F k) : Only F w w'' :=
  h.trans ⟨hg.os, hg.tape, hg.output, hg.size, fun k hk hn => hg.block k hk (fun e => hn (hr k e.symm))⟩
theorem Row.only {g : Nat} {t : TypeId} {cs : List Value} {m : Nat × Nat} (h : Row w g t cs m) (ho : Only F w w') (hF : ¬ F g) : Row w' g t cs m := (ho.block g h.lt hF).trans h
theorem Row.setRow_ {g : Nat} {t : TypeId} {old cs : List Value} {m : Nat × Nat} (h : Row w g t old m) : Row (w.setRow g cs.toArray) g t cs m := setRow_heap w g old.toArray cs.toArray t m h
theorem Row.setRowFar_ {g k : Nat} {t : TypeId} {old : List Value} {m : Nat × Nat} (h : Row w k t old m) (hk : k ≠ g) (cs : Array Value) : Row (w.setRow g cs) k t old m := (setRow_other w g k cs hk).trans h
theorem ownsRow_only {base : Nat} {e : TypeId} {sz n : Nat} {v : Value} {xs : List Value} (h : w.ownsRow base e sz v n xs) (ho : Only F w w') (hF : ∀ k, v.ownBlock = some k → ¬ F k) : w'.ownsRow base e sz v n xs := by
  refine ⟨h.1, ?_⟩
  rcases h.2 with h2 | ⟨g, cap, cur, rfl, hb, hg, hr⟩
  · exact .inl h2
  · exact .inr ⟨g, cap, cur, rfl, hb, (ho.block g (lt_of_block hg) (hF g rfl)).trans hg, hr⟩
end

/-- The cells of pending writes. -/
def pvs (l : List (Nat × ByteArray)) : List Value := l.flatMap fun p => [.int .i64 (p.1 : Int), .string p.2]
theorem pvs_length (l : List (Nat × ByteArray)) : (pvs l).length = l.length * 2 := by
  induction l with
  | nil => rfl
  | cons p l ih =>
    have : pvs (p :: l) = .int .i64 (p.1 : Int) :: .string p.2 :: pvs l := rfl
    rw [this, List.length_cons, List.length_cons, ih, List.length_cons]; omega
theorem pvs_append (a b : List (Nat × ByteArray)) : pvs (a ++ b) = pvs a ++ pvs b := by simp [pvs]
theorem pvs_get : ∀ (l : List (Nat × ByteArray)) (i : Nat) (h : i < l.length), (pvs l)[i * 2]? = some (.int .i64 (l[i].1 : Int)) ∧ (pvs l)[i * 2 + 1]? = some (.string l[i].2)
  | p :: l, 0, _ => ⟨rfl, rfl⟩
  | p :: l, i + 1, h => by
    have e : pvs (p :: l) = .int .i64 (p.1 : Int) :: .string p.2 :: pvs l := rfl
    have := pvs_get l i (by simpa using h)
    rw [e]
    rw [show (i + 1) * 2 = i * 2 + 1 + 1 by omega]
    simpa using this
theorem pvs_one (l : List (Nat × ByteArray)) : ∀ u ∈ pvs l, u.oneCell' = true := by
  intro u hu
  obtain ⟨p, _, hp⟩ := List.mem_flatMap.1 hu
  simp at hp
  rcases hp with rfl | rfl <;> rfl

/-- A device: where it lies, and what it is. -/
structure DV where
  A : Nat
  V : Nat
  U : Nat
  cv : Nat
  cu : Nat
  p : Value
  X : List Value
  Y : List Value
  nb : Nat
  ns : Nat
  vis : List UInt8
  dur : List UInt8
  pend : List (Nat × ByteArray)

namespace DV
/-- The number of a block's bytes, and of all. -/
abbrev sz (d : DV) : Nat := d.ns * 64
abbrev all (d : DV) : Nat := d.nb * (d.ns * 64)
def ptr (d : DV) : Value := .pointer (some ⟨d.A, 0, none⟩)
def cells (d : DV) : List Value := [.int .i64 (d.nb : Int), .int .i64 ((d.ns * 64 : Nat) : Int), .slice (some ⟨d.V, 0, none⟩) d.all d.cv, .slice (some ⟨d.U, 0, none⟩) d.all d.cu, d.p]
/-- The blocks that it lies in. -/
def mine (d : DV) (k : Nat) : Prop := k = d.A ∨ k = d.V ∨ k = d.U ∨ d.p.ownBlock = some k

/-- Its own block and the pending writes. -/
structure Top (d : DV) (w : World) : Prop where
  dev : Row w d.A 94 d.cells (0, 0)
  own : w.ownsRow 0 107 2 d.p d.pend.length (pvs d.pend)
  cv : d.all ≤ d.cv
  cu : d.all ≤ d.cu
  cvm : d.cv ≤ 9223372036854775807
  cum : d.cu ≤ 9223372036854775807
  nb1 : 1 ≤ d.nb
  nb2 : d.nb ≤ 1000
  ns1 : 1 ≤ d.ns
  ns2 : d.ns ≤ 256
  fits : ∀ q ∈ d.pend, q.1 < d.nb ∧ q.2.size ≤ d.sz
structure In (d : DV) (w : World) : Prop extends Top d w where
  vis : Row w d.V 5 (byt d.vis ++ d.X) (0, 0)
  dur : Row w d.U 5 (byt d.dur ++ d.Y) (0, 0)
  ne : d.V ≠ d.U
  lv : d.vis.length = d.all
  ld : d.dur.length = d.all
  same : ∀ b, b < d.nb → b ∉ d.pend.map (·.1) → seg d.vis (b * d.sz) d.sz = seg d.dur (b * d.sz) d.sz

section
variable {d : DV} {w w' : World} {F : Nat → Prop}
theorem Top.only (h : d.Top w) (ho : Only F w w') (hA : ¬ F d.A) (hp : ∀ k, d.p.ownBlock = some k → ¬ F k) : d.Top w' :=
  { h with dev := h.dev.only ho hA, own := ownsRow_only h.own ho hp }
theorem Top.keeps (h : d.Top w) (hb : Below w.heap.size w w') : d.Top w' := h.only (Only.below hb fun _ => False) (fun hf => hf) fun _ _ hf => hf
theorem Top.drewN (h : d.Top w) (n : Nat) : d.Top (w.drewN n) := h.keeps ⟨rfl, rfl, rfl, Nat.le_refl _, fun _ _ => rfl⟩
theorem Top.alloc (h : d.Top w) (o : Obj) : d.Top (w.alloc o) := h.keeps ((Below.refl _ _).alloc (Nat.le_refl _) o)
theorem Top.c0 (h : d.Top w) : w.cell? ⟨d.A, 0, none⟩ = some (.int .i64 (d.nb : Int)) := h.dev.cell 0
theorem Top.c1 (h : d.Top w) : w.cell? ⟨d.A, 1, none⟩ = some (.int .i64 ((d.ns * 64 : Nat) : Int)) := h.dev.cell 1
theorem Top.c2 (h : d.Top w) : w.cell? ⟨d.A, 2, none⟩ = some (.slice (some ⟨d.V, 0, none⟩) d.all d.cv) := h.dev.cell 2
theorem Top.c3 (h : d.Top w) : w.cell? ⟨d.A, 3, none⟩ = some (.slice (some ⟨d.U, 0, none⟩) d.all d.cu) := h.dev.cell 3
theorem Top.c4 (h : d.Top w) : w.cell? ⟨d.A, 4, none⟩ = some d.p := h.dev.cell 4
theorem Top.free (h : d.Top w) (i : Nat) : w.frozen? ⟨d.A, i, none⟩ = false := h.dev.loose i
theorem Top.szLe (h : d.Top w) : d.sz ≤ 16384 := by have := h.ns2; show d.ns * 64 ≤ _; omega
theorem Top.allLe (h : d.Top w) : d.all ≤ 16384000 := by
  have h1 := h.nb2
  have h2 : d.ns * 64 ≤ 16384 := h.szLe
  have := Nat.mul_le_mul h1 h2
  exact this
theorem Top.pBlock (h : d.Top w) {k : Nat} (hk : d.p.ownBlock = some k) : ∃ cs, Row w k 107 cs (0, 0) := by
  rcases h.own.2 with ⟨h2, _⟩ | ⟨g, cap, cur, h2, _, hg, _⟩
  · rw [h2] at hk; cases hk
  · rw [h2] at hk
    injection hk with hk
    subst hk
    exact ⟨cur.toList, hg⟩
theorem Top.pNe (h : d.Top w) {g : Nat} {t : TypeId} {cs : List Value} {m : Nat × Nat} (hr : Row w g t cs m) (ht : t ≠ 107) : d.p.ownBlock ≠ some g := fun hk => by
  obtain ⟨cs, hr2⟩ := h.pBlock hk
  exact hr.ne_ hr2 ht rfl
theorem Top.pA (h : d.Top w) : d.p.ownBlock ≠ some d.A := h.pNe h.dev (by decide)
/-- The pending writes' slice: nil, or one of its own. -/
theorem Top.pend (h : d.Top w) : (d.p = .slice none 0 0 ∧ d.pend = []) ∨ ∃ g cap, d.p = .slice (some ⟨g, 0, none⟩) d.pend.length cap ∧ d.pend.length ≤ cap ∧ cap ≤ maxLen ∧
    ∀ (i : Nat) (hi : i < d.pend.length), w.cell? ⟨g, i * 2, none⟩ = some (.int .i64 (d.pend[i].1 : Int)) ∧ w.cell? ⟨g, i * 2 + 1, none⟩ = some (.string d.pend[i].2) := by
  rcases h.own.2 with ⟨h2, h3⟩ | ⟨g, cap, cur, h2, _, hg, hc, hm, hs, ht⟩
  · exact .inl ⟨h2, List.eq_nil_of_length_eq_zero h3⟩
  · refine .inr ⟨g, cap, h2, hc, hm, fun i hi => ?_⟩
    have hr : Row w g 107 cur.toList (0, 0) := hg
    have key : ∀ j, j < d.pend.length * 2 → w.cell? ⟨g, j, none⟩ = (pvs d.pend)[j]? := fun j hj => by
      rw [hr.cell, ← ht, List.getElem?_take, if_pos hj]
    have hp := pvs_get d.pend i hi
    exact ⟨(key _ (by omega)).trans hp.1, (key _ (by omega)).trans hp.2⟩
theorem Top.AB (h : d.Top w) {g : Nat} {cs : List Value} {m : Nat × Nat} (hr : Row w g 5 cs m) : d.A ≠ g := h.dev.ne_ hr (by decide)

theorem In.mineLt (h : d.In w) : ∀ k, d.mine k → k < w.heap.size := by
  rintro k (rfl | rfl | rfl | hk)
  · exact h.dev.lt
  · exact h.vis.lt
  · exact h.dur.lt
  · exact (h.own.lt k hk).2
theorem In.only (h : d.In w) (ho : Only F w w') (hF : ∀ k, d.mine k → ¬ F k) : d.In w' :=
  { h with
    toTop := h.toTop.only ho (hF _ (.inl rfl)) fun k hk => hF k (.inr (.inr (.inr hk)))
    vis := h.vis.only ho (hF _ (.inr (.inl rfl))), dur := h.dur.only ho (hF _ (.inr (.inr (.inl rfl)))) }
theorem In.keeps (h : d.In w) (hb : Below w.heap.size w w') : d.In w' := h.only (Only.below hb fun _ => False) fun _ _ hf => hf
theorem In.drewN (h : d.In w) (n : Nat) : d.In (w.drewN n) := h.keeps ⟨rfl, rfl, rfl, Nat.le_refl _, fun _ _ => rfl⟩
theorem In.drew (h : d.In w) : d.In w.drew := h.keeps ⟨rfl, rfl, rfl, Nat.le_refl _, fun _ _ => rfl⟩
theorem In.alloc (h : d.In w) (o : Obj) : d.In (w.alloc o) := h.keeps ((Below.refl _ _).alloc (Nat.le_refl _) o)
end
end DV
end Go.Proofs.Ytnmfgmlmjbfdcaa
