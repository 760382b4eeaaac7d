/-
  A device in memory: its own block, its two rows of bytes, the pending writes; and what a call leaves alone.
-/
import Derived.Test.YtnmfgmlmjbfdcaaChecked
import Derived.Test.YtnmfgmlmjbfdcaaBlkMath
import Derived.WalkSpells
import Derived.BigQuiet
import Derived.Deep.QuietTactic
import Derived.StillTailTactics
import Derived.Deep.RegionHeld3
import Derived.Deep.RegionLaw
import Derived.Lib.SliceRun
import Derived.Lib.Strings
import Derived.Lib.Walk
import Derived.Lib.UnsafeStr
import Derived.Laws.MakeOwn
import Derived.Lib.BufferWrite
namespace Go.Proofs.Ytnmfgmlmjbfdcaa
open Go.RowKit

/-- Only blocks of F have turned; others have come. -/
structure Only (F : Nat → Prop) (w w' : World) : Prop where
  os : w'.os = w.os
  tape : w'.tape = w.tape
  output : w'.output = w.output
  size : w.heap.size ≤ w'.heap.size
  block : ∀ k, k < w.heap.size → ¬ F k → w'.heap[k]? = w.heap[k]?

section
variable {F G : Nat → Prop} {w w' w'' : World}
theorem Only.refl (F : Nat → Prop) (w : World) : Only F w w := ⟨rfl, rfl, rfl, Nat.le_refl _, fun _ _ _ => rfl⟩
theorem Only.trans (h : Only F w w') (k : Only F w' w'') : Only F w w'' :=
  ⟨k.os.trans h.os, k.tape.trans h.tape, k.output.trans h.output, Nat.le_trans h.size k.size, fun i hi hn => (k.block i (Nat.lt_of_lt_of_le hi h.size) hn).trans (h.block i hi hn)⟩
theorem Only.imp (h : Only F w w') (hi : ∀ k, k < w.heap.size → F k → G k) : Only G w w' := ⟨h.os, h.tape, h.output, h.size, fun k hk hn => h.block k hk fun hf => hn (hi k hk hf)⟩
/-- What a second call turns may have come with the first. -/
theorem Only.then (h : Only F w w') (k : Only G w' w'') (hi : ∀ x, x < w.heap.size → G x → F x) : Only F w w'' :=
  ⟨k.os.trans h.os, k.tape.trans h.tape, k.output.trans h.output, Nat.le_trans h.size k.size, fun i hl hn => (k.block i (Nat.lt_of_lt_of_le hl h.size) (fun hg => hn (hi i hl hg))).trans (h.block i hl hn)⟩
theorem Only.below (h : Below w.heap.size w w') (F : Nat → Prop) : Only F w w' := ⟨h.os, h.tape, h.output, h.size, fun k hk _ => h.block k hk⟩
theorem Only.toBelow (h : Only F w w') (hF : ∀ k, k < w.heap.size → ¬ F k) : Below w.heap.size w w' := ⟨h.os, h.tape, h.output, h.size, fun k hk => h.block k hk (hF k hk)⟩
theorem Only.alloc (h : Only F w w') (o : Obj) : Only F w (w'.alloc o) := h.trans (Only.below ((Below.refl _ _).alloc (Nat.le_refl _) o) F)
theorem Only.drewN (h : Only F w w') (n : Nat) : Only F w (w'.drewN n) := ⟨h.os, h.tape, h.output, h.size, h.block⟩
theorem Only.drew (h : Only F w w') : Only F w w'.drew := ⟨h.os, h.tape, h.output, h.size, h.block⟩
theorem Only.setRow (h : Only F w w') {g : Nat} (hg : F g) (cs : Array Value) : Only F w (w'.setRow g cs) :=
  h.trans ⟨rfl, rfl, rfl, by simp [World.setRow], fun k _ hn => setRow_other w' g k cs (fun e => hn (e ▸ hg))⟩
theorem Only.setCell (h : Only F w w') {p : Addr} (hg : F p.block) (u : Value) : Only F w (w'.setCell p u) :=
  h.trans ⟨rfl, rfl, rfl, by simp [World.setCell], fun k _ hn => Below.heap_setCell w' p u k (fun e => hn (e ▸ hg))⟩
theorem Only.setNew (h : Only F w w') {p : Addr} (hg : w.heap.size ≤ p.block) (u : Value) : Only F w (w'.setCell p u) :=
  ⟨h.os, h.tape, h.output, by simpa [World.setCell] using h.size, fun k hk hn => (Below.heap_setCell w' p u k (by omega)).trans (h.block k hk hn)⟩
theorem Only.grown (h : Only F w w') {r : Option Nat} (hg : w'.grownBy w'' r) (hr : ∀ k, r = some k → F k) : Only F w w'' :=
  h.trans ⟨hg.os, hg.tape, hg.output, hg.size, fun k hk hn => hg.block k hk (fun e => hn (hr k e.symm))⟩
theorem Row.only {g : Nat} {t : TypeId} {cs : List Value} {m : Nat × Nat} (h : Row w g t cs m) (ho : Only F w w') (hF : ¬ F g) : Row w' g t cs m := (ho.block g h.lt hF).trans h
theorem Row.setRow_ {g : Nat} {t : TypeId} {old cs : List Value} {m : Nat × Nat} (h : Row w g t old m) : Row (w.setRow g cs.toArray) g t cs m := setRow_heap w g old.toArray cs.toArray t m h
theorem Row.setRowFar_ {g k : Nat} {t : TypeId} {old : List Value} {m : Nat × Nat} (h : Row w k t old m) (hk : k ≠ g) (cs : Array Value) : Row (w.setRow g cs) k t old m := (setRow_other w g k cs hk).trans h
theorem ownsRow_only {base : Nat} {e : TypeId} {sz n : Nat} {v : Value} {xs : List Value} (h : w.ownsRow base e sz v n xs) (ho : Only F w w') (hF : ∀ k, v.ownBlock = some k → ¬ F k) : w'.ownsRow base e sz v n xs := by
  refine ⟨h.1, ?_⟩
  rcases h.2 with h2 | ⟨g, cap, cur, rfl, hb, hg, hr⟩
  · exact .inl h2
  · exact .inr ⟨g, cap, cur, rfl, hb, (ho.block g (lt_of_block hg) (hF g rfl)).trans hg, hr⟩
end

/-- The cells of pending writes. -/
def pvs (l : List (Nat × ByteArray)) : List Value := l.flatMap fun p => [.int .i64 (p.1 : Int), .string p.2]
theorem pvs_length (l : List (Nat × ByteArray)) : (pvs l).length = l.length * 2 := by
  induction l with
  | nil => rfl
  | cons p l ih =>
    have : pvs (p :: l) = .int .i64 (p.1 : Int) :: .string p.2 :: pvs l := rfl
    rw [this, List.length_cons, List.length_cons, ih, List.length_cons]; omega
theorem pvs_append (a b : List (Nat × ByteArray)) : pvs (a ++ b) = pvs a ++ pvs b := by simp [pvs]
theorem pvs_get : ∀ (l : List (Nat × ByteArray)) (i : Nat) (h : i < l.length), (pvs l)[i * 2]? = some (.int .i64 (l[i].1 : Int)) ∧ (pvs l)[i * 2 + 1]? = some (.string l[i].2)
  | p :: l, 0, _ => ⟨rfl, rfl⟩
  | p :: l, i + 1, h => by
    have e : pvs (p :: l) = .int .i64 (p.1 : Int) :: .string p.2 :: pvs l := rfl
    have := pvs_get l i (by simpa using h)
    rw [e]
    rw [show (i + 1) * 2 = i * 2 + 1 + 1 by omega]
    simpa using this
theorem pvs_one (l : List (Nat × ByteArray)) : ∀ u ∈ pvs l, u.oneCell' = true := by
  intro u hu
  obtain ⟨p, _, hp⟩ := List.mem_flatMap.1 hu
  simp at hp
  rcases hp with rfl | rfl <;> rfl

/-- A device: where it lies, and what it is. -/
structure DV where
  A : Nat
  V : Nat
  U : Nat
  cv : Nat
  cu : Nat
  p : Value
  X : List Value
  Y : List Value
  nb : Nat
  ns : Nat
  vis : List UInt8
  dur : List UInt8
  pend : List (Nat × ByteArray)

namespace DV
/-- The number of a block's bytes, and of all. -/
abbrev sz (d : DV) : Nat := d.ns * 64
abbrev all (d : DV) : Nat := d.nb * (d.ns * 64)
def ptr (d : DV) : Value := .pointer (some ⟨d.A, 0, none⟩)
def cells (d : DV) : List Value := [.int .i64 (d.nb : Int), .int .i64 ((d.ns * 64 : Nat) : Int), .slice (some ⟨d.V, 0, none⟩) d.all d.cv, .slice (some ⟨d.U, 0, none⟩) d.all d.cu, d.p]
/-- The blocks that it lies in. -/
def mine (d : DV) (k : Nat) : Prop := k = d.A ∨ k = d.V ∨ k = d.U ∨ d.p.ownBlock = some k

/-- Its own block and the pending writes. -/
structure Top (d : DV) (w : World) : Prop where
  dev : Row w d.A 94 d.cells (0, 0)
  own : w.ownsRow 0 107 2 d.p d.pend.length (pvs d.pend)
  cv : d.all ≤ d.cv
  cu : d.all ≤ d.cu
  cvm : d.cv ≤ 9223372036854775807
  cum : d.cu ≤ 9223372036854775807
  nb1 : 1 ≤ d.nb
  nb2 : d.nb ≤ 1000
  ns1 : 1 ≤ d.ns
  ns2 : d.ns ≤ 256
  fits : ∀ q ∈ d.pend, q.1 < d.nb ∧ q.2.size ≤ d.sz
structure In (d : DV) (w : World) : Prop extends Top d w where
  vis : Row w d.V 5 (byt d.vis ++ d.X) (0, 0)
  dur : Row w d.U 5 (byt d.dur ++ d.Y) (0, 0)
  ne : d.V ≠ d.U
  lv : d.vis.length = d.all
  ld : d.dur.length = d.all
  same : ∀ b, b < d.nb → b ∉ d.pend.map (·.1) → seg d.vis (b * d.sz) d.sz = seg d.dur (b * d.sz) d.sz

section
variable {d : DV} {w w' : World} {F : Nat → Prop}
theorem Top.only (h : d.Top w) (ho : Only F w w') (hA : ¬ F d.A) (hp : ∀ k, d.p.ownBlock = some k → ¬ F k) : d.Top w' :=
  { h with dev := h.dev.only ho hA, own := ownsRow_only h.own ho hp }
theorem Top.keeps (h : d.Top w) (hb : Below w.heap.size w w') : d.Top w' := h.only (Only.below hb fun _ => False) (fun hf => hf) fun _ _ hf => hf
theorem Top.drewN (h : d.Top w) (n : Nat) : d.Top (w.drewN n) := h.keeps ⟨rfl, rfl, rfl, Nat.le_refl _, fun _ _ => rfl⟩
theorem Top.alloc (h : d.Top w) (o : Obj) : d.Top (w.alloc o) := h.keeps ((Below.refl _ _).alloc (Nat.le_refl _) o)
theorem Top.c0 (h : d.Top w) : w.cell? ⟨d.A, 0, none⟩ = some (.int .i64 (d.nb : Int)) := h.dev.cell 0
theorem Top.c1 (h : d.Top w) : w.cell? ⟨d.A, 1, none⟩ = some (.int .i64 ((d.ns * 64 : Nat) : Int)) := h.dev.cell 1
theorem Top.c2 (h : d.Top w) : w.cell? ⟨d.A, 2, none⟩ = some (.slice (some ⟨d.V, 0, none⟩) d.all d.cv) := h.dev.cell 2
theorem Top.c3 (h : d.Top w) : w.cell? ⟨d.A, 3, none⟩ = some (.slice (some ⟨d.U, 0, none⟩) d.all d.cu) := h.dev.cell 3
theorem Top.c4 (h : d.Top w) : w.cell? ⟨d.A, 4, none⟩ = some d.p := h.dev.cell 4
theorem Top.free (h : d.Top w) (i : Nat) : w.frozen? ⟨d.A, i, none⟩ = false := h.dev.loose i
theorem Top.szLe (h : d.Top w) : d.sz ≤ 16384 := by have := h.ns2; show d.ns * 64 ≤ _; omega
theorem Top.allLe (h : d.Top w) : d.all ≤ 16384000 := by
  have h1 := h.nb2
  have h2 : d.ns * 64 ≤ 16384 := h.szLe
  have := Nat.mul_le_mul h1 h2
  exact this
theorem Top.pBlock (h : d.Top w) {k : Nat} (hk : d.p.ownBlock = some k) : ∃ cs, Row w k 107 cs (0, 0) := by
  rcases h.own.2 with ⟨h2, _⟩ | ⟨g, cap, cur, h2, _, hg, _⟩
  · rw [h2] at hk; cases hk
  · rw [h2] at hk
    injection hk with hk
    subst hk
    exact ⟨cur.toList, hg⟩
theorem Top.pNe (h : d.Top w) {g : Nat} {t : TypeId} {cs : List Value} {m : Nat × Nat} (hr : Row w g t cs m) (ht : t ≠ 107) : d.p.ownBlock ≠ some g := fun hk => by
  obtain ⟨cs, hr2⟩ := h.pBlock hk
  exact hr.ne_ hr2 ht rfl
theorem Top.pA (h : d.Top w) : d.p.ownBlock ≠ some d.A := h.pNe h.dev (by decide)
/-- The pending writes' slice: nil, or one of its own. -/
theorem Top.pend (h : d.Top w) : (d.p = .slice none 0 0 ∧ d.pend = []) ∨ ∃ g cap, d.p = .slice (some ⟨g, 0, none⟩) d.pend.length cap ∧ d.pend.length ≤ cap ∧ cap ≤ maxLen ∧
    ∀ (i : Nat) (hi : i < d.pend.length), w.cell? ⟨g, i * 2, none⟩ = some (.int .i64 (d.pend[i].1 : Int)) ∧ w.cell? ⟨g, i * 2 + 1, none⟩ = some (.string d.pend[i].2) := by
  rcases h.own.2 with ⟨h2, h3⟩ | ⟨g, cap, cur, h2, _, hg, hc, hm, hs, ht⟩
  · exact .inl ⟨h2, List.eq_nil_of_length_eq_zero h3⟩
  · refine .inr ⟨g, cap, h2, hc, hm, fun i hi => ?_⟩
    have hr : Row w g 107 cur.toList (0, 0) := hg
    have key : ∀ j, j < d.pend.length * 2 → w.cell? ⟨g, j, none⟩ = (pvs d.pend)[j]? := fun j hj => by
      rw [hr.cell, ← ht, List.getElem?_take, if_pos hj]
    have hp := pvs_get d.pend i hi
    exact ⟨(key _ (by omega)).trans hp.1, (key _ (by omega)).trans hp.2⟩
theorem Top.AB (h : d.Top w) {g : Nat} {cs : List Value} {m : Nat × Nat} (hr : Row w g 5 cs m) : d.A ≠ g := h.dev.ne_ hr (by decide)

theorem In.mineLt (h : d.In w) : ∀ k, d.mine k → k < w.heap.size := by
  rintro k (rfl | rfl | rfl | hk)
  · exact h.dev.lt
  · exact h.vis.lt
  · exact h.dur.lt
  · exact (h.own.lt k hk).2
theorem In.only (h : d.In w) (ho : Only F w w') (hF : ∀ k, d.mine k → ¬ F k) : d.In w' :=
  { h with
    toTop := h.toTop.only ho (hF _ (.inl rfl)) fun k hk => hF k (.inr (.inr (.inr hk)))
    vis := h.vis.only ho (hF _ (.inr (.inl rfl))), dur := h.dur.only ho (hF _ (.inr (.inr (.inl rfl)))) }
theorem In.keeps (h : d.In w) (hb : Below w.heap.size w w') : d.In w' := h.only (Only.below hb fun _ => False) fun _ _ hf => hf
theorem In.drewN (h : d.In w) (n : Nat) : d.In (w.drewN n) := h.keeps ⟨rfl, rfl, rfl, Nat.le_refl _, fun _ _ => rfl⟩
theorem In.drew (h : d.In w) : d.In w.drew := h.keeps ⟨rfl, rfl, rfl, Nat.le_refl _, fun _ _ => rfl⟩
theorem In.alloc (h : d.In w) (o : Obj) : d.In (w.alloc o) := h.keeps ((Below.refl _ _).alloc (Nat.le_refl _) o)
end
end DV
end Go.Proofs.Ytnmfgmlmjbfdcaa

/-
  The walks over package block: isNone, check, piece, fill, from.
-/
namespace Go.Proofs.Ytnmfgmlmjbfdcaa
open Go.RowKit

set_option maxRecDepth 100000 in
theorem isNone_nil (w : World) : Calls Try.prog 50 #[.pointer none] w fun e w' => e = .returned (.bool true) ∧ w = w' := by
  go_enter Try.func50, Try.ntmps50
  go_wp2
  go_ret
  exact ⟨rfl, rfl⟩

set_option maxRecDepth 100000 in
theorem isNone_zero (A : Nat) (w : World) (h : w.cell? ⟨A, 1, none⟩ = some (.int .i64 0)) : Calls Try.prog 50 #[.pointer (some ⟨A, 0, none⟩)] w fun e w' => e = .returned (.bool true) ∧ w = w' := by
  go_enter Try.func50, Try.ntmps50
  go_wp2
  go_ret
  exact ⟨rfl, rfl⟩

set_option maxRecDepth 100000 in
theorem isNone_any (d : DV) (w : World) (h : d.Top w) : Calls Try.prog 50 #[d.ptr] w fun e w' => e = .returned (.bool false) ∧ w = w' := by
  have c1 := h.c1
  have hn : decide (d.ns * 64 = 0) = false := by have := h.ns1; simp; omega
  have hn2 : 1 ≤ d.ns := h.ns1
  obtain ⟨n, hnn⟩ : ∃ n, n = d.ns * 64 := ⟨_, rfl⟩
  rw [← hnn] at c1 hn
  have hpos : 0 < n := by omega
  clear hnn hn hn2
  unfold DV.ptr
  go_enter Try.func50, Try.ntmps50
  go_wp2
  go_ret
  exact ⟨by simp; omega, rfl⟩

/-- The error of a call that names block b. -/
def chk (d : DV) (b : Int) : Int := if 0 ≤ b ∧ b < d.nb then 0 else 2

set_option maxRecDepth 100000 in
theorem check_nil (b : Int) (w : World) : Calls Try.prog 56 #[.pointer none, .int .i64 b] w fun e w' => e = .returned (.int .i64 1) ∧ w = w' := by
  go_enter Try.func56, Try.ntmps56
  go_wp2_with fail
  refine (isNone_nil _).mono ?_
  rintro e w1 ⟨rfl, rfl⟩
  go_wp2
  go_ret
  exact ⟨rfl, rfl⟩
set_option maxRecDepth 100000 in
theorem check_zero (A : Nat) (b : Int) (w : World) (h : w.cell? ⟨A, 1, none⟩ = some (.int .i64 0)) : Calls Try.prog 56 #[.pointer (some ⟨A, 0, none⟩), .int .i64 b] w fun e w' => e = .returned (.int .i64 1) ∧ w = w' := by
  go_enter Try.func56, Try.ntmps56
  go_wp2_with fail
  refine (isNone_zero A _ h).mono ?_
  rintro e w1 ⟨rfl, rfl⟩
  go_wp2
  go_ret
  exact ⟨rfl, rfl⟩
set_option maxRecDepth 100000 in
theorem check_any (d : DV) (b : Int) (w : World) (h : d.Top w) : Calls Try.prog 56 #[d.ptr, .int .i64 b] w fun e w' => e = .returned (.int .i64 (chk d b)) ∧ w = w' := by
  have HN := Lib.hid (isNone_any d w h)
  have c0 := h.c0
  have HC := Lib.hid (show chk d b = if 0 ≤ b ∧ b < d.nb then 0 else 2 from rfl)
  generalize chk d b = E at *
  unfold DV.ptr at HN ⊢
  go_enter Try.func56, Try.ntmps56
  go_wp2_with fail
  refine HN.out.mono ?_
  rintro e w1 ⟨rfl, rfl⟩
  rcases Int.lt_or_le b 0 with h0 | h0
  · go_wp2
    go_ret
    exact ⟨by rw [HC.out, if_neg (by omega)]; rfl, rfl⟩
  · rcases Int.lt_or_le b d.nb with h1 | h1
    · go_wp2
      go_ret
      exact ⟨by rw [HC.out, if_pos (by omega)]; rfl, rfl⟩
    · go_wp2
      go_ret
      exact ⟨by rw [HC.out, if_neg (by omega)]; rfl, rfl⟩

theorem slice_between {P : Program} {t : TypeId} (ht : P.underlying t = some (.slice (P.elem t))) (hs : ∀ w, (sizeOf (P.elem t)).run P w = .ok 1 w) (B a n c l h : Nat) (h1 : l ≤ h) (h2 : h ≤ c) (h3 : l < c) (w : World) :
    (Instr.slice t (.slice (some ⟨B, a, none⟩) n c) (some (.int .i64 (l : Int))) (some (.int .i64 (h : Int))) none).run P w = .ok (.slice (some ⟨B, a + l, none⟩) (h - l) (c - l)) w := by
  rw [run_slice_lh (w := w) t _ n c ht .i64 .i64 (l : Int) (h : Int) (by omega) (by omega) (by omega), hs]
  simp only [Result.andThen, sliced, Nat.mul_one, Int.toNat_natCast, if_neg (show ¬ c = l by omega), Option.map_some, Addr.add_lit]
theorem mul_wrap {b sz : Nat} (h : b * sz ≤ 100000000) : IntKind.i64.wrap ((b : Int) * (sz : Int)) = ((b * sz : Nat) : Int) := by
  rw [show ((b : Int) * (sz : Int)) = ((b * sz : Nat) : Int) by simp]
  exact IntWalk.i64_in _ (by omega)

set_option maxRecDepth 100000 in
/-- The bytes of a block among those of all. -/
theorem piece_any (d : DV) (B c b : Nat) (w : World) (h : d.Top w) (hb : b < d.nb) (hc : d.all ≤ c) :
    Calls Try.prog 57 #[d.ptr, .slice (some ⟨B, 0, none⟩) d.all c, .int .i64 (b : Int)] w fun e w' => e = .returned (.slice (some ⟨B, b * d.sz, none⟩) d.sz (c - b * d.sz)) ∧ ∃ n, w' = w.drewN n := by
  have c1 := h.c1
  have hin := block_in d.sz hb
  have hall : d.nb * d.sz ≤ 16384000 := h.allLe
  have hs := h.ns1
  have hbm : (b : Int) ≤ 1000 := by have := h.nb2; omega
  have hp : 0 < d.sz := by show 0 < d.ns * 64; omega
  have hc' : d.nb * d.sz ≤ c := hc
  unfold DV.ptr
  show Calls Try.prog 57 #[.pointer (some ⟨d.A, 0, none⟩), .slice (some ⟨B, 0, none⟩) (d.nb * d.sz) c, .int .i64 (b : Int)] w _
  replace c1 : w.cell? ⟨d.A, 1, none⟩ = some (.int .i64 (d.sz : Int)) := c1
  have h2 : (b + 1) * d.sz = b * d.sz + d.sz := Nat.succ_mul _ _
  generalize d.nb * d.sz = N at *
  generalize d.sz = sz at *
  have e1 := mul_wrap (b := b) (sz := sz) (by omega)
  have e2 : IntKind.i64.wrap (((b : Int) + 1) * (sz : Int)) = ((b * sz + sz : Nat) : Int) := by
    have := mul_wrap (b := b + 1) (sz := sz) (by omega)
    rw [h2] at this
    rw [← this]; simp
  generalize b * sz = o at *
  clear h2 hc h
  have e0 : IntKind.i64.wrap ((b : Int) + 1) = (b : Int) + 1 := IntWalk.i64_in _ (by omega)
  have hsl := slice_between (P := Try.prog) (t := 69) Try.underlying69 (fun w => by kernel_rfl) B 0 N c o (o + sz) (by omega) (by omega) (by omega)
  rw [show o + sz - o = sz by omega, Nat.zero_add] at hsl
  go_enter Try.func57, Try.ntmps57
  go_wp2_with fail
  go_quiet (fail)
  go_wp2
  go_ret
  refine ⟨?_, _, rfl⟩
  show Ending.returned (.slice (some ⟨B, o, none⟩) (o + sz - o) (c - o)) = _
  rw [show o + sz - o = sz by omega]

set_option maxRecDepth 100000 in
theorem Try.u8size : (Try.prog.info? 5).map (·.size) = some 1 := by kernel_rfl
set_option maxRecDepth 100000 in
theorem Try.u8zero (w : World) : (zeroValue 5).run Try.prog w = .ok (.int .u8 0) w := by kernel_rfl

/-- copy(b, s): as many bytes as there is room for. -/
theorem run_copy_str {P : Program} (w : World) (dT sT ty elem : TypeId) (g o n c : Nat) (s : ByteArray) (L : List Value) (t : TypeId)
    (hu : P.underlying dT = some (.slice elem)) (hs : (P.info? elem).map (·.size) = some 1) (hg : Row w g t L (0, 0)) (hfit : o + n ≤ L.length) :
    (Builtin.copy_ #[dT, sT] ty #[.slice (some ⟨g, o, none⟩) n c, .string s]).run P w = .ok (.int .i64 ((min s.size n : Nat) : Int)) (w.setRow g (splice L o (byt ((txt s).take n))).toArray) := by
  have hlen : (byt ((txt s).take n)).length = min s.size n := by rw [byt_length, List.length_take, txt_length]; omega
  have hst := run_storeCells_at P g o t (byt ((txt s).take n)) 0 L.toArray w hg (by rw [hlen]; simp; omega) (byt_one _)
  have htk : List.take (min s.size n) (List.map (fun b : UInt8 => Value.int IntKind.u8 (b.toNat : Int)) s.data.toList) = byt ((txt s).take n) := by
    rw [byt_take]
    show List.take (min s.size n) (byt (txt s)) = _
    rcases Nat.le_total s.size n with h | h
    · rw [Nat.min_eq_left h, List.take_of_length_le (by rw [byt_length, txt_length]; exact Nat.le_refl _), List.take_of_length_le (by rw [byt_length, txt_length]; exact h)]
    · rw [Nat.min_eq_right h]
  simp only [Nat.add_zero, List.append_assoc] at hst
  have hst2 : (storeCells ⟨g, o, none⟩ (byt ((txt s).take n))).run P w = .ok () (w.setRow g (splice L o (byt ((txt s).take n))).toArray) := hst
  cases hq : P.info? elem with
  | none => simp [hq] at hs
  | some i =>
    simp [Builtin.copy_, run_underlying hu, Builtin.lenOf, Builtin.firstCells, sizeOf, typeInfo, hq]
    rw [show Nat.min s.size n = min s.size n from rfl, htk, hst2]
    simp [Result.andThen, goInt]

theorem setRow_same {w : World} {g : Nat} {t : TypeId} {L : List Value} {m : Nat × Nat} (hg : Row w g t L m) : w.setRow g L.toArray = w := setRow_self w g L.toArray t m hg

/-- clear(b): bytes 0. -/
theorem run_clear_str {P : Program} (w : World) (T ty : TypeId) (elem : TypeId) (g o n c : Nat) (L : List Value) (t : TypeId)
    (hu : P.underlying T = some (.slice elem)) (hz : ∀ w, (zeroValue elem).run P w = .ok (.int .u8 0) w) (hg : Row w g t L (0, 0)) (hfit : o + n ≤ L.length) (A : Option Addr) (hA : 0 < n → A = some ⟨g, o, none⟩) :
    (Builtin.clear_ #[T] ty #[.slice A n c]).run P w = .ok (.tuple #[]) (w.setRow g (splice L o (byt (List.replicate n 0))).toArray) := by
  rcases Nat.eq_zero_or_pos n with h0 | h0
  · subst h0
    have e : (splice L o (byt (List.replicate 0 0))) = L := splice_nil L o
    rw [e, setRow_same hg]
    cases A <;> simp [Builtin.clear_, run_underlying hu]
  · obtain rfl := hA h0
    have hst := run_storeCells_at P g o t (byt (List.replicate n 0)) 0 L.toArray w hg (by rw [byt_length]; simpa using hfit) (byt_one _)
    simp only [Nat.add_zero, List.append_assoc] at hst
    have hst2 : (storeCells ⟨g, o, none⟩ (byt (List.replicate n 0))).run P w = .ok () (w.setRow g (splice L o (byt (List.replicate n 0))).toArray) := hst
    have hzc : (Builtin.zeroCells (Value.int .u8 0).cells n).toList = byt (List.replicate n 0) := by
      simp [Builtin.zeroCells, Value.cells, byt]
      apply List.ext_getElem
      · simp
      · intro i h1 h2
        simp [Nat.mod_one]
    obtain ⟨m, rfl⟩ : ∃ m, n = m + 1 := ⟨n - 1, by omega⟩
    simp [Builtin.clear_, run_underlying hu, hz, hzc, hst2]

theorem byt_splice (L : List UInt8) (X : List Value) (o : Nat) (cs : List UInt8) (h : o + cs.length ≤ L.length) : splice (byt L ++ X) o (byt cs) = byt (splice L o cs) ++ X := by
  rw [splice_left _ _ _ _ (by rw [byt_length, byt_length]; exact h)]
  unfold byt
  rw [splice_map]

set_option maxRecDepth 100000 in
/-- The bytes from o on become the beginning of s, with bytes 0 behind it. -/
theorem fill_any (B o n c : Nat) (L : List Value) (t : TypeId) (s : ByteArray) (w : World) (hr : Row w B t L (0, 0)) (ho : o + n ≤ L.length) (hn : n ≤ c) :
    Calls Try.prog 53 #[.slice (some ⟨B, o, none⟩) n c, .string s] w fun e w' => e = .returned (.tuple #[]) ∧ Row w' B t (splice L o (byt (pad n (txt s)))) (0, 0) ∧ Only (· = B) w w' := by
  have hl1 : (byt ((txt s).take n)).length = min s.size n := by rw [byt_length, List.length_take, txt_length]; omega
  have hcp : ∀ ty, (Builtin.copy_ #[69, 9] ty #[.slice (some ⟨B, o, none⟩) n c, .string s]).run Try.prog w = _ := fun ty =>
    run_copy_str w 69 9 ty 5 B o n c s L t Try.underlying69 Try.u8size hr ho
  have hr1 : Row (w.setRow B (splice L o (byt ((txt s).take n))).toArray) B t (splice L o (byt ((txt s).take n))) (0, 0) := hr.setRow_
  have hlen1 : (splice L o (byt ((txt s).take n))).length = L.length := splice_length _ _ _ (by rw [hl1]; omega)
  obtain ⟨k, hk⟩ : ∃ k, min s.size n = k := ⟨_, rfl⟩
  have hkn : k ≤ n := by omega
  have hO1 : Only (· = B) w (w.setRow B (splice L o (byt ((txt s).take n))).toArray) := Only.setRow (F := (· = B)) (g := B) (Only.refl _ w) rfl _
  obtain ⟨w1, hw1⟩ : ∃ w1, w.setRow B (splice L o (byt ((txt s).take n))).toArray = w1 := ⟨_, rfl⟩
  rw [hk] at hl1
  rw [hw1] at hr1 hO1
  simp only [hk, hw1] at hcp
  have hs1 : (Instr.slice 69 (.slice (some ⟨B, o, none⟩) n c) (some (.int .i64 (k : Int))) none none).run Try.prog w1 = .ok (.slice (if c = k then some ⟨B, o, none⟩ else some ⟨B, o + k, none⟩) (n - k) (c - k)) w1 := by
    rw [run_slice_l (w := w1) 69 _ n c Try.underlying69 .i64 (k : Int) (by omega) (by omega), show (sizeOf (Try.prog.elem 69)).run Try.prog w1 = .ok 1 w1 by kernel_rfl]
    simp only [Result.andThen, sliced, Nat.mul_one, Int.toNat_natCast, Option.map_some, Addr.add_lit]
  obtain ⟨A2, hA2⟩ : ∃ A2, (if c = k then some ⟨B, o, none⟩ else some ⟨B, o + k, none⟩ : Option Addr) = A2 := ⟨_, rfl⟩
  rw [hA2] at hs1
  have hA3 : 0 < n - k → A2 = some ⟨B, o + k, none⟩ := fun h => by rw [← hA2, if_neg (by omega)]
  have hcl : ∀ ty, (Builtin.clear_ #[69] ty #[.slice A2 (n - k) (c - k)]).run Try.prog w1 = _ := fun ty =>
    run_clear_str w1 69 ty 5 B (o + k) (n - k) (c - k) (splice L o (byt ((txt s).take n))) t Try.underlying69 Try.u8zero hr1 (by rw [hlen1]; omega) A2 hA3
  have hfin : splice (splice L o (byt ((txt s).take n))) (o + k) (byt (List.replicate (n - k) 0)) = splice L o (byt (pad n (txt s))) := by
    rw [← hl1, splice_splice _ _ _ _ (by rw [hl1, byt_length, List.length_replicate]; omega), ← byt_append]
    congr 2
    unfold pad
    rw [hl1]
    congr 1
    rw [txt_length]; congr 1; omega
  have hr2 := hr1.setRow_ (cs := splice L o (byt (pad n (txt s))))
  have hO2 : Only (· = B) w (w1.setRow B (splice L o (byt (pad n (txt s)))).toArray) := Only.setRow (F := (· = B)) (g := B) hO1 rfl _
  rw [hfin] at hcl
  obtain ⟨w2, hw2⟩ : ∃ w2, w1.setRow B (splice L o (byt (pad n (txt s)))).toArray = w2 := ⟨_, rfl⟩
  rw [hw2] at hr2 hO2
  simp only [hw2] at hcl
  have HR := Lib.hid hr2
  have HO := Lib.hid hO2
  clear hr2 hO2 hw2 hfin hA3 hA2 hO1 hw1 hlen1 hr1 hl1 hr hk ho
  go_enter Try.func53, Try.ntmps53
  go_wp2_with (simp only [hcl])
  go_end0
  exact ⟨rfl, HR.out, HO.out⟩

end Go.Proofs.Ytnmfgmlmjbfdcaa

/-
  The walks over package block: settle.
-/
namespace Go.Proofs.Ytnmfgmlmjbfdcaa
open Go.RowKit

theorem DV.Top.slot {d : DV} {w : World} (h : d.Top w) : ∃ (ad : Option Addr) (cap : Nat), d.p = .slice ad d.pend.length cap ∧ d.pend.length ≤ cap ∧ cap ≤ maxLen ∧ ∀ (i : Nat) (hi : i < d.pend.length), ∃ g, ad = some ⟨g, 0, none⟩ ∧ w.cell? ⟨g, i * 2, none⟩ = some (.int .i64 (d.pend[i].1 : Int)) ∧ w.cell? ⟨g, i * 2 + 1, none⟩ = some (.string d.pend[i].2) := by
  rcases h.pend with ⟨h1, h2⟩ | ⟨g, cap, h1, h2, h3, h4⟩
  · refine ⟨none, 0, by rw [h1, h2]; rfl, by rw [h2]; simp, by unfold maxLen; omega, fun i hi => ?_⟩
    rw [h2] at hi; simp at hi
  · exact ⟨some ⟨g, 0, none⟩, cap, h1, h2, h3, fun i hi => ⟨g, rfl, h4 i hi⟩⟩

/-- A device without pending writes, as its own block says. -/
def DV.clean (d : DV) : DV := { d with p := .slice none 0 0, pend := [] }

set_option maxRecDepth 100000 in
set_option maxHeartbeats 1000000 in
/-- The blocks of the pending writes go from the one side to the other. -/
theorem settle_any (d : DV) (T ct R cr : Nat) (t f : List UInt8) (XT XF : List Value) (w : World) (h : d.Top w) (hT : Row w T 5 (byt t ++ XT) (0, 0)) (hR : Row w R 5 (byt f ++ XF) (0, 0)) (hne : T ≠ R)
    (ht : t.length = d.all) (hf : f.length = d.all) (hct : d.all ≤ ct) (hcr : d.all ≤ cr) :
    Calls Try.prog 55 #[d.ptr, .slice (some ⟨T, 0, none⟩) d.all ct, .slice (some ⟨R, 0, none⟩) d.all cr] w fun e w' => e = .returned (.tuple #[]) ∧ Row w' T 5 (byt (settle d.sz f d.pend t) ++ XT) (0, 0) ∧ Row w' d.A 94 d.clean.cells (0, 0) ∧ Only (fun k => k = T ∨ k = d.A) w w' := by
  have HP1 := Lib.hid (fun (wx : World) (b : Nat) (hx : d.Top wx) (hb : b < d.nb) => piece_any d T ct b wx hx hb hct)
  have HP2 := Lib.hid (fun (wx : World) (b : Nat) (hx : d.Top wx) (hb : b < d.nb) => piece_any d R cr b wx hx hb hcr)
  have HAT := Lib.hid (h.AB hT)
  have HPT := Lib.hid (h.pNe hT (by decide))
  have HNE := Lib.hid hne
  have HLT := Lib.hid ht
  have HLF := Lib.hid hf
  have HFT := Lib.hid (fun q hq => (h.fits q hq).1)
  have HTop := Lib.hid h
  have HRow := Lib.hid hT
  have HRR := Lib.hid hR
  have c4 := h.c4
  obtain ⟨ad, cap, hp, hcap, hcm, hcells⟩ := h.slot
  have HSL := Lib.hid hcells
  rw [hp] at c4
  have HPV := Lib.hid hp
  unfold maxLen at hcm
  have hn : d.pend.length ≤ 9223372036854775807 := by omega
  clear h hT hR hne ht hf hct hcr hp hcells hcm hcap
  have HBL := Lib.hid (fun b (hb : b < d.nb) => block_in d.sz hb)
  have hall : d.nb * d.sz ≤ 16384000 := HTop.out.allLe
  have hspos : 0 < d.sz := by have := HTop.out.ns1; show 0 < d.ns * 64; omega
  unfold DV.ptr at HP1 HP2 ⊢
  go_enter Try.func55, Try.ntmps55
  go_wp2_with fail
  go_loopw [6, 7, 13] (fun _ _ i wr => ∃ k : Nat, k ≤ d.pend.length ∧ i = .int .i64 k ∧ Hid (Row wr T 5 (byt (settle d.sz f (d.pend.take k) t) ++ XT) (0, 0)) ∧ Hid (Only (· = T) w wr)) (fun _ _ i _ => d.pend.length - (intOf i).toNat)
  case atStart => exact ⟨0, Nat.zero_le _, rfl, by simpa [settle] using HRow, Lib.hid (Only.refl _ _)⟩
  case round =>
    obtain ⟨k, hk, rfl, HR, HO⟩ := hrel
    have HTw := Lib.hid (HTop.out.only HO.out HAT.out (fun g hg e => HPT.out (e ▸ hg)))
    have c4' := HTw.out.c4
    rw [HPV.out] at c4'
    by_cases hlt : k < d.pend.length
    · obtain ⟨g, rfl, hg1, hg2⟩ := HSL.out k hlt
      obtain ⟨b, hb⟩ : ∃ b, d.pend[k].1 = b := ⟨_, rfl⟩
      have hmem : d.pend[k] ∈ d.pend := List.getElem_mem _
      have hbn : b < d.nb := hb ▸ HFT.out _ hmem
      have hcg : wr.cell? ⟨g, k * 2, none⟩ = some (.int .i64 (b : Int)) := by
        rw [← hb, ← hg1]
        refine World.cell?_of_block (w := w) (HO.out.block g (World.block_lt_of_cell? w _ hg1) fun e => HPT.out ?_)
        rw [HPV.out, e]; rfl
      have HIN := Lib.hid (HBL.out b hbn)
      have HPB := Lib.hid hb
      clear hg1 hg2 hb hmem
      go_wp2_with fail
      refine (HP1.out wr b HTw.out hbn).mono ?_
      rintro e w1 ⟨rfl, n1, rfl⟩
      go_wp2_with fail
      refine (HP2.out (wr.drewN n1) b (HTw.out.drewN n1) hbn).mono ?_
      rintro e w2 ⟨rfl, n2, rfl⟩
      obtain ⟨w3, hw3⟩ : ∃ w3, (wr.drewN n1).drewN n2 = w3 := ⟨_, rfl⟩
      have hr3 : Row w3 T 5 (byt (settle d.sz f (d.pend.take k) t) ++ XT) (0, 0) := by rw [← hw3]; exact HR.out
      have ho3 : Only (· = T) w w3 := by rw [← hw3]; exact (HO.out.drewN n1).drewN n2
      have hrr3 : Row w3 R 5 (byt f ++ XF) (0, 0) := HRR.out.only ho3 (fun e => HNE.out e.symm)
      have hlen : (settle d.sz f (d.pend.take k) t).length = d.nb * d.sz := settle_length d.sz d.nb f HLF.out _ t HLT.out fun q hq => HFT.out q (List.mem_of_mem_take hq)
      have hin := HIN.out
      have hsl : (seg f (b * d.sz) d.sz).length = d.sz := seg_length _ _ _ (by rw [HLF.out]; exact hin)
      have hcp : ∀ ty, (Builtin.copy_ #[69, 69] ty #[.slice (some ⟨T, b * d.sz, none⟩) d.sz (ct - b * d.sz), .slice (some ⟨R, b * d.sz, none⟩) d.sz (cr - b * d.sz)]).run Try.prog w3 = _ := fun ty =>
        run_copy_row (P := Try.prog) w3 69 69 ty 5 T (b * d.sz) d.sz (ct - b * d.sz) ⟨R, b * d.sz, none⟩ d.sz (cr - b * d.sz) _ 5 (byt (seg f (b * d.sz) d.sz)) Try.underlying69 Try.u8size hr3 (by rw [byt_length, hsl]; simp)
          (fun j v hj => by
            rw [Addr.add_lit, hrr3.cell]
            have hjl : j < d.sz := by
              have := (List.getElem?_eq_some_iff.1 hj).1
              rwa [byt_length, hsl] at this
            rw [List.getElem?_append_left (by rw [byt_length, show f.length = d.nb * d.sz from HLF.out]; omega)]
            rw [← hj]
            unfold byt
            rw [List.getElem?_map, List.getElem?_map, seg_get, if_pos hjl])
          (by rw [byt_length, hsl]; simp [byt_length, hlen]; omega) (byt_one _)
      have hsp : ((byt (settle d.sz f (d.pend.take k) t) ++ XT).toArray.toList.take (b * d.sz) ++ byt (seg f (b * d.sz) d.sz) ++ (byt (settle d.sz f (d.pend.take k) t) ++ XT).toArray.toList.drop (b * d.sz + (byt (seg f (b * d.sz) d.sz)).length)) = byt (settle d.sz f (d.pend.take (k + 1)) t) ++ XT := by
        rw [List.append_assoc]
        show splice (byt (settle d.sz f (d.pend.take k) t) ++ XT) (b * d.sz) (byt (seg f (b * d.sz) d.sz)) = _
        rw [byt_splice _ _ _ _ (by rw [hsl, hlen]; exact hin), List.take_succ_eq_append_getElem hlt, settle_snoc, HPB.out]
      rw [hsp] at hcp
      have HR4 := Lib.hid (hr3.setRow_ (cs := byt (settle d.sz f (d.pend.take (k + 1)) t) ++ XT))
      have HO4 := Lib.hid (Only.setRow (F := (· = T)) (g := T) ho3 rfl (byt (settle d.sz f (d.pend.take (k + 1)) t) ++ XT).toArray)
      obtain ⟨w4, hw4⟩ : ∃ w4, w3.setRow T (byt (settle d.sz f (d.pend.take (k + 1)) t) ++ XT).toArray = w4 := ⟨_, rfl⟩
      rw [hw4] at HR4 HO4
      simp only [hw4, byt_length, hsl] at hcp
      clear hw4 hsp hr3 ho3 hrr3 hlen hin hsl
      rw [hw3]
      clear hw3
      go_wp2_with fail
      clear hcp
      go_roundw
      case rel => exact ⟨k + 1, by omega, by go_num, HR4, HO4⟩
      case measure => simp [intOf]; omega
    · obtain rfl : k = d.pend.length := by omega
      have f4 := HTw.out.free 4
      have hdev := HTw.out.dev
      have HA := Lib.hid (hdev.put 4 (.slice none 0 0))
      clear hdev
      go_wp2
      go_end0
      refine ⟨rfl, ?_, HA.out, ?_⟩
      · have := HR.out
        rw [List.take_length] at this
        exact Row.far this (fun e => HAT.out e.symm) _
      · exact (HO.out.imp fun _ _ e => .inl e).setCell (.inr rfl) _

end Go.Proofs.Ytnmfgmlmjbfdcaa
