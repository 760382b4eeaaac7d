/-
  A fabric in memory: its own block and its messages, which lie in a block of their own; what a call leaves alone; plain queues.
-/
import Derived.Test.YtamanckcnhhaiaaChecked
import Derived.Test.YtamanckcnhhaiaaBase
import Derived.WalkSpells
import Derived.BigQuiet
import Derived.Deep.QuietTactic
import Derived.StillTailTactics
import Derived.Deep.RegionHeld3
import Derived.Deep.RegionLaw
import Derived.Lib.SliceRun
import Derived.Lib.Strings
import Derived.Lib.Walk
import Derived.Lib.AppendStr
namespace Go.Proofs.Ytamanckcnhhaiaa
open Go.RowKit

/-- Only blocks of F have turned; others have come. -/
structure Only (F : Nat → Prop) (w w' : World) : Prop where
  os : w'.os = w.os
  tape : w'.tape = w.tape
  output : w'.output = w.output
  size : w.heap.size ≤ w'.heap.size
  block : ∀ k, k < w.heap.size → ¬ F k → w'.heap[k]? = w.heap[k]?

section
variable {F G : Nat → Prop} {w w' w'' : World}
theorem Only.refl (F : Nat → Prop) (w : World) : Only F w w := ⟨rfl, rfl, rfl, Nat.le_refl _, fun _ _ _ => rfl⟩
theorem Only.trans (h : Only F w w') (k : Only F w' w'') : Only F w w'' :=
  ⟨k.os.trans h.os, k.tape.trans h.tape, k.output.trans h.output, Nat.le_trans h.size k.size, fun i hi hn => (k.block i (Nat.lt_of_lt_of_le hi h.size) hn).trans (h.block i hi hn)⟩
theorem Only.imp (h : Only F w w') (hi : ∀ k, k < w.heap.size → F k → G k) : Only G w w' := ⟨h.os, h.tape, h.output, h.size, fun k hk hn => h.block k hk fun hf => hn (hi k hk hf)⟩
/-- What a second call turns may have come with the first. -/
theorem Only.then (h : Only F w w') (k : Only G w' w'') (hi : ∀ x, x < w.heap.size → G x → F x) : Only F w w'' :=
  ⟨k.os.trans h.os, k.tape.trans h.tape, k.output.trans h.output, Nat.le_trans h.size k.size, fun i hl hn => (k.block i (Nat.lt_of_lt_of_le hl h.size) (fun hg => hn (hi i hl hg))).trans (h.block i hl hn)⟩
theorem Only.below (h : Below w.heap.size w w') (F : Nat → Prop) : Only F w w' := ⟨h.os, h.tape, h.output, h.size, fun k hk _ => h.block k hk⟩
theorem Only.toBelow (h : Only F w w') (hF : ∀ k, k < w.heap.size → ¬ F k) : Below w.heap.size w w' := ⟨h.os, h.tape, h.output, h.size, fun k hk => h.block k hk (hF k hk)⟩
theorem Only.alloc (h : Only F w w') (o : Obj) : Only F w (w'.alloc o) := h.trans (Only.below ((Below.refl _ _).alloc (Nat.le_refl _) o) F)
theorem Only.drewN (h : Only F w w') (n : Nat) : Only F w (w'.drewN n) := ⟨h.os, h.tape, h.output, h.size, h.block⟩
theorem Only.drew (h : Only F w w') : Only F w w'.drew := ⟨h.os, h.tape, h.output, h.size, h.block⟩
theorem Only.setCell (h : Only F w w') {p : Addr} (hg : F p.block) (u : Value) : Only F w (w'.setCell p u) :=
  h.trans ⟨rfl, rfl, rfl, by simp [World.setCell], fun k _ hn => Below.heap_setCell w' p u k (fun e => hn (e ▸ hg))⟩
theorem Only.grown (h : Only F w w') {r : Option Nat} (hg : w'.grownBy w'' r) (hr : ∀ k, r = some k → F k) : Only F w w'' :=
  h.trans ⟨hg.os, hg.tape, hg.output, hg.size, fun k hk hn => hg.block k hk (fun e => hn (hr k e.symm))⟩
theorem Row.only {g : Nat} {t : TypeId} {cs : List Value} {m : Nat × Nat} (h : Row w g t cs m) (ho : Only F w w') (hF : ¬ F g) : Row w' g t cs m := (ho.block g h.lt hF).trans h
theorem Row.setRow_ {g : Nat} {t : TypeId} {old cs : List Value} {m : Nat × Nat} (h : Row w g t old m) : Row (w.setRow g cs.toArray) g t cs m := setRow_heap w g old.toArray cs.toArray t m h
end

/-- A text's bytes. -/
def txt (s : ByteArray) : List UInt8 := s.data.toList
theorem txt_length (s : ByteArray) : (txt s).length = s.size := rfl
theorem Try.infoU8 : (Try.prog.info? 5).map (fun i => (i.zero, i.size, i.bytes)) = some (some (.int .u8 0), 1, 1) := by kernel_rfl
theorem Try.infoMsg : (Try.prog.info? 44).map (fun i => (i.zero, i.size, i.bytes)) = some (some (.agg #[.int .i64 0, .int .i64 0, .string ⟨#[]⟩]), 3, 32) := by kernel_rfl

/-- The block of a slice. -/
def blk (v : Option Addr) : Option Nat := v.map (·.block)

/-- A message: its sender and its receiver; its text. -/
abbrev MB := (Int × Int) × ByteArray
def mC (x : MB) : List Value := [.int .i64 x.1.1, .int .i64 x.1.2, .string x.2]
def mR (l : List MB) : List Value := l.flatMap mC
theorem mC_length (x : MB) : (mC x).length = 3 := rfl
theorem mR_length (l : List MB) : (mR l).length = l.length * 3 := by
  induction l with
  | nil => rfl
  | cons r l ih => unfold mR at ih ⊢; rw [List.flatMap_cons, List.length_append, ih, List.length_cons]; show 3 + l.length * 3 = _; omega
theorem mR_app (a b : List MB) : mR (a ++ b) = mR a ++ mR b := by simp [mR]
theorem mR_snoc (l : List MB) (r : MB) : mR (l ++ [r]) = mR l ++ mC r := by simp [mR]
theorem mR_at : ∀ (l : List MB) (i : Nat) (h : i < l.length), (mR l)[i * 3]? = some (.int .i64 l[i].1.1) ∧ (mR l)[i * 3 + 1]? = some (.int .i64 l[i].1.2) ∧ (mR l)[i * 3 + 2]? = some (.string l[i].2)
  | [], _, h => absurd h (Nat.not_lt_zero _)
  | r :: l, 0, _ => ⟨rfl, rfl, rfl⟩
  | r :: l, i + 1, h => by
    have := mR_at l i (by simpa using h)
    unfold mR at this ⊢
    rw [List.flatMap_cons, List.getElem?_append_right (by show 3 ≤ _; omega), List.getElem?_append_right (by show 3 ≤ _; omega), List.getElem?_append_right (by show 3 ≤ _; omega)]
    show (List.flatMap mC l)[(i + 1) * 3 - 3]? = _ ∧ (List.flatMap mC l)[(i + 1) * 3 + 1 - 3]? = _ ∧ (List.flatMap mC l)[(i + 1) * 3 + 2 - 3]? = _
    rw [show (i + 1) * 3 - 3 = i * 3 by omega, show (i + 1) * 3 + 1 - 3 = i * 3 + 1 by omega, show (i + 1) * 3 + 2 - 3 = i * 3 + 2 by omega]
    exact this
theorem mC_one (r : MB) : ∀ u ∈ mC r, u.oneCell' = true := by
  intro u hu
  simp only [mC, List.mem_cons, List.not_mem_nil, or_false] at hu
  rcases hu with rfl | rfl | rfl <;> rfl
theorem mR_one (l : List MB) : ∀ u ∈ mR l, u.oneCell' = true := by
  intro u hu
  unfold mR at hu
  obtain ⟨r, _, h⟩ := List.mem_flatMap.1 hu
  exact mC_one r u h
theorem mR_drop (l : List MB) (n : Nat) (hn : n ≤ l.length) : (mR l).drop (n * 3) = mR (l.drop n) := by
  have h : mR l = mR (l.take n) ++ mR (l.drop n) := by rw [← mR_app, List.take_append_drop]
  have ht : (mR (l.take n)).length = n * 3 := by rw [mR_length, List.length_take, Nat.min_eq_left hn]
  rw [h, List.drop_append_of_le_length (by rw [ht]; exact Nat.le_refl _), ← ht, List.drop_length]
  rfl
theorem mR_take (l : List MB) (n : Nat) (hn : n ≤ l.length) : (mR l).take (n * 3) = mR (l.take n) := by
  have h : mR l = mR (l.take n) ++ mR (l.drop n) := by rw [← mR_app, List.take_append_drop]
  have ht : (mR (l.take n)).length = n * 3 := by rw [mR_length, List.length_take, Nat.min_eq_left hn]
  rw [h, List.take_append_of_le_length (by rw [ht]; exact Nat.le_refl _), ← ht, List.take_length]

/-- A fabric's messages: nil, or a block of messages from its beginning on, with room for c. -/
structure MsO (w : World) (A : Option Addr) (l : List MB) (c : Nat) : Prop where
  le : l.length ≤ c
  at_ : (A = none ∧ c = 0) ∨ ∃ g cs, A = some ⟨g, 0, none⟩ ∧ Row w g 44 cs (0, 0) ∧ c * 3 ≤ cs.length ∧ ∀ j, j < l.length * 3 → cs[j]? = (mR l)[j]?

section
variable {w w' : World} {A : Option Addr} {l : List MB} {c : Nat} {F : Nat → Prop}
theorem MsO.only (h : MsO w A l c) (ho : Only F w w') (hF : ∀ k, blk A = some k → ¬ F k) : MsO w' A l c := by
  refine ⟨h.le, ?_⟩
  rcases h.at_ with h1 | ⟨g, cs, rfl, hr, h2⟩
  · exact .inl h1
  · exact .inr ⟨g, cs, rfl, hr.only ho (hF g rfl), h2⟩
theorem MsO.keeps (h : MsO w A l c) (hb : Below w.heap.size w w') : MsO w' A l c := h.only (Only.below hb fun _ => False) fun _ _ hf => hf
theorem MsO.at_block (h : MsO w A l c) : ∀ k, blk A = some k → ∃ cs : List Value, Row w k 44 cs (0, 0) := by
  rcases h.at_ with ⟨rfl, _⟩ | ⟨g, cs, rfl, hr, h2⟩
  · intro k hk; cases hk
  · intro k hk; injection hk with hk; exact hk ▸ ⟨cs, hr⟩
theorem MsO.lt (h : MsO w A l c) : ∀ k, blk A = some k → k < w.heap.size := fun k hk => (h.at_block k hk).elim fun _ h => h.lt
theorem MsO.nil (w : World) : MsO w none [] 0 := ⟨Nat.le_refl _, .inl ⟨rfl, rfl⟩⟩
/-- Where there is a message, it lies in a block. -/
theorem MsO.row (h : MsO w A l c) (h0 : 0 < l.length) : ∃ g cs, A = some ⟨g, 0, none⟩ ∧ Row w g 44 cs (0, 0) ∧ c * 3 ≤ cs.length ∧ ∀ j, j < l.length * 3 → cs[j]? = (mR l)[j]? := by
  have hle := h.le
  rcases h.at_ with ⟨rfl, rfl⟩ | h1
  · omega
  · exact h1
theorem MsO.cells (h : MsO w A l c) {i : Nat} (hi : i < l.length) : ∃ g, A = some ⟨g, 0, none⟩ ∧ g < w.heap.size ∧ w.cell? ⟨g, i * 3, none⟩ = some (.int .i64 l[i].1.1) ∧ w.cell? ⟨g, i * 3 + 1, none⟩ = some (.int .i64 l[i].1.2) ∧ w.cell? ⟨g, i * 3 + 2, none⟩ = some (.string l[i].2) := by
  obtain ⟨g, cs, rfl, hr, _, h2⟩ := h.row (by omega)
  obtain ⟨c0, c1, c2⟩ := mR_at l i hi
  exact ⟨g, rfl, hr.lt, by rw [hr.cell, h2 _ (by omega)]; exact c0, by rw [hr.cell, h2 _ (by omega)]; exact c1, by rw [hr.cell, h2 _ (by omega)]; exact c2⟩

theorem splice_roomM (cur : List Value) (l : List MB) (x : MB) (hle : l.length * 3 + 3 ≤ cur.length) (h : ∀ j, j < l.length * 3 → cur[j]? = (mR l)[j]?) (j : Nat) (hj : j < (l ++ [x]).length * 3) :
    (cur.take (l.length * 3) ++ mC x ++ cur.drop (l.length * 3 + 3))[j]? = (mR (l ++ [x]))[j]? := by
  rw [List.length_append, List.length_singleton] at hj
  have hT : (cur.take (l.length * 3)).length = l.length * 3 := by rw [List.length_take]; omega
  rw [mR_snoc, List.append_assoc]
  by_cases h1 : j < l.length * 3
  · rw [List.getElem?_append_left (by rw [hT]; omega), List.getElem?_take, if_pos (by omega), h j h1, List.getElem?_append_left (by rw [mR_length]; exact h1)]
  · rw [List.getElem?_append_right (by rw [hT]; omega), hT, List.getElem?_append_left (by show _ < 3; omega), List.getElem?_append_right (l₁ := mR l) (by rw [mR_length]; omega), mR_length]

set_option maxRecDepth 100000 in
/-- One more behind the messages. -/
theorem MsO.append (h : MsO w A l c) (x : MB) (ad : Addr) (c2 : Nat) (hnews : ∀ j u, (mC x)[j]? = some u → w.cell? (ad.add j) = some u) (ty : TypeId) (hle : l.length ≤ 1000000) :
    ∃ g c' w', (Builtin.append_ #[38, 38] ty #[.slice A l.length c, .slice (some ad) 1 c2]).run Try.prog w = .ok (.slice (some ⟨g, 0, none⟩) (l.length + 1) c') w' ∧ MsO w' (some ⟨g, 0, none⟩) (l ++ [x]) c' ∧ w.grownBy w' (blk A) ∧ (blk A = some g ∨ w.heap.size ≤ g) := by
  obtain ⟨i0, hi0, hz0, hz1, hz2⟩ := info_parts Try.infoMsg
  have hc := h.le
  have hx3 : (mC x).length = 3 := rfl
  have hf := run_firstCells_some (P := Try.prog) w i0.size 1 ad 1 c2 (mC x) (by rw [hz1]; rfl) hnews
  have hlen : (l ++ [x]).length = l.length + 1 := by simp
  obtain ⟨Z, hZ, hZs⟩ : ∃ Z : Value, i0.zero = some Z ∧ Z.cells.size = 3 := ⟨_, hz0, rfl⟩
  have new : ∀ (old : Nat) (row : Option Nat),
      MsO (w.drew.alloc (.cells ((mR l).toArray ++ (mC x).toArray ++ Builtin.zeroCells Z.cells (grownCap w (l.length + 1) old 44 - (l.length + 1))) 44)) (some ⟨w.heap.size, 0, none⟩) (l ++ [x]) (grownCap w (l.length + 1) old 44) ∧
      w.grownBy (w.drew.alloc (.cells ((mR l).toArray ++ (mC x).toArray ++ Builtin.zeroCells Z.cells (grownCap w (l.length + 1) old 44 - (l.length + 1))) 44)) row := by
    intro old row
    have hk := grownCap_ge w (l.length + 1) old 44
    refine ⟨⟨by omega, .inr ⟨w.heap.size, mR l ++ mC x ++ (Builtin.zeroCells Z.cells (grownCap w (l.length + 1) old 44 - (l.length + 1))).toList, rfl, ?_, ?_, ?_⟩⟩, ⟨rfl, rfl, rfl, by simp, fun k hk _ => heap_alloc_old w.drew _ hk⟩⟩
    · have := heap_alloc_new w.drew (.cells ((mR l).toArray ++ (mC x).toArray ++ Builtin.zeroCells Z.cells (grownCap w (l.length + 1) old 44 - (l.length + 1))) 44)
      unfold Row
      rw [show w.drew.heap.size = w.heap.size from rfl] at this
      rw [this]
      simp
    · simp only [List.length_append, mR_length, hx3, Array.length_toList, size_zeroCells]
      rw [hZs]
      omega
    · intro j hj
      rw [mR_snoc]
      rw [List.getElem?_append_left (by rw [List.length_append, mR_length, hx3]; rw [List.length_append] at hj; simp at hj; omega)]
  rcases h.at_ with ⟨rfl, rfl⟩ | ⟨g, cs, rfl, hr, h1, h2⟩
  · obtain rfl : l = [] := List.eq_nil_of_length_eq_zero (by omega)
    have hrn := run_append_nil (P := Try.prog) w 38 ty 44 i0 _ Try.underlying38 hi0 hZ ad 1 c2 (mC x) (by rw [hz1]; rfl) hnews (by omega) (by omega) (by rw [hz2]; omega)
    obtain ⟨n1, n2⟩ := new 0 (blk none)
    simp only [List.length_nil, Nat.zero_add, show (mR []).toArray = #[] from rfl, Array.empty_append] at n1 n2 ⊢
    exact ⟨_, _, _, hrn, n1, n2, .inr (Nat.le_refl _)⟩
  · by_cases hroom : l.length + 1 ≤ c
    · have hst := run_storeCells_at Try.prog g (l.length * 3) 44 (mC x) 0 cs.toArray w hr (by rw [hx3]; simp; omega) (mC_one x)
      simp only [Nat.add_zero, hx3] at hst
      refine ⟨g, c, w.setRow g (cs.take (l.length * 3) ++ mC x ++ cs.drop (l.length * 3 + 3)).toArray, ?_, ?_, ?_, .inl rfl⟩
      · simp [Builtin.append_, run_underlying Try.underlying38, sizeOf, typeInfo, hi0, hz1, Builtin.lenOf, hroom, Addr.add_lit]
        rw [hz1] at hf
        simp [hf, hst]
      · refine ⟨by omega, .inr ⟨g, _, rfl, hr.setRow_, ?_, ?_⟩⟩
        · simp only [List.length_append, List.length_take, List.length_drop, hx3]; omega
        · exact splice_roomM cs l x (by omega) h2
      · exact ⟨rfl, rfl, rfl, by simp, fun k _ hk => setRow_other w g k _ (fun e => hk (by simp [blk, e]))⟩
    · have holds : ∀ j u, (mR l)[j]? = some u → w.cell? ((⟨g, 0, none⟩ : Addr).add j) = some u := fun j u hj => by
        have hjl : j < l.length * 3 := by have := (List.getElem?_eq_some_iff.1 hj).1; rwa [mR_length] at this
        rw [Addr.add_lit, hr.cell, Nat.zero_add, h2 j hjl]; exact hj
      have hrn := run_append_grow (P := Try.prog) w 38 ty 44 i0 _ Try.underlying38 hi0 hZ ⟨g, 0, none⟩ l.length c (mR l) (by rw [hz1, mR_length]) holds ad 1 c2 (mC x) (by rw [hz1]; rfl) hnews (by omega) (by omega) (by rw [hz2]; exact growslice_fits (by omega) (by omega))
      obtain ⟨n1, n2⟩ := new c (blk (some ⟨g, 0, none⟩))
      exact ⟨_, _, _, hrn, n1, n2, .inr (Nat.le_refl _)⟩
end

/-- A fabric: where it lies, where its messages lie, and these. -/
structure FV where
  b : Nat
  A : Option Addr
  c : Nat
  l : List MB

namespace FV
def ptr (d : FV) : Value := .pointer (some ⟨d.b, 0, none⟩)
def mine (d : FV) (k : Nat) : Prop := k = d.b ∨ blk d.A = some k
structure In (d : FV) (w : World) : Prop where
  box : Row w d.b 40 [.bool true, .slice d.A d.l.length d.c] (0, 0)
  ms : MsO w d.A d.l d.c
section
variable {d : FV} {w w' : World} {F : Nat → Prop}
theorem In.mineLt (h : d.In w) : ∀ k, d.mine k → k < w.heap.size := by
  rintro k (rfl | hk)
  · exact h.box.lt
  · exact h.ms.lt k hk
theorem In.ne (h : d.In w) {k : Nat} (hk : blk d.A = some k) : d.b ≠ k := by
  obtain ⟨cs, hr⟩ := h.ms.at_block k hk
  exact h.box.ne_ hr (by decide)
theorem In.only (h : d.In w) (ho : Only F w w') (hF : ∀ k, d.mine k → ¬ F k) : d.In w' := ⟨h.box.only ho (hF _ (.inl rfl)), h.ms.only ho fun k hk => hF k (.inr hk)⟩
theorem In.keeps (h : d.In w) (hb : Below w.heap.size w w') : d.In w' := h.only (Only.below hb fun _ => False) fun _ _ hf => hf
theorem In.drewN (h : d.In w) (n : Nat) : d.In (w.drewN n) := h.keeps ⟨rfl, rfl, rfl, Nat.le_refl _, fun _ _ => rfl⟩
theorem In.drew (h : d.In w) : d.In w.drew := h.keeps ⟨rfl, rfl, rfl, Nat.le_refl _, fun _ _ => rfl⟩
theorem In.alloc (h : d.In w) (o : Obj) : d.In (w.alloc o) := h.keeps ((Below.refl _ _).alloc (Nat.le_refl _) o)
theorem In.c0 (h : d.In w) : w.cell? ⟨d.b, 0, none⟩ = some (.bool true) := h.box.cell 0
theorem In.c1 (h : d.In w) : w.cell? ⟨d.b, 1, none⟩ = some (.slice d.A d.l.length d.c) := h.box.cell 1
theorem In.free (h : d.In w) (i : Nat) : w.frozen? ⟨d.b, i, none⟩ = false := h.box.loose i
end
/-- What a call that turns a fabric does. -/
def Turned (d : FV) (w : World) (l' : List MB) (a : Value) (e : Ending) (w' : World) : Prop :=
  ∃ d' : FV, e = .returned a ∧ d'.b = d.b ∧ d'.l = l' ∧ d'.In w' ∧ Only d.mine w w' ∧ ∀ k, d'.mine k → d.mine k ∨ w.heap.size ≤ k
theorem Turned.same {d : FV} {w w' : World} (h : d.In w) (hb : Below w.heap.size w w') (a : Value) : d.Turned w d.l a (.returned a) w' := ⟨d, rfl, rfl, rfl, h.keeps hb, Only.below hb _, fun _ hk => .inl hk⟩
end FV

/-! ### Plain queues -/

/-- The places of a way's messages among the first k, each with its index in its queue. -/
def qsN (l : List MB) (way : Int × Int) : Nat → List (Nat × Nat)
  | 0 => []
  | k + 1 => match l[k]? with
    | some m => if m.1 = way then qsN l way k ++ [((qsN l way k).length, k)] else qsN l way k
    | none => qsN l way k
/-- A way's texts, in order. -/
def qu (l : List MB) (way : Int × Int) : List ByteArray := (l.filter (fun m => decide (m.1 = way))).map (·.2)
theorem qu_app (a b : List MB) (way : Int × Int) : qu (a ++ b) way = qu a way ++ qu b way := by simp [qu]
theorem qu_one (m : MB) (way : Int × Int) : qu [m] way = if m.1 = way then [m.2] else [] := by
  unfold qu
  by_cases h : m.1 = way <;> simp [h]
theorem qsN_yes {l : List MB} {way : Int × Int} {k : Nat} (h : k < l.length) (he : l[k].1 = way) : qsN l way (k + 1) = qsN l way k ++ [((qsN l way k).length, k)] := by
  show (match l[k]? with | some m => _ | none => _) = _
  rw [List.getElem?_eq_getElem h]
  show (if l[k].1 = way then _ else _) = _
  rw [if_pos he]
theorem qsN_no {l : List MB} {way : Int × Int} {k : Nat} (h : k < l.length) (he : ¬ l[k].1 = way) : qsN l way (k + 1) = qsN l way k := by
  show (match l[k]? with | some m => _ | none => _) = _
  rw [List.getElem?_eq_getElem h]
  show (if l[k].1 = way then _ else _) = _
  rw [if_neg he]
theorem qsN_length (l : List MB) (way : Int × Int) : ∀ k, k ≤ l.length → (qsN l way k).length = (qu (l.take k) way).length
  | 0, _ => rfl
  | k + 1, hk => by
    have ih := qsN_length l way k (by omega)
    have hk' : k < l.length := by omega
    rw [List.take_succ_eq_append_getElem hk', qu_app, qu_one]
    by_cases he : l[k].1 = way
    · rw [qsN_yes hk' he, if_pos he, List.length_append, List.length_append, ih]; rfl
    · rw [qsN_no hk' he, if_neg he, List.append_nil, ih]
theorem qsN_le (l : List MB) (way : Int × Int) (k : Nat) (hk : k ≤ l.length) : (qsN l way k).length ≤ k := by
  rw [qsN_length l way k hk]
  unfold qu
  rw [List.length_map]
  refine Nat.le_trans (List.length_filter_le _ _) ?_
  rw [List.length_take]
  omega
theorem qsN_pre (l : List MB) (way : Int × Int) (k : Nat) : ∀ n, qsN l way k <+: qsN l way (k + n)
  | 0 => List.prefix_refl _
  | n + 1 => by
    refine (qsN_pre l way k n).trans ?_
    show qsN l way (k + n) <+: (match l[k + n]? with | some m => _ | none => _)
    split
    · split
      · exact List.prefix_append _ _
      · exact List.prefix_refl _
    · exact List.prefix_refl _
/-- What the j-th is. -/
theorem qsN_get (l : List MB) (way : Int × Int) : ∀ k, k ≤ l.length → ∀ j (h : j < (qsN l way k).length), (qsN l way k)[j].1 = j ∧ (qsN l way k)[j].2 < k ∧
    ∃ hp : (qsN l way k)[j].2 < l.length, l[(qsN l way k)[j].2].1 = way ∧ (qu (l.take (qsN l way k)[j].2) way).length = j
  | 0, _, j, h => absurd h (Nat.not_lt_zero _)
  | k + 1, hk, j, h => by
    have hk' : k < l.length := by omega
    have ih := qsN_get l way k (by omega)
    by_cases he : l[k].1 = way
    · have e := qsN_yes hk' he
      by_cases hj : j < (qsN l way k).length
      · obtain ⟨h1, h2, h3, h4, h5⟩ := ih j hj
        have e2 : (qsN l way (k + 1))[j] = (qsN l way k)[j] := by
          simp only [e]
          rw [List.getElem_append_left hj]
        rw [e2]
        exact ⟨h1, by omega, h3, h4, h5⟩
      · have hj2 : j = (qsN l way k).length := by
          rw [e, List.length_append] at h
          simp at h
          omega
        have e2 : (qsN l way (k + 1))[j] = ((qsN l way k).length, k) := by
          simp only [e]
          rw [List.getElem_append_right (by omega)]
          simp [hj2]
        rw [e2]
        exact ⟨hj2.symm, Nat.lt_succ_self _, hk', he, by rw [hj2, qsN_length l way k (by omega)]⟩
    · have e := qsN_no hk' he
      have hj : j < (qsN l way k).length := by rwa [e] at h
      obtain ⟨h1, h2, h3, h4, h5⟩ := ih j hj
      have e2 : (qsN l way (k + 1))[j] = (qsN l way k)[j] := by simp only [e]
      rw [e2]
      exact ⟨h1, by omega, h3, h4, h5⟩
/-- All of a way's places. -/
def qs (l : List MB) (way : Int × Int) : List (Nat × Nat) := qsN l way l.length
theorem qs_length (l : List MB) (way : Int × Int) : (qs l way).length = (qu l way).length := by
  unfold qs
  rw [qsN_length l way _ (Nat.le_refl _), List.take_length]
/-- The place of a queue's j-th message: its text is the queue's j-th; without it the queue is without it, and other queues are as they were. -/
theorem qs_place (l : List MB) (way : Int × Int) (j : Nat) (h : j < (qu l way).length) : ∃ p, (qs l way)[j]? = some (j, p) ∧ ∃ hp : p < l.length, l[p].1 = way ∧ l[p].2 = (qu l way)[j] ∧ qu (l.eraseIdx p) way = (qu l way).eraseIdx j := by
  have hj : j < (qs l way).length := by rw [qs_length]; exact h
  obtain ⟨h1, _, h3, h4, h5⟩ := qsN_get l way l.length (Nat.le_refl _) j hj
  refine ⟨(qs l way)[j].2, ?_, h3, h4, ?_, ?_⟩
  · rw [List.getElem?_eq_getElem hj]
    congr 1
    exact Prod.ext h1 rfl
  all_goals
    obtain ⟨p, hp⟩ : ∃ p, (qs l way)[j].2 = p := ⟨_, rfl⟩
    have hp' : (qsN l way l.length)[j].2 = p := hp
    simp only [hp'] at h3 h4 h5
    simp only [hp]
    have e : l = l.take p ++ l[p] :: l.drop (p + 1) := by
      rw [List.getElem_cons_drop, List.take_append_drop]
    have e2 : qu l way = qu (l.take p) way ++ l[p].2 :: qu (l.drop (p + 1)) way := by
      conv => lhs; rw [e]
      rw [qu_app, show (l[p] :: l.drop (p + 1)) = [l[p]] ++ l.drop (p + 1) from rfl, qu_app, qu_one, if_pos h4]
      rfl
  · simp only [e2]
    rw [List.getElem_append_right (by omega)]
    simp [h5]
  · rw [List.eraseIdx_eq_take_drop_succ, qu_app, e2, List.eraseIdx_append_of_length_le (by omega), h5, Nat.sub_self]
    rfl
end Go.Proofs.Ytamanckcnhhaiaa
