/-
  A tape in memory: its own block and the bytes that lie in a block of their own; what a call leaves alone; the plain tape, and what each call makes of it.
-/
import Derived.Test.YtjahkaockjhibaaDoorChecked
import Derived.Test.YtjahkaockjhibaaDoorBase
import Derived.WalkSpells
import Derived.BigQuiet
import Derived.Deep.QuietTactic
import Derived.StillTailTactics
import Derived.Deep.RegionHeld3
import Derived.Deep.RegionLaw
import Derived.Lib.SliceRun
import Derived.Lib.Strings
import Derived.Lib.Walk
import Derived.Lib.AppendStr
namespace Go.Proofs.YtjahkaockjhibaaDoor
open Go.RowKit

/-- Only blocks of F have turned; others have come. -/
structure Only (F : Nat → Prop) (w w' : World) : Prop where
  os : w'.os = w.os
  tape : w'.tape = w.tape
  output : w'.output = w.output
  size : w.heap.size ≤ w'.heap.size
  block : ∀ k, k < w.heap.size → ¬ F k → w'.heap[k]? = w.heap[k]?

section
variable {F G : Nat → Prop} {w w' w'' : World}
theorem Only.refl (F : Nat → Prop) (w : World) : Only F w w := ⟨rfl, rfl, rfl, Nat.le_refl _, fun _ _ _ => rfl⟩
theorem Only.trans (h : Only F w w') (k : Only F w' w'') : Only F w w'' :=
  ⟨k.os.trans h.os, k.tape.trans h.tape, k.output.trans h.output, Nat.le_trans h.size k.size, fun i hi hn => (k.block i (Nat.lt_of_lt_of_le hi h.size) hn).trans (h.block i hi hn)⟩
theorem Only.imp (h : Only F w w') (hi : ∀ k, k < w.heap.size → F k → G k) : Only G w w' := ⟨h.os, h.tape, h.output, h.size, fun k hk hn => h.block k hk fun hf => hn (hi k hk hf)⟩
/-- What a second call turns may have come with the first. -/
theorem Only.then (h : Only F w w') (k : Only G w' w'') (hi : ∀ x, x < w.heap.size → G x → F x) : Only F w w'' :=
  ⟨k.os.trans h.os, k.tape.trans h.tape, k.output.trans h.output, Nat.le_trans h.size k.size, fun i hl hn => (k.block i (Nat.lt_of_lt_of_le hl h.size) (fun hg => hn (hi i hl hg))).trans (h.block i hl hn)⟩
theorem Only.below (h : Below w.heap.size w w') (F : Nat → Prop) : Only F w w' := ⟨h.os, h.tape, h.output, h.size, fun k hk _ => h.block k hk⟩
theorem Only.toBelow (h : Only F w w') (hF : ∀ k, k < w.heap.size → ¬ F k) : Below w.heap.size w w' := ⟨h.os, h.tape, h.output, h.size, fun k hk => h.block k hk (hF k hk)⟩
theorem Only.alloc (h : Only F w w') (o : Obj) : Only F w (w'.alloc o) := h.trans (Only.below ((Below.refl _ _).alloc (Nat.le_refl _) o) F)
theorem Only.drewN (h : Only F w w') (n : Nat) : Only F w (w'.drewN n) := ⟨h.os, h.tape, h.output, h.size, h.block⟩
theorem Only.drew (h : Only F w w') : Only F w w'.drew := ⟨h.os, h.tape, h.output, h.size, h.block⟩
theorem Only.setCell (h : Only F w w') {p : Addr} (hg : F p.block) (u : Value) : Only F w (w'.setCell p u) :=
  h.trans ⟨rfl, rfl, rfl, by simp [World.setCell], fun k _ hn => Below.heap_setCell w' p u k (fun e => hn (e ▸ hg))⟩
theorem Only.grown (h : Only F w w') {r : Option Nat} (hg : w'.grownBy w'' r) (hr : ∀ k, r = some k → F k) : Only F w w'' :=
  h.trans ⟨hg.os, hg.tape, hg.output, hg.size, fun k hk hn => hg.block k hk (fun e => hn (hr k e.symm))⟩
theorem Row.only {g : Nat} {t : TypeId} {cs : List Value} {m : Nat × Nat} (h : Row w g t cs m) (ho : Only F w w') (hF : ¬ F g) : Row w' g t cs m := (ho.block g h.lt hF).trans h
theorem Row.setRow_ {g : Nat} {t : TypeId} {old cs : List Value} {m : Nat × Nat} (h : Row w g t old m) : Row (w.setRow g cs.toArray) g t cs m := setRow_heap w g old.toArray cs.toArray t m h
end

/-- A text's bytes. -/
def txt (s : ByteArray) : List UInt8 := s.data.toList
theorem txt_length (s : ByteArray) : (txt s).length = s.size := rfl
theorem strCells_byt (s : ByteArray) : Lib.strCells s = byt (txt s) := rfl

set_option maxRecDepth 100000 in
theorem Tryd.infoU8 : (Tryd.prog.info? 5).map (fun i => (i.zero, i.size, i.bytes)) = some (some (.int .u8 0), 1, 1) := by kernel_rfl

/-- The bytes of a tape: nil, or somewhere in a block of bytes that has room for c from there on. -/
structure Bts (w : World) (v : Option Addr) (l : List UInt8) (c : Nat) : Prop where
  le : l.length ≤ c
  at_ : (v = none ∧ c = 0) ∨ ∃ g o cs, v = some ⟨g, o, none⟩ ∧ Row w g 5 cs (0, 0) ∧ o + c ≤ cs.length ∧ ∀ j, j < l.length → cs[o + j]? = (byt l)[j]?

/-- The block of a slice. -/
def blk (v : Option Addr) : Option Nat := v.map (·.block)

section
variable {w w' : World} {v : Option Addr} {l : List UInt8} {c : Nat} {F : Nat → Prop}
theorem Bts.only (h : Bts w v l c) (ho : Only F w w') (hF : ∀ k, blk v = some k → ¬ F k) : Bts w' v l c := by
  refine ⟨h.le, ?_⟩
  rcases h.at_ with h1 | ⟨g, o, cs, rfl, hr, h2⟩
  · exact .inl h1
  · exact .inr ⟨g, o, cs, rfl, hr.only ho (hF g rfl), h2⟩
theorem Bts.lt (h : Bts w v l c) : ∀ k, blk v = some k → k < w.heap.size := by
  rcases h.at_ with ⟨rfl, _⟩ | ⟨g, o, cs, rfl, hr, h2⟩
  · intro k hk; cases hk
  · intro k hk; injection hk with hk; exact hk ▸ hr.lt
theorem Bts.u8 (h : Bts w v l c) {k : Nat} (hk : blk v = some k) : ∃ cs, Row w k 5 cs (0, 0) := by
  rcases h.at_ with ⟨rfl, _⟩ | ⟨g, o, cs, rfl, hr, h2⟩
  · cases hk
  · injection hk with hk; exact hk ▸ ⟨cs, hr⟩
theorem Bts.reads (h : Bts w v l c) : Reads 5 w v l := fun h0 => by
  have := h.le
  rcases h.at_ with ⟨rfl, rfl⟩ | ⟨g, o, cs, rfl, hr, h1, h2⟩
  · omega
  · exact ⟨g, o, cs, (0, 0), rfl, hr, h2⟩
theorem Bts.nil (w : World) : Bts w none [] 0 := ⟨Nat.le_refl _, .inl ⟨rfl, rfl⟩⟩
/-- A piece of the bytes, without room behind it. -/
theorem Bts.piece (h : Bts w v l c) (a b : Nat) (hab : a ≤ b) (hb : b ≤ l.length) : Bts w (if b = a then v else v.map (·.add a)) ((l.take b).drop a) (b - a) := by
  have hl : ((l.take b).drop a).length = b - a := by rw [List.length_drop, List.length_take]; omega
  have hle := h.le
  refine ⟨by omega, ?_⟩
  rcases h.at_ with ⟨rfl, rfl⟩ | ⟨g, o, cs, rfl, hr, h1, h2⟩
  · refine .inl ⟨?_, by omega⟩
    split <;> rfl
  · by_cases e : b = a
    · rw [if_pos e]
      refine .inr ⟨g, o, cs, rfl, hr, by omega, fun j hj => ?_⟩
      rw [hl] at hj; omega
    · rw [if_neg e]
      refine .inr ⟨g, o + a, cs, by simp [Addr.add_lit], hr, by omega, fun j hj => ?_⟩
      rw [hl] at hj
      rw [show o + a + j = o + (a + j) by omega, h2 (a + j) (by omega)]
      rw [byt_get l (a + j) (by omega), byt_get _ j (by rw [hl]; exact hj)]
      simp [List.getElem_drop]

theorem splice_room (cur : List Value) (o n : Nat) (l m : List UInt8) (hn : l.length = n) (hle : o + n + m.length ≤ cur.length) (h : ∀ j, j < l.length → cur[o + j]? = (byt l)[j]?) (j : Nat) (hj : j < (l ++ m).length) :
    (splice cur (o + n) (byt m))[o + j]? = (byt (l ++ m))[j]? := by
  subst hn
  have e : splice cur (o + l.length) (byt m) = cur.take (o + l.length) ++ byt m ++ cur.drop (o + l.length + (byt m).length) := by simp [splice]
  rw [List.length_append] at hj
  have hT : (cur.take (o + l.length)).length = o + l.length := by rw [List.length_take]; omega
  rw [e, byt_append, List.append_assoc]
  by_cases h1 : j < l.length
  · rw [List.getElem?_append_left (by rw [hT]; omega), List.getElem?_take, if_pos (by omega), h j h1, List.getElem?_append_left (by rw [byt_length]; exact h1)]
  · rw [List.getElem?_append_right (by rw [hT]; omega), hT, List.getElem?_append_left (by rw [byt_length]; omega), List.getElem?_append_right (l₁ := byt l) (by rw [byt_length]; omega), byt_length]
    congr 1
    omega

theorem splice_len (cur : List Value) (o : Nat) (m : List UInt8) (h : o + m.length ≤ cur.length) : (splice cur o (byt m)).length = cur.length := length_splice cur o (byt m) (by rw [byt_length]; exact h)

/-- A text put behind the bytes. -/
theorem Bts.append (h : Bts w v l c) (s : ByteArray) (ty : TypeId) (hle : l.length + s.size ≤ 100000000) :
    ∃ v' c' w', (Builtin.append_ #[80, 9] ty #[.slice v l.length c, .string s]).run Tryd.prog w = .ok (.slice v' (l.length + s.size) c') w' ∧ Bts w' v' (l ++ txt s) c' ∧ w.grownBy w' (blk v) ∧ ∀ k, blk v' = some k → blk v = some k ∨ w.heap.size ≤ k := by
  obtain ⟨i0, hi0, hz0, hz1, hz2⟩ := info_parts Tryd.infoU8
  have hc := h.le
  have hf := Lib.run_firstCells_string (P := Tryd.prog) w 1 s
  have hlen : (l ++ txt s).length = l.length + s.size := by rw [List.length_append, txt_length]
  have grown : ∀ old, ∃ k : Nat, (l.length + s.size) + k = grownCap w (l.length + s.size) old 5 := fun old => ⟨_, Nat.add_sub_cancel' (grownCap_ge w (l.length + s.size) old 5)⟩
  have new : ∀ (old : Nat) (row : Option Nat),
      Bts (w.drew.alloc (.cells ((byt l).toArray ++ (Lib.strCells s).toArray ++ Builtin.zeroCells (Value.int .u8 0).cells (grownCap w (l.length + s.size) old 5 - (l.length + s.size))) 5)) (some ⟨w.heap.size, 0, none⟩) (l ++ txt s) (grownCap w (l.length + s.size) old 5) ∧
      w.grownBy (w.drew.alloc (.cells ((byt l).toArray ++ (Lib.strCells s).toArray ++ Builtin.zeroCells (Value.int .u8 0).cells (grownCap w (l.length + s.size) old 5 - (l.length + s.size))) 5)) row := by
    intro old row
    obtain ⟨k, hk⟩ := grown old
    refine ⟨⟨by omega, .inr ⟨w.heap.size, 0, byt l ++ byt (txt s) ++ (Builtin.zeroCells (Value.int .u8 0).cells (grownCap w (l.length + s.size) old 5 - (l.length + s.size))).toList, rfl, ?_, ?_, ?_⟩⟩, ⟨rfl, rfl, rfl, by simp, fun k hk _ => heap_alloc_old w.drew _ hk⟩⟩
    · have := heap_alloc_new w.drew (.cells ((byt l).toArray ++ (Lib.strCells s).toArray ++ Builtin.zeroCells (Value.int .u8 0).cells (grownCap w (l.length + s.size) old 5 - (l.length + s.size))) 5)
      unfold Row
      rw [show w.drew.heap.size = w.heap.size from rfl] at this
      rw [this]
      simp [strCells_byt]
    · simp only [List.length_append, byt_length, txt_length, Array.length_toList, size_zeroCells]
      rw [show (Value.int IntKind.u8 0).cells.size = 1 from rfl]
      omega
    · intro j hj
      rw [Nat.zero_add, byt_append]
      rw [List.getElem?_append_left (by rw [List.length_append, byt_length, byt_length]; rw [List.length_append] at hj; exact hj)]
  rcases h.at_ with ⟨rfl, rfl⟩ | ⟨g, o, cs, rfl, hr, h1, h2⟩
  · obtain rfl : l = [] := List.eq_nil_of_length_eq_zero (by omega)
    by_cases hm : s.size = 0
    · have hs : txt s = [] := List.eq_nil_of_length_eq_zero (by rw [txt_length]; exact hm)
      refine ⟨none, 0, w, ?_, by rw [hs]; exact Bts.nil w, only_refl w _, fun k hk => by cases hk⟩
      rw [hm] at hf
      simp [Builtin.append_, run_underlying Tryd.underlying80, run_underlying Tryd.underlying9, sizeOf, typeInfo, hi0, hz1, Builtin.lenOf, hm, hf]
    · have hr := run_append_nil_string (P := Tryd.prog) w 80 9 ty 5 i0 (.int .u8 0) Tryd.underlying80 Tryd.underlying9 hi0 hz0 s (by omega) (by simp at hle; omega) (by rw [hz2]; simp at hle; omega)
      obtain ⟨n1, n2⟩ := new 0 (blk none)
      have e1 : (s.data.map fun b => Value.int .u8 b.toNat) = (Lib.strCells s).toArray := by
        apply Array.ext'
        simp [Lib.strCells]
      rw [e1] at hr
      simp only [List.length_nil, Nat.zero_add, show (byt []).toArray = #[] from rfl, Array.empty_append] at n1 n2 ⊢
      exact ⟨_, _, _, hr, n1, n2, fun k hk => .inr (by injection hk with hk; exact Nat.le_of_eq hk)⟩
  · by_cases hroom : l.length + s.size ≤ c
    · have hst := run_storeCells_at Tryd.prog g (o + l.length) 5 (Lib.strCells s) 0 cs.toArray w hr (by rw [Lib.strCells_length]; simp; omega) (Lib.strCells_oneCell s)
      simp only [Nat.add_zero] at hst
      refine ⟨some ⟨g, o, none⟩, c, w.setRow g (splice cs (o + l.length) (byt (txt s))).toArray, ?_, ?_, ?_, fun k hk => .inl hk⟩
      · simp only [List.append_assoc] at hst
        have hst2 : (storeCells ⟨g, o + l.length, none⟩ (Lib.strCells s)).run Tryd.prog w = .ok () (w.setRow g (splice cs (o + l.length) (byt (txt s))).toArray) := by
          rw [hst]
          simp [splice, strCells_byt]
        simp [Builtin.append_, run_underlying Tryd.underlying80, run_underlying Tryd.underlying9, sizeOf, typeInfo, hi0, hz1, Builtin.lenOf, hroom, hf, Addr.add_lit, hst2]
      · refine ⟨by rw [hlen]; exact hroom, .inr ⟨g, o, _, rfl, hr.setRow_, ?_, ?_⟩⟩
        · rw [splice_len _ _ _ (by rw [txt_length]; omega)]; exact h1
        · exact splice_room cs o l.length l (txt s) rfl (by rw [txt_length]; omega) h2
      · exact ⟨rfl, rfl, rfl, by simp, fun k _ hk => setRow_other w g k _ (fun e => hk (by simp [blk, e]))⟩
    · have holds : ∀ j u, (byt l)[j]? = some u → w.cell? ((⟨g, o, none⟩ : Addr).add j) = some u := fun j u hj => by
        have hjl : j < l.length := by have := (List.getElem?_eq_some_iff.1 hj).1; rwa [byt_length] at this
        rw [Addr.add_lit, hr.cell, h2 j hjl]; exact hj
      have hr := Lib.run_append_grow_string (P := Tryd.prog) w 80 9 ty 5 i0 (.int .u8 0) Tryd.underlying80 Tryd.underlying9 hi0 hz0 ⟨g, o, none⟩ l.length c (byt l) (by rw [hz1, byt_length, Nat.mul_one]) holds s (by omega) (by omega) (by rw [hz2]; exact growslice_fits (by omega) (by omega))
      obtain ⟨n1, n2⟩ := new c (blk (some ⟨g, o, none⟩))
      exact ⟨_, _, _, hr, n1, n2, fun k hk => .inr (by injection hk with hk; exact Nat.le_of_eq hk)⟩

theorem wpList_tape_append {ops : Array Oper} {rest : List Oper} {o : Oper} {a : Act} {Q : Exit → Act → World → Prop} (hgd : o.guard = none) (sl x : Operand)
    (ho : o.op = .call { callee := .builtin .append, args := #[sl, x], argTypes := #[80, 9] }) (hs : a.eval sl = .slice v l.length c) (hb : Bts w v l c) (s : ByteArray) (hx : a.eval x = .string s) (hle : l.length + s.size ≤ 100000000)
    (h : ∀ v' c' w', Bts w' v' (l ++ txt s) c' → w.grownBy w' (blk v) → (∀ k, blk v' = some k → blk v = some k ∨ w.heap.size ≤ k) → wpList Tryd.prog ops Q rest (a.put o.dst (.slice v' (l.length + s.size) c')) w') : wpList Tryd.prog ops Q (o :: rest) a w := by
  refine wpList_plain hgd fun K hK => ?_
  obtain ⟨v', c', w', hr, h2, h3, h4⟩ := hb.append s o.type hle
  unfold Oper.wp execOp
  simp only [ho, resolve, invoke, builtin, Sem.run_bind, Sem.run_pure, Result.andThen_ok, List.map_toArray, List.map_cons, List.map_nil, hs, hx, hr]
  exact hK _ _ (h v' c' w' h2 h3 h4)
end

/-- A plain tape: its room, its places, the bytes from its base on. -/
structure ST where
  room : Nat
  base : Nat
  sure : Nat
  l : List UInt8

namespace ST
def fin (s : ST) : Nat := s.base + s.l.length
structure Ok (s : ST) : Prop where
  bs : s.base ≤ s.sure
  sf : s.sure ≤ s.fin
  lr : s.l.length ≤ s.room
  rm : s.room ≤ 9223372036854775807
  small : s.fin ≤ 100000000
def fits (s : ST) (t : ByteArray) : Prop := t.size ≤ s.room - s.l.length
instance (s : ST) (t : ByteArray) : Decidable (s.fits t) := inferInstanceAs (Decidable (_ ≤ _))
def append (s : ST) (t : ByteArray) : ST := if s.fits t then { s with l := s.l ++ txt t } else s
def force (s : ST) : ST := { s with sure := s.fin }
def drops (s : ST) (to : Nat) : Prop := s.base ≤ to ∧ to ≤ s.sure
instance (s : ST) (t : Nat) : Decidable (s.drops t) := inferInstanceAs (Decidable (_ ∧ _))
def drop (s : ST) (to : Nat) : ST := if s.drops to then { s with base := to, l := s.l.drop (to - s.base) } else s
def cuts (s : ST) (to : Nat) : Prop := s.base ≤ to ∧ to ≤ s.fin
instance (s : ST) (t : Nat) : Decidable (s.cuts t) := inferInstanceAs (Decidable (_ ∧ _))
def shorten (s : ST) (to : Nat) : ST := { s with l := s.l.take (to - s.base), sure := min s.sure to }
def cut (s : ST) (to : Nat) : ST := if s.cuts to then s.shorten to else s
/-- How many bytes a failure keeps of those that are not sure. -/
def kept (s : ST) (keep : Int) : Nat := (min (max keep 0) ((s.fin - s.sure : Nat) : Int)).toNat
def crash (s : ST) (keep : Int) : ST := (s.shorten (s.sure + s.kept keep)).force
def reads (s : ST) (a b : Nat) : Prop := s.base ≤ a ∧ a ≤ b ∧ b ≤ s.fin
instance (s : ST) (a b : Nat) : Decidable (s.reads a b) := inferInstanceAs (Decidable (_ ∧ _))
def read (s : ST) (a b : Nat) : ByteArray := if s.reads a b then ⟨((s.l.take (b - s.base)).drop (a - s.base)).toArray⟩ else ⟨#[]⟩
theorem Ok.append {s : ST} (h : s.Ok) (t : ByteArray) (ht : s.fin + t.size ≤ 100000000) : (s.append t).Ok := by
  unfold ST.append
  split
  · rename_i hf
    have hl : (s.l ++ txt t).length = s.l.length + t.size := by rw [List.length_append, txt_length]
    have := h.sf; have := h.lr; have := h.bs
    unfold ST.fits at hf
    unfold ST.fin at *
    exact ⟨h.bs, by show s.sure ≤ s.base + (s.l ++ txt t).length; omega, by show (s.l ++ txt t).length ≤ s.room; omega, h.rm, by show s.base + (s.l ++ txt t).length ≤ _; omega⟩
  · exact h
theorem Ok.force {s : ST} (h : s.Ok) : s.force.Ok := ⟨by show s.base ≤ s.base + _; omega, Nat.le_refl _, h.lr, h.rm, h.small⟩
theorem Ok.drop {s : ST} (h : s.Ok) (to : Nat) : (s.drop to).Ok := by
  unfold ST.drop
  split
  · rename_i hf
    have hl : (s.l.drop (to - s.base)).length = s.l.length - (to - s.base) := List.length_drop
    have := h.sf; have := h.lr; have := h.bs; have := h.small; obtain ⟨h1, h2⟩ := hf
    unfold ST.fin at *
    exact ⟨h2, by show s.sure ≤ to + (s.l.drop (to - s.base)).length; omega, by show (s.l.drop (to - s.base)).length ≤ s.room; omega, h.rm, by show to + (s.l.drop (to - s.base)).length ≤ _; omega⟩
  · exact h
theorem Ok.shorten {s : ST} (h : s.Ok) {to : Nat} (h1 : s.base ≤ to) (h2 : to ≤ s.fin) : (s.shorten to).Ok ∧ (s.shorten to).fin = to := by
  have hl : (s.l.take (to - s.base)).length = to - s.base := by rw [List.length_take]; unfold ST.fin at h2; omega
  have := h.sf; have := h.lr; have := h.bs; have := h.small
  unfold ST.fin at *
  exact ⟨⟨by show s.base ≤ min s.sure to; omega, by show min s.sure to ≤ s.base + (s.l.take (to - s.base)).length; omega, by show (s.l.take (to - s.base)).length ≤ s.room; omega, h.rm, by show s.base + (s.l.take (to - s.base)).length ≤ _; omega⟩, by show s.base + (s.l.take (to - s.base)).length = to; omega⟩
theorem Ok.cut {s : ST} (h : s.Ok) (to : Nat) : (s.cut to).Ok := by
  unfold ST.cut
  split
  · rename_i hf
    exact (h.shorten hf.1 hf.2).1
  · exact h
theorem kept_le (s : ST) (keep : Int) : s.kept keep ≤ s.fin - s.sure := by unfold kept; omega
theorem Ok.crash {s : ST} (h : s.Ok) (keep : Int) : (s.crash keep).Ok := by
  have := s.kept_le keep; have := h.bs; have := h.sf
  exact (h.shorten (by omega) (by omega)).1.force
end ST

/-- A tape: where it lies, where its bytes lie, what it is. -/
structure TV where
  A : Nat
  v : Option Addr
  c : Nat
  s : ST

namespace TV
def ptr (d : TV) : Value := .pointer (some ⟨d.A, 0, none⟩)
def cells (d : TV) : List Value := [.bool true, .int .i64 (d.s.room : Int), .slice d.v d.s.l.length d.c, .int .u64 (d.s.base : Int), .int .u64 (d.s.sure : Int)]
def mine (d : TV) (k : Nat) : Prop := k = d.A ∨ blk d.v = some k
structure In (d : TV) (w : World) : Prop where
  dev : Row w d.A 83 d.cells (0, 0)
  bts : Bts w d.v d.s.l d.c
  ok : d.s.Ok
section
variable {d : TV} {w w' : World} {F : Nat → Prop}
theorem In.mineLt (h : d.In w) : ∀ k, d.mine k → k < w.heap.size := by
  rintro k (rfl | hk)
  · exact h.dev.lt
  · exact h.bts.lt k hk
theorem In.ne (h : d.In w) {k : Nat} (hk : blk d.v = some k) : d.A ≠ k := by
  obtain ⟨cs, hr⟩ := h.bts.u8 hk
  exact h.dev.ne_ hr (by decide)
theorem In.only (h : d.In w) (ho : Only F w w') (hF : ∀ k, d.mine k → ¬ F k) : d.In w' := ⟨h.dev.only ho (hF _ (.inl rfl)), h.bts.only ho fun k hk => hF k (.inr hk), h.ok⟩
theorem In.keeps (h : d.In w) (hb : Below w.heap.size w w') : d.In w' := h.only (Only.below hb fun _ => False) fun _ _ hf => hf
theorem In.drewN (h : d.In w) (n : Nat) : d.In (w.drewN n) := h.keeps ⟨rfl, rfl, rfl, Nat.le_refl _, fun _ _ => rfl⟩
theorem In.drew (h : d.In w) : d.In w.drew := h.keeps ⟨rfl, rfl, rfl, Nat.le_refl _, fun _ _ => rfl⟩
theorem In.alloc (h : d.In w) (o : Obj) : d.In (w.alloc o) := h.keeps ((Below.refl _ _).alloc (Nat.le_refl _) o)
theorem In.c0 (h : d.In w) : w.cell? ⟨d.A, 0, none⟩ = some (.bool true) := h.dev.cell 0
theorem In.c1 (h : d.In w) : w.cell? ⟨d.A, 1, none⟩ = some (.int .i64 (d.s.room : Int)) := h.dev.cell 1
theorem In.c2 (h : d.In w) : w.cell? ⟨d.A, 2, none⟩ = some (.slice d.v d.s.l.length d.c) := h.dev.cell 2
theorem In.c3 (h : d.In w) : w.cell? ⟨d.A, 3, none⟩ = some (.int .u64 (d.s.base : Int)) := h.dev.cell 3
theorem In.c4 (h : d.In w) : w.cell? ⟨d.A, 4, none⟩ = some (.int .u64 (d.s.sure : Int)) := h.dev.cell 4
theorem In.free (h : d.In w) (i : Nat) : w.frozen? ⟨d.A, i, none⟩ = false := h.dev.loose i
end

/-- What a call that turns a tape does. -/
def Turned (d : TV) (w : World) (s' : ST) (a : Value) (e : Ending) (w' : World) : Prop :=
  ∃ d' : TV, e = .returned a ∧ d'.A = d.A ∧ d'.s = s' ∧ d'.In w' ∧ Only d.mine w w' ∧ ∀ k, d'.mine k → d.mine k ∨ w.heap.size ≤ k
end TV
end Go.Proofs.YtjahkaockjhibaaDoor

/-
  The walks over package tape: isNone, plus, to, end, Base, Sure, End, Room; the order of offsets.
-/
namespace Go.Proofs.YtjahkaockjhibaaDoor
open Go.RowKit

/-- What a tape that is none is. -/
structure NoTape (w : World) (v : Value) : Prop where
  none : v = .pointer none ∨ ∃ A, v = .pointer (some ⟨A, 0, .none⟩) ∧ w.cell? ⟨A, 0, .none⟩ = some (.bool false)

set_option maxRecDepth 100000 in
theorem isNone_none {v : Value} {w : World} (h : NoTape w v) : Calls Tryd.prog 56 #[v] w fun e w' => e = .returned (.bool true) ∧ w = w' := by
  rcases h.none with rfl | ⟨A, rfl, h1⟩
  · go_enter Tryd.func56, Tryd.ntmps56
    go_wp2
    go_ret
    exact ⟨rfl, rfl⟩
  · go_enter Tryd.func56, Tryd.ntmps56
    go_wp2
    go_ret
    exact ⟨rfl, rfl⟩

set_option maxRecDepth 100000 in
theorem isNone_any (d : TV) (w : World) (h : d.In w) : Calls Tryd.prog 56 #[d.ptr] w fun e w' => e = .returned (.bool false) ∧ w = w' := by
  have c0 := h.c0
  clear h
  unfold TV.ptr
  go_enter Tryd.func56, Tryd.ntmps56
  go_wp2
  go_ret
  exact ⟨rfl, rfl⟩

set_option maxRecDepth 100000 in
theorem plus_any (o n : Nat) (w : World) (h : o + n ≤ 9223372036854775807) : Calls Tryd.prog 60 #[.int .u64 (o : Int), .int .i64 (n : Int)] w fun e w' => e = .returned (.int .u64 ((o + n : Nat) : Int)) ∧ w = w' := by
  have h1 : (n : Int) ≤ 9223372036854775807 := by omega
  have h2 : (o : Int) + (n : Int) ≤ 9223372036854775807 := by omega
  clear h
  go_enter Tryd.func60, Tryd.ntmps60
  go_wp2
  go_ret
  exact ⟨by simp, rfl⟩

set_option maxRecDepth 100000 in
theorem to_any (a b : Nat) (w : World) (h : a ≤ b) (hb : b ≤ 9223372036854775807) : Calls Tryd.prog 57 #[.int .u64 (a : Int), .int .u64 (b : Int)] w fun e w' => e = .returned (.int .i64 ((b - a : Nat) : Int)) ∧ w = w' := by
  have h1 : (a : Int) ≤ (b : Int) := by omega
  have h2 : (b : Int) ≤ 9223372036854775807 := by omega
  have e : ((b - a : Nat) : Int) = (b : Int) - (a : Int) := by omega
  rw [e]
  clear h hb e
  go_enter Tryd.func57, Tryd.ntmps57
  go_wp2
  go_ret
  exact ⟨rfl, rfl⟩

set_option maxRecDepth 100000 in
theorem end_any (d : TV) (w : World) (h : d.In w) : Calls Tryd.prog 58 #[d.ptr] w fun e w' => e = .returned (.int .u64 (d.s.fin : Int)) ∧ w' = w.drew := by
  have HP := Lib.hid (plus_any d.s.base d.s.l.length w.drew (by have := h.ok.small; show d.s.fin ≤ _; omega))
  have c2 := h.drew.c2
  have c3 := h.drew.c3
  have hf : (d.s.base + d.s.l.length) = d.s.fin := rfl
  rw [hf] at HP
  clear h hf
  unfold TV.ptr
  go_enter Tryd.func58, Tryd.ntmps58
  go_wp2_with fail
  go_still_tail 9, (by kernel_rfl)
  change wpList _ _ _ _ _ w.drew
  go_wp2_with fail
  refine HP.out.mono ?_
  rintro e w1 ⟨rfl, rfl⟩
  go_wp2
  go_ret
  exact ⟨rfl, rfl⟩

set_option maxRecDepth 100000 in
theorem less_any (a b : Nat) (w : World) : Calls Tryd.prog 90 #[.int .u64 (a : Int), .int .u64 (b : Int)] w fun e w' => e = .returned (.bool (decide (a < b))) ∧ w = w' := by
  have HN : ∀ (x : Int) (wx : World), Calls Tryd.prog 101 #[.int .u64 x] wx fun e w' => e = .returned (.bool false) ∧ wx = w' := fun x wx => by
    go_enter Tryd.func101, Tryd.ntmps101
    go_wp2
    go_ret
    exact ⟨by simp, rfl⟩
  have hd : decide (a < b) = decide ((a : Int) < (b : Int)) := by simp
  rw [hd]
  go_enter Tryd.func90, Tryd.ntmps90
  go_wp2_with fail
  refine (HN _ _).mono ?_
  rintro e w1 ⟨rfl, rfl⟩
  go_wp2
  go_ret
  exact ⟨rfl, rfl⟩

/-- Numbers in order. -/
def inOrd : List Nat → Bool
  | [] => true
  | [_] => true
  | a :: b :: l => decide (a ≤ b) && inOrd (b :: l)
theorem inOrd_iff : ∀ l : List Nat, inOrd l = true ↔ ∀ j (h : j + 1 < l.length), l[j] ≤ l[j + 1]
  | [] => by simp [inOrd]
  | [_] => by simp [inOrd]
  | a :: b :: l => by
    have ih := inOrd_iff (b :: l)
    unfold inOrd
    rw [Bool.and_eq_true, decide_eq_true_eq, ih]
    constructor
    · rintro ⟨h1, h2⟩ j hj
      cases j with
      | zero => exact h1
      | succ j => exact h2 j (by simpa using hj)
    · intro h
      exact ⟨h 0 (by simp), fun j hj => h (j + 1) (by simpa using hj)⟩

def nums64 (l : List Nat) : List Value := l.map fun n : Nat => .int .u64 (n : Int)

set_option maxRecDepth 100000 in
set_option maxHeartbeats 1000000 in
theorem sorted_any (g n c : Nat) (l : List Nat) (w : World) (hr : Row w g 81 (nums64 l) (0, 0)) (hl : l.length = n) (hn : n ≤ 1000) : Calls Tryd.prog 76 #[.slice (some ⟨g, 0, none⟩) n c] w fun e w' => e = .returned (.bool (inOrd l)) ∧ ∃ k, w' = w.drewN k := by
  subst hl
  have hcell : ∀ j (hj : j < l.length), w.cell? ⟨g, j, none⟩ = some (.int .u64 (l[j] : Int)) := fun j hj => by
    rw [hr.cell]; simp [nums64, List.getElem?_eq_getElem hj]
  have HC := Lib.hid hcell
  have HI := Lib.hid (inOrd_iff l)
  have hn1 : (l.length : Int) ≤ 1000 := by omega
  obtain ⟨b, hb⟩ : ∃ b, inOrd l = b := ⟨_, rfl⟩
  rw [hb] at HI ⊢
  have HB := Lib.hid hb
  clear hr hcell hn hb
  go_enter Tryd.func76, Tryd.ntmps76
  go_wp2_with fail
  go_outline
  go_loopw [3] (fun i wr => ∃ k : Int, i = .int .i64 k ∧ -1 ≤ k ∧ k < l.length ∧ Hid (∃ m, wr = w.drewN m) ∧ Hid (∀ j (h : j + 1 < l.length), k ≤ j → l[j]'(by omega) ≤ l[j + 1])) (fun i _ => (intOf i).toNat)
  case atStart => exact ⟨_, rfl, by omega, by omega, Lib.hid ⟨0, rfl⟩, Lib.hid (fun j h hk => by omega)⟩
  case round =>
    obtain ⟨k, rfl, h0, h1, HD, HS⟩ := hrel
    by_cases hk : k ≤ 0
    · have hb : b = true := HI.out.2 fun j hj => HS.out j hj (by omega)
      clear HS HC HI HB
      subst hb
      go_wp2_with fail
      go_ret
      exact ⟨rfl, HD.out⟩
    · obtain ⟨p, rfl⟩ : ∃ p : Nat, k = (p : Int) + 1 := ⟨(k - 1).toNat, by omega⟩
      have hp : p + 1 < l.length := by omega
      have ca : wr.drew.cell? ⟨g, p + 1, none⟩ = some (.int .u64 (l[p + 1]'hp : Int)) := by obtain ⟨m, rfl⟩ := HD.out; exact HC.out (p + 1) hp
      have cb : wr.drew.cell? ⟨g, p, none⟩ = some (.int .u64 (l[p]'(by omega) : Int)) := by obtain ⟨m, rfl⟩ := HD.out; exact HC.out p (by omega)
      have HL := Lib.hid (less_any (l[p + 1]'hp) (l[p]'(by omega)) wr.drew)
      have HN := Lib.hid (show ¬ l[p + 1]'hp < l[p]'(by omega) → Hid (∀ j (h : j + 1 < l.length), (p : Int) ≤ j → l[j]'(by omega) ≤ l[j + 1]) from fun hlt => Lib.hid (fun j hj hpj => by
        by_cases e : j = p
        · subst e; omega
        · exact HS.out j hj (by omega)))
      have HF := Lib.hid (show l[p + 1]'hp < l[p]'(by omega) → b = false from fun hlt => by
        cases hb : b with
        | false => rfl
        | true => have := HI.out.1 hb p hp; omega)
      have HD1 := Lib.hid (show ∃ m, wr.drew = w.drewN m from by obtain ⟨m, rfl⟩ := HD.out; exact ⟨m + 1, rfl⟩)
      clear HC HI HB HS HD
      generalize l[p + 1]'hp = x at *
      generalize l[p]'(by omega) = y at *
      have hpi : (p : Int) + 1 < l.length := by omega
      have hp0 : (0 : Int) ≤ (p : Int) + 1 := by omega
      have hpj : (p : Int) < l.length := by omega
      have e0 : IntKind.i64.wrap (p : Int) = (p : Int) := IntWalk.i64_in _ (by omega)
      clear hp h0 h1 hk
      go_wp2_with fail
      go_still_tail 9, (by kernel_rfl)
      change wpList _ _ _ _ _ wr.drew
      go_wp2_with fail
      refine HL.out.mono ?_
      rintro e w1 ⟨rfl, rfl⟩
      by_cases hlt : x < y
      · obtain rfl := HF.out hlt
        have hd : decide (x < y) = true := by simpa using hlt
        rw [hd]
        clear HF HN
        go_wp2_with fail
        go_ret
        exact ⟨rfl, HD1.out⟩
      · have hd : decide (x < y) = false := by simpa using hlt
        have HS1 := HN.out hlt
        rw [hd]
        clear HF HN hlt
        go_wp2_with fail
        go_roundw
        case rel => exact ⟨p, by go_num, by omega, by omega, HD1, HS1⟩
        case measure => simp [intOf]

set_option maxRecDepth 100000 in
theorem inOrder_any (g n c : Nat) (l : List Nat) (w : World) (hr : Row w g 81 (nums64 l) (0, 0)) (hl : l.length = n) (hn : n ≤ 1000) : Calls Tryd.prog 64 #[.slice (some ⟨g, 0, none⟩) n c] w fun e w' => e = .returned (.bool (inOrd l)) ∧ ∃ k, w' = w.drewN k := by
  have HS := Lib.hid (sorted_any g n c l w hr hl hn)
  clear hr hl hn
  go_enter Tryd.func64, Tryd.ntmps64
  go_wp2_with fail
  refine HS.out.mono ?_
  rintro e w1 ⟨rfl, k, rfl⟩
  go_wp2
  go_ret
  exact ⟨rfl, k, rfl⟩

section
variable {w : World} {v : Value}
set_option maxRecDepth 100000 in
theorem append_none (h : NoTape w v) (s : ByteArray) : Calls Tryd.prog 29 #[v, .string s] w fun e w' => e = .returned (.int .i64 1) ∧ w = w' := by
  have HN := Lib.hid (isNone_none h)
  clear h
  go_enter Tryd.func29, Tryd.ntmps29
  go_wp2_with fail
  refine HN.out.mono ?_
  rintro e w1 ⟨rfl, rfl⟩
  go_wp2
  go_ret
  exact ⟨rfl, rfl⟩
set_option maxRecDepth 100000 in
theorem force_none (h : NoTape w v) : Calls Tryd.prog 52 #[v] w fun e w' => e = .returned (.int .i64 1) ∧ w = w' := by
  have HN := Lib.hid (isNone_none h)
  clear h
  go_enter Tryd.func52, Tryd.ntmps52
  go_wp2_with fail
  refine HN.out.mono ?_
  rintro e w1 ⟨rfl, rfl⟩
  go_wp2
  go_ret
  exact ⟨rfl, rfl⟩
set_option maxRecDepth 100000 in
theorem drop_none (h : NoTape w v) (n : Int) : Calls Tryd.prog 70 #[v, .int .u64 n] w fun e w' => e = .returned (.int .i64 1) ∧ w = w' := by
  have HN := Lib.hid (isNone_none h)
  clear h
  go_enter Tryd.func70, Tryd.ntmps70
  go_wp2_with fail
  refine HN.out.mono ?_
  rintro e w1 ⟨rfl, rfl⟩
  go_wp2
  go_ret
  exact ⟨rfl, rfl⟩
set_option maxRecDepth 100000 in
theorem cut_none (h : NoTape w v) (n : Int) : Calls Tryd.prog 68 #[v, .int .u64 n] w fun e w' => e = .returned (.int .i64 1) ∧ w = w' := by
  have HN := Lib.hid (isNone_none h)
  clear h
  go_enter Tryd.func68, Tryd.ntmps68
  go_wp2_with fail
  refine HN.out.mono ?_
  rintro e w1 ⟨rfl, rfl⟩
  go_wp2
  go_ret
  exact ⟨rfl, rfl⟩
set_option maxRecDepth 100000 in
theorem read_none (h : NoTape w v) (m n : Int) : Calls Tryd.prog 31 #[v, .int .u64 m, .int .u64 n] w fun e w' => e = .returned (.tuple #[.string ⟨#[]⟩, .int .i64 1]) ∧ w = w' := by
  have HN := Lib.hid (isNone_none h)
  clear h
  go_enter Tryd.func31, Tryd.ntmps31
  go_wp2_with fail
  refine HN.out.mono ?_
  rintro e w1 ⟨rfl, rfl⟩
  go_wp2
  go_ret2
  exact ⟨rfl, rfl⟩
set_option maxRecDepth 100000 in
theorem crash_none (h : NoTape w v) (n : Int) : Calls Tryd.prog 23 #[v, .int .i64 n] w fun e w' => e = .returned (.tuple #[]) ∧ w = w' := by
  have HN := Lib.hid (isNone_none h)
  clear h
  go_enter Tryd.func23, Tryd.ntmps23
  go_wp2_with fail
  refine HN.out.mono ?_
  rintro e w1 ⟨rfl, rfl⟩
  go_wp2
  exact bodyPost_ret (v := .tuple #[]) (by simp [results, Tryd.results23, go_sem]) rfl ⟨rfl, rfl⟩
set_option maxRecDepth 100000 in
theorem base_none (h : NoTape w v) : Calls Tryd.prog 46 #[v] w fun e w' => e = .returned (.int .u64 0) ∧ w = w' := by
  have HN := Lib.hid (isNone_none h)
  clear h
  go_enter Tryd.func46, Tryd.ntmps46
  go_wp2_with fail
  refine HN.out.mono ?_
  rintro e w1 ⟨rfl, rfl⟩
  go_wp2
  go_ret
  exact ⟨rfl, rfl⟩
set_option maxRecDepth 100000 in
theorem sure_none (h : NoTape w v) : Calls Tryd.prog 33 #[v] w fun e w' => e = .returned (.int .u64 0) ∧ w = w' := by
  have HN := Lib.hid (isNone_none h)
  clear h
  go_enter Tryd.func33, Tryd.ntmps33
  go_wp2_with fail
  refine HN.out.mono ?_
  rintro e w1 ⟨rfl, rfl⟩
  go_wp2
  go_ret
  exact ⟨rfl, rfl⟩
set_option maxRecDepth 100000 in
theorem End_none (h : NoTape w v) : Calls Tryd.prog 32 #[v] w fun e w' => e = .returned (.int .u64 0) ∧ w = w' := by
  have HN := Lib.hid (isNone_none h)
  clear h
  go_enter Tryd.func32, Tryd.ntmps32
  go_wp2_with fail
  refine HN.out.mono ?_
  rintro e w1 ⟨rfl, rfl⟩
  go_wp2
  go_ret
  exact ⟨rfl, rfl⟩
set_option maxRecDepth 100000 in
theorem room_none (h : NoTape w v) : Calls Tryd.prog 63 #[v] w fun e w' => e = .returned (.int .i64 0) ∧ w = w' := by
  have HN := Lib.hid (isNone_none h)
  clear h
  go_enter Tryd.func63, Tryd.ntmps63
  go_wp2_with fail
  refine HN.out.mono ?_
  rintro e w1 ⟨rfl, rfl⟩
  go_wp2
  go_ret
  exact ⟨rfl, rfl⟩
end

section
variable (d : TV) (w : World)
set_option maxRecDepth 100000 in
theorem base_any (h : d.In w) : Calls Tryd.prog 46 #[d.ptr] w fun e w' => e = .returned (.int .u64 (d.s.base : Int)) ∧ w = w' := by
  have HN := Lib.hid (isNone_any d w h)
  have c3 := h.c3
  clear h
  unfold TV.ptr at HN ⊢
  go_enter Tryd.func46, Tryd.ntmps46
  go_wp2_with fail
  refine HN.out.mono ?_
  rintro e w1 ⟨rfl, rfl⟩
  go_wp2
  go_ret
  exact ⟨rfl, rfl⟩
set_option maxRecDepth 100000 in
theorem sure_any (h : d.In w) : Calls Tryd.prog 33 #[d.ptr] w fun e w' => e = .returned (.int .u64 (d.s.sure : Int)) ∧ w = w' := by
  have HN := Lib.hid (isNone_any d w h)
  have c4 := h.c4
  clear h
  unfold TV.ptr at HN ⊢
  go_enter Tryd.func33, Tryd.ntmps33
  go_wp2_with fail
  refine HN.out.mono ?_
  rintro e w1 ⟨rfl, rfl⟩
  go_wp2
  go_ret
  exact ⟨rfl, rfl⟩
set_option maxRecDepth 100000 in
theorem End_any (h : d.In w) : Calls Tryd.prog 32 #[d.ptr] w fun e w' => e = .returned (.int .u64 (d.s.fin : Int)) ∧ w' = w.drew := by
  have HN := Lib.hid (isNone_any d w h)
  have HE := Lib.hid (end_any d w h)
  clear h
  unfold TV.ptr at HN HE ⊢
  go_enter Tryd.func32, Tryd.ntmps32
  go_wp2_with fail
  refine HN.out.mono ?_
  rintro e w1 ⟨rfl, rfl⟩
  go_wp2_with fail
  refine HE.out.mono ?_
  rintro e w1 ⟨rfl, rfl⟩
  go_wp2
  go_ret
  exact ⟨rfl, rfl⟩
set_option maxRecDepth 100000 in
theorem room_any (h : d.In w) : Calls Tryd.prog 63 #[d.ptr] w fun e w' => e = .returned (.int .i64 ((d.s.room - d.s.l.length : Nat) : Int)) ∧ ∃ n, w' = w.drewN n := by
  have HN := Lib.hid (isNone_any d w h)
  have c1 := h.c1
  have c2 := h.c2
  have h1 := h.ok.lr
  have h2 := h.ok.rm
  have hr : ((d.s.room - d.s.l.length : Nat) : Int) = (d.s.room : Int) - (d.s.l.length : Int) := by omega
  rw [hr]
  have h3 : (d.s.l.length : Int) ≤ (d.s.room : Int) := by omega
  have h4 : (d.s.room : Int) ≤ 9223372036854775807 := by omega
  clear h hr h1 h2
  unfold TV.ptr at HN ⊢
  go_enter Tryd.func63, Tryd.ntmps63
  go_wp2_with fail
  refine HN.out.mono ?_
  rintro e w1 ⟨rfl, rfl⟩
  go_wp2_with fail
  go_quiet (fail)
  go_wp2
  go_ret
  exact ⟨rfl, _, rfl⟩
end
end Go.Proofs.YtjahkaockjhibaaDoor
