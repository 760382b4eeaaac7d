/-
  Bytes that grow, anywhere in a block of bytes. (As for the tape.)
-/
import Derived.Test.YtnmfgmlmjbfdcaaMBlkAB
import Derived.Lib.Strings
import Derived.Lib.AppendStr
import Derived.RangeFuncBox
import Derived.Laws.Append
import Derived.Laws.AppendOwn
namespace Go.Proofs.Ytnmfgmlmjbfdcaa
open Go.RowKit

theorem strCells_byt (s : ByteArray) : Lib.strCells s = byt (txt s) := rfl

theorem Try.infoU8 : (Try.prog.info? 5).map (fun i => (i.zero, i.size, i.bytes)) = some (some (.int .u8 0), 1, 1) := by kernel_rfl

/-- The bytes of a tape: nil, or somewhere in a block of bytes that has room for c from there on. -/
structure Bts (w : World) (v : Option Addr) (l : List UInt8) (c : Nat) : Prop where
  le : l.length ≤ c
  at_ : (v = none ∧ c = 0) ∨ ∃ g o cs, v = some ⟨g, o, none⟩ ∧ Row w g 5 cs (0, 0) ∧ o + c ≤ cs.length ∧ ∀ j, j < l.length → cs[o + j]? = (byt l)[j]?

/-- The block of a slice. -/
def blk (v : Option Addr) : Option Nat := v.map (·.block)

section
variable {w w' : World} {v : Option Addr} {l : List UInt8} {c : Nat} {F : Nat → Prop}
theorem Bts.only (h : Bts w v l c) (ho : Only F w w') (hF : ∀ k, blk v = some k → ¬ F k) : Bts w' v l c := by
  refine ⟨h.le, ?_⟩
  rcases h.at_ with h1 | ⟨g, o, cs, rfl, hr, h2⟩
  · exact .inl h1
  · exact .inr ⟨g, o, cs, rfl, hr.only ho (hF g rfl), h2⟩
theorem Bts.lt (h : Bts w v l c) : ∀ k, blk v = some k → k < w.heap.size := by
  rcases h.at_ with ⟨rfl, _⟩ | ⟨g, o, cs, rfl, hr, h2⟩
  · intro k hk; cases hk
  · intro k hk; injection hk with hk; exact hk ▸ hr.lt
theorem Bts.u8 (h : Bts w v l c) {k : Nat} (hk : blk v = some k) : ∃ cs, Row w k 5 cs (0, 0) := by
  rcases h.at_ with ⟨rfl, _⟩ | ⟨g, o, cs, rfl, hr, h2⟩
  · cases hk
  · injection hk with hk; exact hk ▸ ⟨cs, hr⟩
theorem Bts.reads (h : Bts w v l c) : Reads 5 w v l := fun h0 => by
  have := h.le
  rcases h.at_ with ⟨rfl, rfl⟩ | ⟨g, o, cs, rfl, hr, h1, h2⟩
  · omega
  · exact ⟨g, o, cs, (0, 0), rfl, hr, h2⟩
theorem Bts.nil (w : World) : Bts w none [] 0 := ⟨Nat.le_refl _, .inl ⟨rfl, rfl⟩⟩
/-- A piece of the bytes, without room behind it. -/
theorem Bts.piece (h : Bts w v l c) (a b : Nat) (hab : a ≤ b) (hb : b ≤ l.length) : Bts w (if b = a then v else v.map (·.add a)) ((l.take b).drop a) (b - a) := by
  have hl : ((l.take b).drop a).length = b - a := by rw [List.length_drop, List.length_take]; omega
  have hle := h.le
  refine ⟨by omega, ?_⟩
  rcases h.at_ with ⟨rfl, rfl⟩ | ⟨g, o, cs, rfl, hr, h1, h2⟩
  · refine .inl ⟨?_, by omega⟩
    split <;> rfl
  · by_cases e : b = a
    · rw [if_pos e]
      refine .inr ⟨g, o, cs, rfl, hr, by omega, fun j hj => ?_⟩
      rw [hl] at hj; omega
    · rw [if_neg e]
      refine .inr ⟨g, o + a, cs, by simp [Addr.add_lit], hr, by omega, fun j hj => ?_⟩
      rw [hl] at hj
      rw [show o + a + j = o + (a + j) by omega, h2 (a + j) (by omega)]
      rw [byt_get l (a + j) (by omega), byt_get _ j (by rw [hl]; exact hj)]
      simp [List.getElem_drop]

theorem splice_room (cur : List Value) (o n : Nat) (l m : List UInt8) (hn : l.length = n) (hle : o + n + m.length ≤ cur.length) (h : ∀ j, j < l.length → cur[o + j]? = (byt l)[j]?) (j : Nat) (hj : j < (l ++ m).length) :
    (splice cur (o + n) (byt m))[o + j]? = (byt (l ++ m))[j]? := by
  subst hn
  have e : splice cur (o + l.length) (byt m) = cur.take (o + l.length) ++ byt m ++ cur.drop (o + l.length + (byt m).length) := by simp [splice]
  rw [List.length_append] at hj
  have hT : (cur.take (o + l.length)).length = o + l.length := by rw [List.length_take]; omega
  rw [e, byt_append, List.append_assoc]
  by_cases h1 : j < l.length
  · rw [List.getElem?_append_left (by rw [hT]; omega), List.getElem?_take, if_pos (by omega), h j h1, List.getElem?_append_left (by rw [byt_length]; exact h1)]
  · rw [List.getElem?_append_right (by rw [hT]; omega), hT, List.getElem?_append_left (by rw [byt_length]; omega), List.getElem?_append_right (l₁ := byt l) (by rw [byt_length]; omega), byt_length]
    congr 1
    omega

theorem splice_len (cur : List Value) (o : Nat) (m : List UInt8) (h : o + m.length ≤ cur.length) : (splice cur o (byt m)).length = cur.length := length_splice cur o (byt m) (by rw [byt_length]; exact h)

/-- A text put behind the bytes. -/
theorem Bts.append (h : Bts w v l c) (s : ByteArray) (ty : TypeId) (hle : l.length + s.size ≤ 100000000) :
    ∃ v' c' w', (Builtin.append_ #[69, 9] ty #[.slice v l.length c, .string s]).run Try.prog w = .ok (.slice v' (l.length + s.size) c') w' ∧ Bts w' v' (l ++ txt s) c' ∧ w.grownBy w' (blk v) ∧ ∀ k, blk v' = some k → blk v = some k ∨ w.heap.size ≤ k := by
  obtain ⟨i0, hi0, hz0, hz1, hz2⟩ := info_parts Try.infoU8
  have hc := h.le
  have hf := Lib.run_firstCells_string (P := Try.prog) w 1 s
  have hlen : (l ++ txt s).length = l.length + s.size := by rw [List.length_append, txt_length]
  have grown : ∀ old, ∃ k : Nat, (l.length + s.size) + k = grownCap w (l.length + s.size) old 5 := fun old => ⟨_, Nat.add_sub_cancel' (grownCap_ge w (l.length + s.size) old 5)⟩
  have new : ∀ (old : Nat) (row : Option Nat),
      Bts (w.drew.alloc (.cells ((byt l).toArray ++ (Lib.strCells s).toArray ++ Builtin.zeroCells (Value.int .u8 0).cells (grownCap w (l.length + s.size) old 5 - (l.length + s.size))) 5)) (some ⟨w.heap.size, 0, none⟩) (l ++ txt s) (grownCap w (l.length + s.size) old 5) ∧
      w.grownBy (w.drew.alloc (.cells ((byt l).toArray ++ (Lib.strCells s).toArray ++ Builtin.zeroCells (Value.int .u8 0).cells (grownCap w (l.length + s.size) old 5 - (l.length + s.size))) 5)) row := by
    intro old row
    obtain ⟨k, hk⟩ := grown old
    refine ⟨⟨by omega, .inr ⟨w.heap.size, 0, byt l ++ byt (txt s) ++ (Builtin.zeroCells (Value.int .u8 0).cells (grownCap w (l.length + s.size) old 5 - (l.length + s.size))).toList, rfl, ?_, ?_, ?_⟩⟩, ⟨rfl, rfl, rfl, by simp, fun k hk _ => heap_alloc_old w.drew _ hk⟩⟩
    · have := heap_alloc_new w.drew (.cells ((byt l).toArray ++ (Lib.strCells s).toArray ++ Builtin.zeroCells (Value.int .u8 0).cells (grownCap w (l.length + s.size) old 5 - (l.length + s.size))) 5)
      unfold Row
      rw [show w.drew.heap.size = w.heap.size from rfl] at this
      rw [this]
      simp [strCells_byt]
    · simp only [List.length_append, byt_length, Array.length_toList, size_zeroCells]
      rw [show (Value.int IntKind.u8 0).cells.size = 1 from rfl]
      have hds : s.data.size = s.size := rfl
      omega
    · intro j hj
      rw [Nat.zero_add, byt_append]
      rw [List.getElem?_append_left (by rw [List.length_append, byt_length, byt_length]; rw [List.length_append] at hj; exact hj)]
  rcases h.at_ with ⟨rfl, rfl⟩ | ⟨g, o, cs, rfl, hr, h1, h2⟩
  · obtain rfl : l = [] := List.eq_nil_of_length_eq_zero (by omega)
    by_cases hm : s.size = 0
    · have hs : txt s = [] := List.eq_nil_of_length_eq_zero (by rw [txt_length]; exact hm)
      refine ⟨none, 0, w, ?_, by rw [hs]; exact Bts.nil w, only_refl w _, fun k hk => by cases hk⟩
      rw [hm] at hf
      simp [Builtin.append_, run_underlying Try.underlying69, run_underlying Try.underlying9, sizeOf, typeInfo, hi0, hz1, Builtin.lenOf, hm, hf]
    · have hr := run_append_nil_string (P := Try.prog) w 69 9 ty 5 i0 (.int .u8 0) Try.underlying69 Try.underlying9 hi0 hz0 s (by omega) (by simp at hle; omega) (by rw [hz2]; simp at hle; omega)
      obtain ⟨n1, n2⟩ := new 0 (blk none)
      have e1 : (s.data.map fun b => Value.int .u8 b.toNat) = (Lib.strCells s).toArray := by
        apply Array.ext'
        simp [Lib.strCells]
      rw [e1] at hr
      simp only [List.length_nil, Nat.zero_add, show (byt []).toArray = #[] from rfl, Array.empty_append] at n1 n2 ⊢
      exact ⟨_, _, _, hr, n1, n2, fun k hk => .inr (by injection hk with hk; exact Nat.le_of_eq hk)⟩
  · by_cases hroom : l.length + s.size ≤ c
    · have hst := run_storeCells_at Try.prog g (o + l.length) 5 (Lib.strCells s) 0 cs.toArray w hr (by rw [Lib.strCells_length]; simp; omega) (Lib.strCells_oneCell s)
      simp only [Nat.add_zero] at hst
      refine ⟨some ⟨g, o, none⟩, c, w.setRow g (splice cs (o + l.length) (byt (txt s))).toArray, ?_, ?_, ?_, fun k hk => .inl hk⟩
      · simp only [List.append_assoc] at hst
        have hst2 : (storeCells ⟨g, o + l.length, none⟩ (Lib.strCells s)).run Try.prog w = .ok () (w.setRow g (splice cs (o + l.length) (byt (txt s))).toArray) := by
          rw [hst]
          simp [splice, strCells_byt]
        simp [Builtin.append_, run_underlying Try.underlying69, run_underlying Try.underlying9, sizeOf, typeInfo, hi0, hz1, Builtin.lenOf, hroom, hf, Addr.add_lit, hst2]
      · refine ⟨by rw [hlen]; exact hroom, .inr ⟨g, o, _, rfl, hr.setRow_, ?_, ?_⟩⟩
        · rw [splice_len _ _ _ (by rw [txt_length]; omega)]; exact h1
        · exact splice_room cs o l.length l (txt s) rfl (by rw [txt_length]; omega) h2
      · exact ⟨rfl, rfl, rfl, by simp, fun k _ hk => setRow_other w g k _ (fun e => hk (by simp [blk, e]))⟩
    · have holds : ∀ j u, (byt l)[j]? = some u → w.cell? ((⟨g, o, none⟩ : Addr).add j) = some u := fun j u hj => by
        have hjl : j < l.length := by have := (List.getElem?_eq_some_iff.1 hj).1; rwa [byt_length] at this
        rw [Addr.add_lit, hr.cell, h2 j hjl]; exact hj
      have hr := Lib.run_append_grow_string (P := Try.prog) w 69 9 ty 5 i0 (.int .u8 0) Try.underlying69 Try.underlying9 hi0 hz0 ⟨g, o, none⟩ l.length c (byt l) (by rw [hz1, byt_length, Nat.mul_one]) holds s (by omega) (by omega) (by rw [hz2]; exact growslice_fits (by omega) (by omega))
      obtain ⟨n1, n2⟩ := new c (blk (some ⟨g, o, none⟩))
      exact ⟨_, _, _, hr, n1, n2, fun k hk => .inr (by injection hk with hk; exact Nat.le_of_eq hk)⟩

theorem wpList_tape_append {ops : Array Oper} {rest : List Oper} {o : Oper} {a : Act} {Q : Exit → Act → World → Prop} (hgd : o.guard = none) (sl x : Operand)
    (ho : o.op = .call { callee := .builtin .append, args := #[sl, x], argTypes := #[69, 9] }) (hs : a.eval sl = .slice v l.length c) (hb : Bts w v l c) (s : ByteArray) (hx : a.eval x = .string s) (hle : l.length + s.size ≤ 100000000)
    (h : ∀ v' c' w', Bts w' v' (l ++ txt s) c' → w.grownBy w' (blk v) → (∀ k, blk v' = some k → blk v = some k ∨ w.heap.size ≤ k) → wpList Try.prog ops Q rest (a.put o.dst (.slice v' (l.length + s.size) c')) w') : wpList Try.prog ops Q (o :: rest) a w := by
  refine wpList_plain hgd fun K hK => ?_
  obtain ⟨v', c', w', hr, h2, h3, h4⟩ := hb.append s o.type hle
  unfold Oper.wp execOp
  simp only [ho, resolve, invoke, builtin, Sem.run_bind, Sem.run_pure, Result.andThen_ok, List.map_toArray, List.map_cons, List.map_nil, hs, hx, hr]
  exact hK _ _ (h v' c' w' h2 h3 h4)
end

theorem Bts.kept {w w' : World} {v : Option Addr} {l : List UInt8} {c : Nat} {row : Option Nat} (h : Bts w v l c) (hg : w.grownBy w' row) (hr : ∀ r, row = some r → ∃ o : Obj, w.heap[r]? = some o ∧ o.isCells = false) : Bts w' v l c := by
  refine ⟨h.le, ?_⟩
  rcases h.at_ with h1 | ⟨g, o, cs, rfl, hrow, h2⟩
  · exact .inl h1
  · refine .inr ⟨g, o, cs, rfl, hrow.grown hg (fun e => ?_), h2⟩
    obtain ⟨o', ho, hc⟩ := hr g e.symm
    unfold Row at hrow
    rw [hrow] at ho
    cases ho
    cases hc
theorem Bts.below {w w' : World} {v : Option Addr} {l : List UInt8} {c : Nat} (h : Bts w v l c) (hb : Below w.heap.size w w') : Bts w' v l c := h.only (Only.below hb fun _ => False) fun _ _ hf => hf
end Go.Proofs.Ytnmfgmlmjbfdcaa
