/-
  The code's log: a row of records that lies anywhere; one more onto it; a piece of it.
-/
import Derived.Test.YtjahkaockjhibaaDoorMWRef
import Derived.Test.YtjahkaockjhibaaDoorMTapB
namespace Go.Proofs.YtjahkaockjhibaaDoor
open Go.RowKit

/-- A log's row of records: nil, or somewhere in a block of records that has room for c from there on. -/
structure EntO (w : World) (A : Option Addr) (l : List Ent) (c : Nat) : Prop where
  le : l.length ≤ c
  at_ : (A = none ∧ c = 0) ∨ ∃ g o cs, A = some ⟨g, o, none⟩ ∧ Row w g 48 cs (0, 0) ∧ o + c * 3 ≤ cs.length ∧ ∀ j, j < l.length * 3 → cs[o + j]? = (ents l)[j]?

section
variable {w w' : World} {A : Option Addr} {l : List Ent} {c : Nat} {F : Nat → Prop}
theorem EntO.only (h : EntO w A l c) (ho : Only F w w') (hF : ∀ k, blk A = some k → ¬ F k) : EntO w' A l c := by
  refine ⟨h.le, ?_⟩
  rcases h.at_ with h1 | ⟨g, o, cs, rfl, hr, h2⟩
  · exact .inl h1
  · exact .inr ⟨g, o, cs, rfl, hr.only ho (hF g rfl), h2⟩
theorem EntO.keeps (h : EntO w A l c) (hb : Below w.heap.size w w') : EntO w' A l c := h.only (Only.below hb fun _ => False) fun _ _ hf => hf
theorem EntO.at_block (h : EntO w A l c) : ∀ k, blk A = some k → ∃ cs : List Value, Row w k 48 cs (0, 0) := by
  rcases h.at_ with ⟨rfl, _⟩ | ⟨g, o, cs, rfl, hr, h2⟩
  · intro k hk; cases hk
  · intro k hk; injection hk with hk; exact hk ▸ ⟨cs, hr⟩
theorem EntO.lt (h : EntO w A l c) : ∀ k, blk A = some k → k < w.heap.size := fun k hk => (h.at_block k hk).elim fun _ h => h.lt
theorem EntO.nil (w : World) : EntO w none [] 0 := ⟨Nat.le_refl _, .inl ⟨rfl, rfl⟩⟩
theorem EntO.rows (h : EntO w A l c) : Ents w A l := ⟨fun i hi => by
  have hle := h.le
  rcases h.at_ with ⟨_, h0⟩ | ⟨g, o, cs, rfl, hr, h1, h2⟩
  · omega
  · refine ⟨g, o, rfl, hr.lt, ?_, ?_, ?_⟩
    · rw [hr.cell, h2 _ (by omega)]; exact ents_at l i hi 0 (by omega)
    · rw [hr.cell, show o + i * 3 + 1 = o + (i * 3 + 1) by omega, h2 _ (by omega)]; exact ents_at l i hi 1 (by omega)
    · rw [hr.cell, show o + i * 3 + 2 = o + (i * 3 + 2) by omega, h2 _ (by omega)]; exact ents_at l i hi 2 (by omega)⟩
theorem EntO.of_gr {w0 : World} (h : GrE w0 l (.slice A l.length c) w) : EntO w A l c := by
  rcases h.1.2 with ⟨hv, h0⟩ | ⟨g, cap, cur, hv, hb, hg, hc, hm, hs, ht⟩
  · simp only [Value.slice.injEq] at hv
    obtain ⟨rfl, _, rfl⟩ := hv
    obtain rfl : l = [] := List.eq_nil_of_length_eq_zero h0
    exact EntO.nil w
  · simp only [Value.slice.injEq] at hv
    obtain ⟨rfl, _, rfl⟩ := hv
    refine ⟨hc, .inr ⟨g, 0, cur.toList, rfl, hg, by simp at hs ⊢; omega, fun j hj => ?_⟩⟩
    rw [Nat.zero_add, ← ht, List.getElem?_take, if_pos hj]

theorem ents_drop (l : List Ent) (n j : Nat) (hn : n ≤ l.length) : (ents (l.drop n))[j]? = (ents l)[n * 3 + j]? := by
  conv => rhs; rw [← List.take_append_drop n l]
  have ht : (ents (l.take n)).length = n * 3 := by rw [ents_length, List.length_take, Nat.min_eq_left hn]
  rw [ents_app, List.getElem?_append_right (by rw [ht]; omega), ht]
  congr 1
  omega
/-- The records from one on, without room behind them. -/
theorem EntO.piece (h : EntO w A l c) (n : Nat) (hn : n ≤ l.length) : EntO w (if l.length = n then A else A.map (·.add (n * 3))) (l.drop n) (l.length - n) := by
  have hl : (l.drop n).length = l.length - n := List.length_drop
  have hle := h.le
  refine ⟨by omega, ?_⟩
  rcases h.at_ with ⟨rfl, rfl⟩ | ⟨g, o, cs, rfl, hr, h1, h2⟩
  · refine .inl ⟨?_, by omega⟩
    split <;> rfl
  · by_cases e : l.length = n
    · rw [if_pos e]
      refine .inr ⟨g, o, cs, rfl, hr, by omega, fun j hj => ?_⟩
      rw [hl] at hj; omega
    · rw [if_neg e]
      refine .inr ⟨g, o + n * 3, cs, by simp [Addr.add_lit], hr, by omega, fun j hj => ?_⟩
      rw [hl] at hj
      rw [show o + n * 3 + j = o + (n * 3 + j) by omega, h2 _ (by omega), ents_drop l n j hn]
theorem blk_pieceE {a b k : Nat} (hk : blk (if b = a then A else A.map (·.add (a * 3))) = some k) : blk A = some k := by
  split at hk
  · exact hk
  · cases A with
    | none => cases hk
    | some ad => cases ad; simp [blk, Addr.add] at hk ⊢; split at hk <;> exact hk

theorem splice_roomE (cur : List Value) (o : Nat) (l : List Ent) (x : Ent) (hle : o + l.length * 3 + 3 ≤ cur.length) (h : ∀ j, j < l.length * 3 → cur[o + j]? = (ents l)[j]?) (j : Nat) (hj : j < (l ++ [x]).length * 3) :
    (cur.take (o + l.length * 3) ++ entC x ++ cur.drop (o + l.length * 3 + 3))[o + j]? = (ents (l ++ [x]))[j]? := by
  rw [List.length_append, List.length_singleton] at hj
  have hT : (cur.take (o + l.length * 3)).length = o + l.length * 3 := by rw [List.length_take]; omega
  rw [ents_snoc, List.append_assoc]
  by_cases h1 : j < l.length * 3
  · rw [List.getElem?_append_left (by rw [hT]; omega), List.getElem?_take, if_pos (by omega), h j h1, List.getElem?_append_left (by rw [ents_length]; exact h1)]
  · rw [List.getElem?_append_right (by rw [hT]; omega), hT, List.getElem?_append_left (by show _ < 3; omega), List.getElem?_append_right (l₁ := ents l) (by rw [ents_length]; omega), ents_length]
    congr 1
    omega

set_option maxRecDepth 100000 in
/-- One more behind the records. -/
theorem EntO.append (h : EntO w A l c) (x : Ent) (ad : Addr) (c2 : Nat) (hnews : ∀ j u, (entC x)[j]? = some u → w.cell? (ad.add j) = some u) (ty : TypeId) (hle : l.length ≤ 5000000) :
    ∃ g o c' w', (Builtin.append_ #[38, 38] ty #[.slice A l.length c, .slice (some ad) 1 c2]).run Tryd.prog w = .ok (.slice (some ⟨g, o, none⟩) (l.length + 1) c') w' ∧ EntO w' (some ⟨g, o, none⟩) (l ++ [x]) c' ∧ w.grownBy w' (blk A) ∧ (blk A = some g ∨ w.heap.size ≤ g) := by
  obtain ⟨i0, hi0, hz0, hz1, hz2⟩ := info_parts Tryd.infoEnt
  have hc := h.le
  have hx3 : (entC x).length = 3 := rfl
  have hf := run_firstCells_some (P := Tryd.prog) w i0.size 1 ad 1 c2 (entC x) (by rw [hz1]; rfl) hnews
  have hlen : (l ++ [x]).length = l.length + 1 := by simp
  have new : ∀ (old : Nat) (row : Option Nat),
      EntO (w.drew.alloc (.cells ((ents l).toArray ++ (entC x).toArray ++ Builtin.zeroCells (Value.agg #[.int .u64 0, .int .u8 0, .string ⟨#[]⟩]).cells (grownCap w (l.length + 1) old 48 - (l.length + 1))) 48)) (some ⟨w.heap.size, 0, none⟩) (l ++ [x]) (grownCap w (l.length + 1) old 48) ∧
      w.grownBy (w.drew.alloc (.cells ((ents l).toArray ++ (entC x).toArray ++ Builtin.zeroCells (Value.agg #[.int .u64 0, .int .u8 0, .string ⟨#[]⟩]).cells (grownCap w (l.length + 1) old 48 - (l.length + 1))) 48)) row := by
    intro old row
    have hk := grownCap_ge w (l.length + 1) old 48
    refine ⟨⟨by omega, .inr ⟨w.heap.size, 0, ents l ++ entC x ++ (Builtin.zeroCells (Value.agg #[.int .u64 0, .int .u8 0, .string ⟨#[]⟩]).cells (grownCap w (l.length + 1) old 48 - (l.length + 1))).toList, rfl, ?_, ?_, ?_⟩⟩, ⟨rfl, rfl, rfl, by simp, fun k hk _ => heap_alloc_old w.drew _ hk⟩⟩
    · have := heap_alloc_new w.drew (.cells ((ents l).toArray ++ (entC x).toArray ++ Builtin.zeroCells (Value.agg #[.int .u64 0, .int .u8 0, .string ⟨#[]⟩]).cells (grownCap w (l.length + 1) old 48 - (l.length + 1))) 48)
      unfold Row
      rw [show w.drew.heap.size = w.heap.size from rfl] at this
      rw [this]
      simp
    · simp only [List.length_append, ents_length, hx3, Array.length_toList, size_zeroCells]
      rw [show (Value.agg #[.int .u64 0, .int .u8 0, .string ⟨#[]⟩]).cells.size = 3 from rfl]
      omega
    · intro j hj
      rw [Nat.zero_add, ents_snoc]
      rw [List.getElem?_append_left (by rw [List.length_append, ents_length, hx3]; rw [List.length_append] at hj; simp at hj; omega)]
  rcases h.at_ with ⟨rfl, rfl⟩ | ⟨g, o, cs, rfl, hr, h1, h2⟩
  · obtain rfl : l = [] := List.eq_nil_of_length_eq_zero (by omega)
    have hrn := run_append_nil (P := Tryd.prog) w 38 ty 48 i0 _ Tryd.underlying38 hi0 hz0 ad 1 c2 (entC x) (by rw [hz1]; rfl) hnews (by omega) (by omega) (by rw [hz2]; omega)
    obtain ⟨n1, n2⟩ := new 0 (blk none)
    simp only [List.length_nil, Nat.zero_add, show (ents []).toArray = #[] from rfl, Array.empty_append] at n1 n2 ⊢
    exact ⟨_, _, _, _, hrn, n1, n2, .inr (Nat.le_refl _)⟩
  · by_cases hroom : l.length + 1 ≤ c
    · have hst := run_storeCells_at Tryd.prog g (o + l.length * 3) 48 (entC x) 0 cs.toArray w hr (by rw [hx3]; simp; omega) (entC_one x)
      simp only [Nat.add_zero, hx3] at hst
      refine ⟨g, o, c, w.setRow g (cs.take (o + l.length * 3) ++ entC x ++ cs.drop (o + l.length * 3 + 3)).toArray, ?_, ?_, ?_, .inl rfl⟩
      · simp [Builtin.append_, run_underlying Tryd.underlying38, sizeOf, typeInfo, hi0, hz1, Builtin.lenOf, hroom, Addr.add_lit]
        rw [hz1] at hf
        simp [hf, hst]
      · refine ⟨by omega, .inr ⟨g, o, _, rfl, hr.setRow_, ?_, ?_⟩⟩
        · simp only [List.length_append, List.length_take, List.length_drop, hx3]; omega
        · exact splice_roomE cs o l x (by omega) h2
      · exact ⟨rfl, rfl, rfl, by simp, fun k _ hk => setRow_other w g k _ (fun e => hk (by simp [blk, e]))⟩
    · have holds : ∀ j u, (ents l)[j]? = some u → w.cell? ((⟨g, o, none⟩ : Addr).add j) = some u := fun j u hj => by
        have hjl : j < l.length * 3 := by have := (List.getElem?_eq_some_iff.1 hj).1; rwa [ents_length] at this
        rw [Addr.add_lit, hr.cell, h2 j hjl]; exact hj
      have hrn := run_append_grow (P := Tryd.prog) w 38 ty 48 i0 _ Tryd.underlying38 hi0 hz0 ⟨g, o, none⟩ l.length c (ents l) (by rw [hz1, ents_length]) holds ad 1 c2 (entC x) (by rw [hz1]; rfl) hnews (by omega) (by omega) (by rw [hz2]; exact growslice_fits (by omega) (by omega))
      obtain ⟨n1, n2⟩ := new c (blk (some ⟨g, o, none⟩))
      exact ⟨_, _, _, _, hrn, n1, n2, .inr (Nat.le_refl _)⟩

set_option maxRecDepth 100000 in
theorem step_entO {ops : Array Oper} {o : Oper} {a : Act} {K : Act → World → Prop} {Q : Exit → Act → World → Prop} {E : Prop} (hgd : o.guard = none) (sl x : Operand)
    (ho : o.op = .call { callee := .builtin .append, args := #[sl, x], argTypes := #[38, 38] }) (hs : a.eval sl = .slice A l.length c) (hb : EntO w A l c) (y : Ent) (ad : Addr) (c2 : Nat) (hx : a.eval x = .slice (some ad) 1 c2)
    (hnews : ∀ j u, (entC y)[j]? = some u → w.cell? (ad.add j) = some u) (hle : l.length ≤ 5000000)
    (h : ∀ g o' c' w', EntO w' (some ⟨g, o', none⟩) (l ++ [y]) c' → w.grownBy w' (blk A) → (blk A = some g ∨ w.heap.size ≤ g) → K (a.put o.dst (.slice (some ⟨g, o', none⟩) (l.length + 1) c')) w') :
    if Region.wanted o (yielded ops a.tmps) = true then Oper.wp Tryd.prog o a w K Q else E := by
  have hw : Region.wanted o (yielded ops a.tmps) = true := by simp [Region.wanted, hgd]
  rw [if_pos hw]
  obtain ⟨g, o', c', w', hr, h2, h3, h4⟩ := hb.append y ad c2 hnews o.type hle
  unfold Oper.wp execOp
  simp only [ho, resolve, invoke, builtin, Sem.run_bind, Sem.run_pure, Result.andThen_ok, List.map_toArray, List.map_cons, List.map_nil, hs, hx, hr]
  exact h g o' c' w' h2 h3 h4
end

set_option maxRecDepth 100000 in
theorem run_pieceE {v : Option Addr} {n c a b : Nat} (w : World) (h1 : a ≤ b) (h2 : b ≤ c) :
    (Instr.slice 38 (.slice v n c) (some (.int .i64 (a : Int))) (some (.int .i64 (b : Int))) (some (.int .i64 (b : Int)))).run Tryd.prog w = .ok (.slice (if b = a then v else v.map (·.add (a * 3))) (b - a) (b - a)) w := by
  rw [run_slice_lhm (w := w) 38 _ n c Tryd.underlying38 .i64 .i64 .i64 (a : Int) (b : Int) (b : Int) (by omega) (by omega) (by omega) (by omega), show (sizeOf (Tryd.prog.elem 38)).run Tryd.prog w = .ok 3 w by kernel_rfl]
  simp only [Result.andThen, sliced, Int.toNat_natCast]
end Go.Proofs.YtjahkaockjhibaaDoor

/-
  The code's log: where it lies; its short calls.
-/
namespace Go.Proofs.YtjahkaockjhibaaDoor
open Go.RowKit

/-- The code's log: its block, its tape, its row, and the plain log that it is. -/
structure WV where
  B : Nat
  t : TV
  A : Option Addr
  c : Nat
  g : LG
namespace WV
def ptr (d : WV) : Value := .pointer (some ⟨d.B, 0, none⟩)
def cells (d : WV) : List Value := [.pointer (some ⟨d.t.A, 0, none⟩), .slice d.A d.g.l.length d.c, .int .u64 (d.g.last : Int), .int .u64 (d.g.stable : Int)]
def hard (d : WV) (k : Nat) : Prop := k = d.B ∨ d.t.mine k
def mine (d : WV) (k : Nat) : Prop := d.hard k ∨ blk d.A = some k
structure In (d : WV) (w : World) : Prop where
  row : Row w d.B 74 d.cells (0, 0)
  tape : d.t.In w
  st : d.t.s = d.g.st
  own : EntO w d.A d.g.l d.c
  ok : d.g.Ok
section
variable {d : WV} {w w' : World} {F : Nat → Prop}
theorem In.mineLt (h : d.In w) : ∀ k, d.mine k → k < w.heap.size := by
  rintro k ((rfl | hk) | hk)
  · exact h.row.lt
  · exact h.tape.mineLt k hk
  · exact h.own.lt k hk
theorem In.bt (h : d.In w) : ¬ d.t.mine d.B := by
  rintro (e | hk)
  · exact h.row.ne_ h.tape.dev (by decide) e
  · obtain ⟨cs, hr⟩ := h.tape.bts.u8 hk
    exact h.row.ne_ hr (by decide) rfl
theorem In.ba (h : d.In w) : ∀ k, blk d.A = some k → k ≠ d.B := fun k hk e => by
  obtain ⟨cs, hr⟩ := h.own.at_block k hk
  exact hr.ne_ h.row (by decide) e
theorem In.ta (h : d.In w) : ∀ k, blk d.A = some k → ¬ d.t.mine k := fun k hk e => by
  obtain ⟨cs, hr⟩ := h.own.at_block k hk
  rcases e with e | e
  · exact hr.ne_ h.tape.dev (by decide) e
  · obtain ⟨cs2, hr2⟩ := h.tape.bts.u8 e
    exact hr.ne_ hr2 (by decide) rfl
theorem In.ah (h : d.In w) : ∀ k, blk d.A = some k → ¬ d.hard k := fun k hk e => e.elim (h.ba k hk) (h.ta k hk)
theorem In.only (h : d.In w) (ho : Only F w w') (hF : ∀ k, d.mine k → ¬ F k) : d.In w' := ⟨h.row.only ho (hF _ (.inl (.inl rfl))), h.tape.only ho (fun k hk => hF k (.inl (.inr hk))), h.st, h.own.only ho fun k hk => hF k (.inr hk), h.ok⟩
theorem In.keeps (h : d.In w) (hb : Below w.heap.size w w') : d.In w' := h.only (Only.below hb fun _ => False) fun _ _ hf => hf
theorem In.drewN (h : d.In w) (n : Nat) : d.In (w.drewN n) := h.keeps ⟨rfl, rfl, rfl, Nat.le_refl _, fun _ _ => rfl⟩
theorem In.drew (h : d.In w) : d.In w.drew := h.keeps ⟨rfl, rfl, rfl, Nat.le_refl _, fun _ _ => rfl⟩
theorem In.c0 (h : d.In w) : w.cell? ⟨d.B, 0, none⟩ = some (.pointer (some ⟨d.t.A, 0, none⟩)) := h.row.cell 0
theorem In.c1 (h : d.In w) : w.cell? ⟨d.B, 1, none⟩ = some (.slice d.A d.g.l.length d.c) := h.row.cell 1
theorem In.c2 (h : d.In w) : w.cell? ⟨d.B, 2, none⟩ = some (.int .u64 (d.g.last : Int)) := h.row.cell 2
theorem In.c3 (h : d.In w) : w.cell? ⟨d.B, 3, none⟩ = some (.int .u64 (d.g.stable : Int)) := h.row.cell 3
theorem In.free (h : d.In w) (i : Nat) : w.frozen? ⟨d.B, i, none⟩ = false := h.row.loose i
end
end WV

section
variable (d : WV) (w : World)
set_option maxRecDepth 100000 in
theorem wnone_any (h : d.In w) : Calls Tryd.prog 49 #[d.ptr] w fun e w' => e = .returned (.bool false) ∧ w = w' := by
  have c0 := h.c0
  clear h
  unfold WV.ptr
  go_enter Tryd.func49, Tryd.ntmps49
  go_wp2
  go_ret
  exact ⟨rfl, rfl⟩

set_option maxRecDepth 100000 in
theorem wlast_any (h : d.In w) : Calls Tryd.prog 35 #[d.ptr] w fun e w' => e = .returned (.int .u64 (d.g.last : Int)) ∧ w = w' := by
  have HN := Lib.hid (wnone_any d w h)
  have c2 := h.c2
  clear h
  unfold WV.ptr at HN ⊢
  go_enter Tryd.func35, Tryd.ntmps35
  go_wp2_with fail
  refine HN.out.mono ?_
  rintro e w1 ⟨rfl, rfl⟩
  go_wp2
  go_ret
  exact ⟨rfl, rfl⟩

set_option maxRecDepth 100000 in
theorem wstable_any (h : d.In w) : Calls Tryd.prog 34 #[d.ptr] w fun e w' => e = .returned (.int .u64 (d.g.stable : Int)) ∧ w = w' := by
  have HN := Lib.hid (wnone_any d w h)
  have c3 := h.c3
  clear h
  unfold WV.ptr at HN ⊢
  go_enter Tryd.func34, Tryd.ntmps34
  go_wp2_with fail
  refine HN.out.mono ?_
  rintro e w1 ⟨rfl, rfl⟩
  go_wp2
  go_ret
  exact ⟨rfl, rfl⟩

set_option maxRecDepth 100000 in
theorem wroom_any (h : d.In w) : Calls Tryd.prog 36 #[d.ptr] w fun e w' => e = .returned (.int .i64 ((d.g.st.room - d.g.st.l.length : Nat) : Int)) ∧ ∃ n, w' = w.drewN n := by
  have HN := Lib.hid (wnone_any d w h)
  have HR := Lib.hid (room_any (d := d.t) (w := w) h.tape)
  rw [h.st] at HR
  have c0 := h.c0
  clear h
  unfold TV.ptr at HR
  unfold WV.ptr at HN ⊢
  go_enter Tryd.func36, Tryd.ntmps36
  go_wp2_with fail
  refine HN.out.mono ?_
  rintro e w1 ⟨rfl, rfl⟩
  go_wp2_with fail
  refine HR.out.mono ?_
  rintro e w1 ⟨rfl, n, rfl⟩
  go_wp2
  go_ret
  exact ⟨rfl, n, rfl⟩

set_option maxRecDepth 100000 in
theorem wcost_any (n : Nat) (w : World) (hn : n ≤ 1000000) : Calls Tryd.prog 37 #[.int .i64 (n : Int)] w fun e w' => e = .returned (.int .i64 ((n + 21 : Nat) : Int)) ∧ w = w' := by
  have h1 : IntKind.i64.wrap (21 + (n : Int)) = ((n + 21 : Nat) : Int) := by rw [IntWalk.i64_in _ (by omega)]; omega
  have h2 : max (n : Int) 0 = (n : Int) := by omega
  obtain ⟨m, hm⟩ : ∃ m, n + 21 = m := ⟨_, rfl⟩
  rw [hm] at h1 ⊢
  go_enter Tryd.func37, Tryd.ntmps37
  go_wp2
  go_ret
  exact ⟨rfl, rfl⟩

set_option maxRecDepth 100000 in
theorem wfirst_any (h : d.In w) : Calls Tryd.prog 38 #[d.ptr] w fun e w' => e = .returned (.int .u64 (d.g.first : Int)) ∧ w = w' := by
  have HN := Lib.hid (wnone_any d w h)
  have c1 := h.c1
  have hmax := h.ok.max
  rcases d with ⟨B, t, A, c, st, l, last, stable⟩
  unfold WV.ptr at HN ⊢
  dsimp only at *
  cases l with
  | nil =>
    clear h hmax
    go_enter Tryd.func38, Tryd.ntmps38
    go_wp2_with fail
    refine HN.out.mono ?_
    rintro e w1 ⟨rfl, rfl⟩
    go_wp2
    go_ret
    exact ⟨rfl, rfl⟩
  | cons x l =>
    obtain ⟨g, off, hA, hg, h1, _, _⟩ := h.own.rows.at_ 0 (by simp)
    simp only at hA
    subst hA
    clear h hmax
    have hl : ((x :: l).length : Int) = (l.length : Int) + 1 := by simp
    have hl0 : ¬ ((x :: l).length : Int) = 0 := by omega
    have hl1 : (0 : Int) < ((x :: l).length : Int) := by omega
    have HF : (⟨st, x :: l, last, stable⟩ : LG).first = x.n := rfl
    rw [HF]
    simp only [List.getElem_cons_zero, Nat.zero_mul, Nat.add_zero] at h1
    generalize (x :: l).length = n at *
    clear HF hl
    go_enter Tryd.func38, Tryd.ntmps38
    go_wp2_with fail
    refine HN.out.mono ?_
    rintro e w1 ⟨rfl, rfl⟩
    go_wp2
    go_ret
    exact ⟨rfl, rfl⟩
end
end Go.Proofs.YtjahkaockjhibaaDoor

/-
  The code's log: the records from a number on; Get, From.
-/
namespace Go.Proofs.YtjahkaockjhibaaDoor
open Go.RowKit

theorem first_below_ok {g : LG} (h : g.Ok) (n : Nat) : min (max n g.first - g.first) g.l.length = g.below n := by
  rw [h.below]
  have hl := h.le
  have hr := h.row
  unfold LG.first
  cases hc : g.l with
  | nil => simp
  | cons x l =>
    rw [hc] at hr hl
    have h1 : x.n = g.last + 1 - (x :: l).length := hr.1
    show min (max n x.n - x.n) (x :: l).length = _
    rw [h1]
    omega
theorem LG.Ok.first_le {g : LG} (h : g.Ok) : g.first ≤ 281474976710656 := by
  unfold LG.first
  have hn := h.num 0
  cases hc : g.l with
  | nil => exact Nat.zero_le _
  | cons x l =>
    have := hn (by rw [hc]; simp)
    simp only [hc, List.getElem_cons_zero] at this
    exact this.2
theorem find_at : ∀ {l : List Ent} {n : Nat} (_ : Row1 n l) (i : Nat) (h : i < l.length), l.find? (fun e => e.n == n + i) = some l[i]
  | [], _, _, _, h => absurd h (Nat.not_lt_zero _)
  | e :: l, n, h, 0, _ => by rw [List.find?_cons, show (e.n == n + 0) = true by rw [h.1]; simp]; rfl
  | e :: l, n, h, i + 1, hi => by
    rw [List.find?_cons, show (e.n == n + (i + 1)) = false from beq_eq_false_iff_ne.2 (by rw [h.1]; omega), show n + (i + 1) = n + 1 + i by omega]
    exact find_at h.2 i (by simpa using hi)
theorem LG.Ok.get_cases {g : LG} (h : g.Ok) (n : Nat) : (g.below n = g.l.length ∧ g.get n = none) ∨ ∃ hb : g.below n < g.l.length, ((g.l[g.below n]).n = n ∧ g.get n = some g.l[g.below n]) ∨ ((g.l[g.below n]).n ≠ n ∧ g.get n = none) := by
  have hb := h.below n
  have hl := h.le
  have none_of : (∀ i (hi : i < g.l.length), g.l[i].n ≠ n) → g.get n = none := fun hh => by
    unfold LG.get
    rw [List.find?_eq_none]
    intro e he
    obtain ⟨i, hi, rfl⟩ := List.getElem_of_mem he
    simpa using hh i hi
  rcases Nat.lt_or_ge (g.below n) g.l.length with hlt | hge
  · refine .inr ⟨hlt, ?_⟩
    have h1 := (h.num _ hlt).1
    by_cases he : (g.l[g.below n]).n = n
    · refine .inl ⟨he, ?_⟩
      have := find_at h.row (g.below n) hlt
      rw [← this]
      unfold LG.get
      rw [← h1, he]
    · refine .inr ⟨he, none_of fun i hi hh => ?_⟩
      have h2 := (h.num i hi).1
      omega
  · have e : g.below n = g.l.length := by omega
    refine .inl ⟨e, none_of fun i hi hh => ?_⟩
    have h2 := (h.num i hi).1
    omega

section
variable (d : WV) (w : World)
set_option maxRecDepth 100000 in
set_option maxHeartbeats 2000000 in
theorem wfrom0_any (n : Nat) (hn64 : n < 18446744073709551616) (h : d.In w) : Calls Tryd.prog 51 #[d.ptr, .int .u64 (n : Int)] w fun e w' => e = .returned (.slice (if d.g.l.length = d.g.below n then d.A else d.A.map (·.add (d.g.below n * 3))) (d.g.l.length - d.g.below n) (d.g.l.length - d.g.below n)) ∧ w' = w.drew := by
  have HF := Lib.hid (fun wx (hx : d.In wx) => wfirst_any d wx hx)
  have c1 := h.drew.c1
  have HD := Lib.hid h.drew
  have hfl := h.ok.first_le
  have hct := h.ok.count
  have hfb := first_below_ok h.ok n
  have hble := below_le d.g n
  have hrun := run_pieceE (v := d.A) (n := d.g.l.length) (c := d.c) (a := d.g.below n) (b := d.g.l.length) w.drew hble h.own.le
  generalize (if d.g.l.length = d.g.below n then d.A else d.A.map (·.add (d.g.below n * 3))) = V at *
  generalize d.g.below n = b at *
  generalize d.g.first = f at *
  obtain ⟨M, hM⟩ : ∃ M, max n f = M := ⟨_, rfl⟩
  obtain ⟨D, hD⟩ : ∃ D, M - f = D := ⟨_, rfl⟩
  have hm1 : max (n : Int) (f : Int) = (M : Int) := by omega
  have hm2 : IntKind.u64.wrap ((M : Int) - (f : Int)) = (D : Int) := by rw [IntWalk.u64_in _ (by omega)]; omega
  have hm3 : IntKind.u64.wrap (d.g.l.length : Int) = (d.g.l.length : Int) := IntWalk.u64_in _ (by omega)
  have hm4 : min (D : Int) (d.g.l.length : Int) = (b : Int) := by rw [hM, hD] at hfb; omega
  have hm5 : IntKind.i64.wrap (b : Int) = (b : Int) := IntWalk.i64_in _ (by omega)
  obtain ⟨N, hN⟩ : ∃ N, d.g.l.length = N := ⟨_, rfl⟩
  rw [hN] at hrun hm3 hm4 c1 ⊢
  clear h hM hD hfb hct hN
  unfold WV.ptr at HF ⊢
  go_enter Tryd.func51, Tryd.ntmps51
  go_wp2_with fail
  go_region_held3 (fun wx => wx = w.drew ∧ wx.cell? ⟨d.B, 1, none⟩ = some (.slice d.A N d.c)) (first | exact ⟨rfl, c1⟩ | go_keep)
    (first
      | ((with_reducible refine (HF.out _ HD.out).mono ?_); rintro e wa ⟨rfl, rfl⟩))
  go_wp2
  go_ret
  exact ⟨rfl, rfl⟩

set_option maxRecDepth 100000 in
set_option maxHeartbeats 2000000 in
theorem wget_any (n : Nat) (hn64 : n < 18446744073709551616) (h : d.In w) : Calls Tryd.prog 25 #[d.ptr, .int .u64 (n : Int)] w fun e w' => e = .returned (match d.g.get n with | some x => .tuple #[entV x, .int .i64 0] | none => .tuple #[entV ⟨0, 0, []⟩, .int .i64 7]) ∧ Below w.heap.size w w' := by
  have hcases := h.ok.get_cases n
  have HN := Lib.hid (fun wx (hb : Below w.heap.size w wx) => wnone_any d wx (h.keeps hb))
  have HF := Lib.hid (fun wx (hb : Below w.heap.size w wx) => wfrom0_any d wx n hn64 (h.keeps hb))
  have HP := Lib.hid (fun wx (hb : Below w.heap.size w wx) => ((h.keeps hb).own.piece (d.g.below n) (below_le _ _)).rows)
  have hlen : (d.g.l.drop (d.g.below n)).length = d.g.l.length - d.g.below n := List.length_drop
  clear h
  obtain ⟨v, hv⟩ : ∃ v : Value, (match d.g.get n with | some x => Value.tuple #[entV x, .int .i64 0] | none => .tuple #[entV ⟨0, 0, []⟩, .int .i64 7]) = v := ⟨_, rfl⟩
  have HVS := Lib.hid (show ∀ x, d.g.get n = some x → v = .tuple #[entV x, .int .i64 0] from fun x hx => by rw [← hv, hx])
  have HVN := Lib.hid (show d.g.get n = none → v = .tuple #[.agg #[.int .u64 0, .int .u8 0, .string ⟨#[]⟩], .int .i64 7] from fun hx => by rw [← hv, hx]; rfl)
  rw [hv]
  clear hv
  generalize (if d.g.l.length = d.g.below n then d.A else d.A.map (·.add (d.g.below n * 3))) = V at *
  unfold WV.ptr at HN HF ⊢
  go_enter Tryd.func25, Tryd.ntmps25
  go_wp2_with fail
  obtain ⟨wa, hwa⟩ : ∃ wa, w.alloc (.cells #[.int .u64 0, .int .u8 0, .string ⟨#[]⟩] 48) = wa := ⟨_, rfl⟩
  have HR0 := Lib.hid (show Row wa w.heap.size 48 [.int .u64 0, .int .u8 0, .string ⟨#[]⟩] (0, 0) from hwa ▸ ent_new w _)
  have HB0 := Lib.hid (show Below w.heap.size w wa from hwa ▸ (Below.refl _ _).alloc (Nat.le_refl _) _)
  try rw [hwa]
  clear hwa
  refine (HN.out wa HB0.out).mono ?_
  rintro e w1 ⟨rfl, rfl⟩
  go_wp2_with fail
  refine (HF.out _ HB0.out).mono ?_
  rintro e w2 ⟨rfl, rfl⟩
  obtain ⟨wd, hwd⟩ : ∃ wd, wa.drew = wd := ⟨_, rfl⟩
  have HRD := Lib.hid (show Row wd w.heap.size 48 [.int .u64 0, .int .u8 0, .string ⟨#[]⟩] (0, 0) from hwd ▸ HR0.out.below (Below.refl _ _).drew HR0.out.lt)
  have HBD := Lib.hid (show Below w.heap.size w wd from hwd ▸ HB0.out.drew)
  try rw [hwd]
  clear hwd
  have b0 := HRD.out.cell 0
  have b1 := HRD.out.cell 1
  have b2 := HRD.out.cell 2
  have f0 := HRD.out.loose 0
  have f1 := HRD.out.loose 1
  have f2 := HRD.out.loose 2
  simp only [List.getElem?_cons_zero, List.getElem?_cons_succ] at b0 b1 b2
  have HW := Lib.hid (show ∀ x y z W', W' = ((wd.setCell ⟨w.heap.size, 0, none⟩ x).setCell ⟨w.heap.size, 1, none⟩ y).setCell ⟨w.heap.size, 2, none⟩ z → Row W' w.heap.size 48 [x, y, z] (0, 0) ∧ Below w.heap.size w W' from fun x y z W' e => by
    subst e
    exact ⟨((HRD.out.put 0 _).put 1 _).put 2 _, ((HBD.out.setCell (Nat.le_refl _) _).setCell (Nat.le_refl _) _).setCell (Nat.le_refl _) _⟩)
  rcases hcases with ⟨hb, hg⟩ | ⟨hb, hg⟩
  · obtain rfl := HVN.out hg
    have hz : d.g.l.length - d.g.below n = 0 := by omega
    rw [hz]
    clear hg hb hz hlen HVS HVN
    go_wp2
    obtain ⟨hr, hbb⟩ := HW.out _ _ _ _ rfl
    exact bodyPost_ret (v := .tuple #[.agg #[.int .u64 0, .int .u8 0, .string ⟨#[]⟩], .int .i64 7]) (results_cell_tmp (by rfl) _ _ w.heap.size _ _ (0, 0) _ _ (by rfl) (by rfl) hr Tryd.underlying48 rfl Tryd.size_ent) rfl ⟨rfl, hbb⟩
  · obtain ⟨g, off, hA, _, c2, c3, c4⟩ := (HP.out wd HBD.out).at_ 0 (by omega)
    rw [List.getElem_drop] at c2 c3 c4
    simp only [Nat.add_zero, Nat.zero_mul] at c2 c3 c4
    subst hA
    obtain ⟨m, hm⟩ : ∃ m, d.g.l.length - d.g.below n = m := ⟨_, rfl⟩
    have hm0 : 0 < m := by omega
    have hmI : ¬ (m : Int) = 0 := by omega
    have hmI2 : (0 : Int) < (m : Int) := by omega
    rw [hm]
    obtain ⟨x, hx⟩ : ∃ x, d.g.l[d.g.below n] = x := ⟨_, rfl⟩
    rw [hx] at c2 c3 c4 hg
    clear hx hm hlen hb hm0 HP HF HN HR0 HB0
    rcases hg with ⟨he, hg⟩ | ⟨he, hg⟩
    · obtain rfl := HVS.out x hg
      subst he
      clear hg HVS HVN
      go_wp2
      obtain ⟨hr, hbb⟩ := HW.out _ _ _ _ rfl
      exact bodyPost_ret (v := .tuple #[entV x, .int .i64 0]) (results_cell_tmp (by rfl) _ _ w.heap.size _ _ (0, 0) _ _ (by rfl) (by rfl) hr Tryd.underlying48 rfl Tryd.size_ent) rfl ⟨rfl, hbb⟩
    · obtain rfl := HVN.out hg
      have heI : ((x.n : Int) != (n : Int)) = true := bne_iff_ne.2 (by omega)
      have hmB : ((m : Int) == 0) = false := beq_eq_false_iff_ne.2 hmI
      clear hg he HVS HVN
      go_wp2
      obtain ⟨hr, hbb⟩ := HW.out _ _ _ _ rfl
      exact bodyPost_ret (v := .tuple #[.agg #[.int .u64 0, .int .u8 0, .string ⟨#[]⟩], .int .i64 7]) (results_cell_tmp (by rfl) _ _ w.heap.size _ _ (0, 0) _ _ (by rfl) (by rfl) hr Tryd.underlying48 rfl Tryd.size_ent) rfl ⟨rfl, hbb⟩
end

set_option maxRecDepth 100000 in
set_option maxHeartbeats 1000000 in
/-- A row of its own, with the same records. -/
theorem cloneE_any (v : Option Addr) (c : Nat) (l : List Ent) (w : World) (hb : EntO w v l c) (hn : l.length ≤ 5000000) :
    Calls Tryd.prog 50 #[.slice v l.length c] w fun e w' => ∃ (v' : Option Addr) (c' : Nat), e = .returned (.slice v' l.length c') ∧ EntO w' v' l c' ∧ Below w.heap.size w w' ∧ ∀ k, blk v' = some k → w.heap.size ≤ k := by
  have q22 : ∀ (w : World) (a : Option Addr) (n c n' c' : Nat), (binOp .eql 38 (.slice a n c) (.slice none n' c')).run Tryd.prog w = .ok (.bool a.isNone) w := fun w a n c n' c' => Lib.run_eql_slice_nil w _ _ a n c n' c' Tryd.underlying38
  rcases hb.at_ with ⟨rfl, rfl⟩ | ⟨g, o, cs, rfl, hr, h1, h2⟩
  · obtain rfl : l = [] := List.eq_nil_of_length_eq_zero (by have := hb.le; omega)
    clear hb hn
    go_enter Tryd.func50, Tryd.ntmps50
    go_wp2
    go_ret
    exact ⟨none, 0, rfl, EntO.nil _, Below.refl _ _, fun k hk => by cases hk⟩
  · obtain ⟨i0, hi0, hz0, hz1, hz2⟩ := info_parts Tryd.infoEnt
    have HNW := Lib.hid (show ∀ j u, (ents l)[j]? = some u → (w.alloc (.cells #[] 48)).cell? ((⟨g, o, none⟩ : Addr).add j) = some u from fun j u hj => by
      have hjl : j < l.length * 3 := by have := (List.getElem?_eq_some_iff.1 hj).1; rwa [ents_length] at this
      rw [Addr.add_lit, (hr.alloc _).cell, h2 j hjl]
      exact hj)
    have HO := Lib.hid (World.ownsRow_made (base := w.heap.size) (e := 48) (size := 3) w #[] 0 (Nat.le_refl _) (Nat.zero_le _) rfl)
    have HB := Lib.hid (show Below w.heap.size w (w.alloc (.cells #[] 48)) from (Below.refl _ _).alloc (Nat.le_refl _) _)
    have HLN := Lib.hid (ents_length l)
    have HMX := Lib.hid (show 0 + l.length ≤ maxLen by unfold maxLen; omega)
    have HN := Lib.hid hn
    have HFIN := Lib.hid (fun (u : Value) (w1 : World) (hown : w1.ownsRow w.heap.size 48 3 u l.length (ents l)) =>
      show ∃ (v' : Option Addr) (c' : Nat), u = .slice v' l.length c' ∧ EntO w1 v' l c' ∧ ∀ k, blk v' = some k → w.heap.size ≤ k from by
        rcases hown.2 with ⟨h0, h3⟩ | ⟨g, cap, cur, hv, hb, hg, hc, hm, hs, ht⟩
        · obtain rfl : l = [] := List.eq_nil_of_length_eq_zero h3
          exact ⟨none, 0, h0, EntO.nil _, fun k hk => by cases hk⟩
        · refine ⟨some ⟨g, 0, none⟩, cap, hv, ⟨hc, .inr ⟨g, 0, cur.toList, rfl, hg, by simp at hs ⊢; omega, fun j hj => ?_⟩⟩, fun k hk => by injection hk with hk; exact hk ▸ hb⟩
          rw [Nat.zero_add, ← ht, List.getElem?_take, if_pos hj])
    have HONE := Lib.hid (ents_one l)
    clear hb hr h1 h2 hn
    go_enter Tryd.func50, Tryd.ntmps50
    go_wp2_with (at_builtin; refine wpList_append_own _ rfl (.tmp 5) (.tmp 6) 38 rfl w.heap.size 48 i0 _ 3 32 Tryd.underlying38 hi0 hz0 hz1 hz2 rfl (by decide) (.slice (some ⟨w.heap.size, 0, none⟩) 0 0) 0 [] rfl HO.out ⟨g, o, none⟩ l.length c (ents l) rfl HLN.out HNW.out HONE.out HMX.out (by have := HN.out; omega) HB.out.size ?_)
    intro u w1 hown hgr _
    obtain ⟨v', c', rfl, h1, h2⟩ := HFIN.out u w1 (by simpa using hown)
    have HB1 := Lib.hid (show Below w.heap.size w w1 from HB.out.grown hgr HB.out.size (fun k hk => by simp [Value.ownBlock] at hk; omega))
    have H1 := Lib.hid h1
    have H2 := Lib.hid h2
    clear hown hgr h1 h2
    go_wp2
    go_ret
    exact ⟨v', c', rfl, H1.out, HB1.out, H2.out⟩

set_option maxRecDepth 100000 in
theorem wfrom_any (d : WV) (w : World) (n : Nat) (hn64 : n < 18446744073709551616) (h : d.In w) : Calls Tryd.prog 16 #[d.ptr, .int .u64 (n : Int)] w fun e w' => ∃ (A : Option Addr) (c : Nat), e = .returned (.slice A (d.g.from_ n).length c) ∧ Ents w' A (d.g.from_ n) ∧ (d.g.from_ n).length ≤ c ∧ (∀ k, blk A = some k → w.heap.size ≤ k) ∧ Below w.heap.size w w' := by
  have HN := Lib.hid (wnone_any d w h)
  have HF := Lib.hid (wfrom0_any d w n hn64 h)
  have HP := Lib.hid (h.drew.own.piece (d.g.below n) (below_le _ _))
  have hlen : (d.g.l.drop (d.g.below n)).length = d.g.l.length - d.g.below n := List.length_drop
  have hct := h.ok.count
  rw [h.ok.from_ n]
  rw [← hlen] at HF HP
  have HC := Lib.hid (cloneE_any _ _ _ _ HP.out (by omega))
  have HB := Lib.hid (show Below w.heap.size w w.drew from (Below.refl _ _).drew)
  clear h hct hlen HP
  generalize (if d.g.l.length = d.g.below n then d.A else d.A.map (·.add (d.g.below n * 3))) = V at *
  generalize d.g.l.drop (d.g.below n) = L at *
  unfold WV.ptr at HN HF ⊢
  go_enter Tryd.func16, Tryd.ntmps16
  go_wp2_with fail
  refine HN.out.mono ?_
  rintro e w1 ⟨rfl, rfl⟩
  go_wp2_with fail
  refine HF.out.mono ?_
  rintro e w1 ⟨rfl, rfl⟩
  go_wp2_with fail
  refine HC.out.mono ?_
  rintro e w1 ⟨v', c', rfl, h1, h2, h3⟩
  have H1 := Lib.hid h1
  have H2 := Lib.hid h2
  have H3 := Lib.hid h3
  clear h1 h2 h3
  go_wp2
  go_ret
  exact ⟨v', c', rfl, H1.out.rows, H1.out.le, H3.out, HB.out.trans (H2.out.mono HB.out.size)⟩
end Go.Proofs.YtjahkaockjhibaaDoor
