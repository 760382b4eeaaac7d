/-
  Rows of a log's records as they lie; rows of the call's own that grow.
-/
import Derived.Test.YtjahkaockjhibaaDoorWalMath
import Derived.Test.YtjahkaockjhibaaDoorMDoc
import Derived.Test.YtjahkaockjhibaaDoorTapRef
namespace Go.Proofs.YtjahkaockjhibaaDoor
open Go.RowKit

theorem Tryd.infoEnt : (Tryd.prog.info? 48).map (fun i => (i.zero, i.size, i.bytes)) = some (some (.agg #[.int .u64 0, .int .u8 0, .string ⟨#[]⟩]), 3, 32) := by kernel_rfl

/-- A record of a log as a value, and as cells. -/
def entC (e : Ent) : List Value := [.int .u64 (e.n : Int), .int .u8 (e.k.toNat : Int), .string (tb e.d)]
def entV (e : Ent) : Value := .agg #[.int .u64 (e.n : Int), .int .u8 (e.k.toNat : Int), .string (tb e.d)]
def ents (l : List Ent) : List Value := l.flatMap entC
theorem ents_length (l : List Ent) : (ents l).length = l.length * 3 := by
  induction l with
  | nil => rfl
  | cons r l ih => unfold ents at ih ⊢; rw [List.flatMap_cons, List.length_append, ih, List.length_cons]; show 3 + l.length * 3 = _; omega
theorem ents_snoc (l : List Ent) (r : Ent) : ents (l ++ [r]) = ents l ++ entC r := by simp [ents]
theorem ents_app (a b : List Ent) : ents (a ++ b) = ents a ++ ents b := by simp [ents]
theorem ents_at : ∀ (l : List Ent) (i : Nat) (h : i < l.length) (j : Nat) (_ : j < 3), (ents l)[i * 3 + j]? = (entC l[i])[j]?
  | [], _, h, _, _ => absurd h (Nat.not_lt_zero _)
  | r :: l, 0, _, j, hj => by
    unfold ents
    rw [List.flatMap_cons, Nat.zero_mul, Nat.zero_add, List.getElem?_append_left (by show j < 3; exact hj)]
    rfl
  | r :: l, i + 1, h, j, hj => by
    have := ents_at l i (by simpa using h) j hj
    unfold ents at this ⊢
    rw [List.flatMap_cons, List.getElem?_append_right (by show 3 ≤ _; omega)]
    show (List.flatMap entC l)[(i + 1) * 3 + j - 3]? = _
    rw [show (i + 1) * 3 + j - 3 = i * 3 + j by omega]
    exact this
theorem entC_one (r : Ent) : ∀ u ∈ entC r, u.oneCell' = true := by
  intro u hu
  simp only [entC, List.mem_cons, List.not_mem_nil, or_false] at hu
  rcases hu with rfl | rfl | rfl <;> rfl
theorem ents_one (l : List Ent) : ∀ u ∈ ents l, u.oneCell' = true := by
  intro u hu
  unfold ents at hu
  obtain ⟨r, _, h⟩ := List.mem_flatMap.1 hu
  exact entC_one r u h

/-- A row of a log's records. -/
structure Ents (w : World) (A : Option Addr) (l : List Ent) : Prop where
  at_ : ∀ (i : Nat) (h : i < l.length), ∃ g off, A = some ⟨g, off, none⟩ ∧ g < w.heap.size ∧ w.cell? ⟨g, off + i * 3, none⟩ = some (.int .u64 (l[i].n : Int)) ∧ w.cell? ⟨g, off + i * 3 + 1, none⟩ = some (.int .u8 (l[i].k.toNat : Int)) ∧ w.cell? ⟨g, off + i * 3 + 2, none⟩ = some (.string (tb l[i].d))
section
variable {W w : World} {A : Option Addr} {l : List Ent}
theorem Ents.keeps (h : Ents W A l) (hb : Below W.heap.size W w) : Ents w A l := ⟨fun i hi => by
  obtain ⟨g, off, hA, hg, h1, h2, h3⟩ := h.at_ i hi
  exact ⟨g, off, hA, Nat.lt_of_lt_of_le hg hb.size, (hb.cell (p := ⟨g, off + i * 3, none⟩) hg).trans h1, (hb.cell (p := ⟨g, off + i * 3 + 1, none⟩) hg).trans h2, (hb.cell (p := ⟨g, off + i * 3 + 2, none⟩) hg).trans h3⟩⟩
theorem Ents.only {F : Nat → Prop} (h : Ents W A l) (ho : Only F W w) (hF : ∀ ad, A = some ad → ¬ F ad.block) : Ents w A l := ⟨fun i hi => by
  obtain ⟨g, off, rfl, hg, h1, h2, h3⟩ := h.at_ i hi
  have hb : w.heap[g]? = W.heap[g]? := ho.block g hg (hF _ rfl)
  have hc : ∀ j, w.cell? ⟨g, j, none⟩ = W.cell? ⟨g, j, none⟩ := fun j => by unfold World.cell?; simp only [hb]
  exact ⟨g, off, rfl, Nat.lt_of_lt_of_le hg ho.size, (hc _).trans h1, (hc _).trans h2, (hc _).trans h3⟩⟩
theorem Ents.nil : Ents w A [] := ⟨fun _ h => absurd h (Nat.not_lt_zero _)⟩
theorem Ents.take (h : Ents w A l) (n : Nat) : Ents w A (l.take n) := ⟨fun i hi => by
  rw [List.length_take] at hi
  obtain ⟨g, off, h1⟩ := h.at_ i (by omega)
  refine ⟨g, off, ?_⟩
  rw [List.getElem_take]
  exact h1⟩
theorem Ents.drop (h : Ents w A l) (n cap : Nat) (hc : l.length ≤ cap) : Ents w (if cap = n then A else A.map (·.add (n * 3))) (l.drop n) := ⟨fun i hi => by
  rw [List.length_drop] at hi
  obtain ⟨g, off, rfl, hg, h1, h2, h3⟩ := h.at_ (n + i) (by omega)
  rw [if_neg (by omega)]
  refine ⟨g, off + n * 3, by simp [Addr.add_lit], hg, ?_, ?_, ?_⟩
  · rw [List.getElem_drop, show off + n * 3 + i * 3 = off + (n + i) * 3 by omega]; exact h1
  · rw [List.getElem_drop, show off + n * 3 + i * 3 + 1 = off + (n + i) * 3 + 1 by omega]; exact h2
  · rw [List.getElem_drop, show off + n * 3 + i * 3 + 2 = off + (n + i) * 3 + 2 by omega]; exact h3⟩
theorem Ents.row {g : Nat} {T : TypeId} {m : Nat × Nat} {cs : List Value} (hr : Row w g T cs m) (h : ∀ j, j < l.length * 3 → cs[j]? = (ents l)[j]?) : Ents w (some ⟨g, 0, none⟩) l := ⟨fun i hi => by
  refine ⟨g, 0, rfl, hr.lt, ?_, ?_, ?_⟩
  · rw [hr.cell, Nat.zero_add, h _ (by omega)]; exact ents_at l i hi 0 (by omega)
  · rw [hr.cell, Nat.zero_add, h _ (by omega)]; exact ents_at l i hi 1 (by omega)
  · rw [hr.cell, Nat.zero_add, h _ (by omega)]; exact ents_at l i hi 2 (by omega)⟩
theorem Ents.of_own {b c : Nat} (h : w.ownsRow b 48 3 (.slice A l.length c) l.length (ents l)) : Ents w A l := by
  rcases h.2 with ⟨hv, h0⟩ | ⟨k, cap, cur, hv, h1, hk, hc, _, _, ht⟩
  · have : l = [] := List.eq_nil_of_length_eq_zero h0
    subst this
    exact Ents.nil
  · simp only [Value.slice.injEq] at hv
    obtain ⟨rfl, _, rfl⟩ := hv
    exact Ents.row (cs := cur.toList) hk fun j hj => by rw [← ht, List.getElem?_take, if_pos hj]
end

/-- A row of the call's own that grows, nil at first. -/
def GrE (w : World) (l : List Ent) (v : Value) (wr : World) : Prop := wr.ownsRow w.heap.size 48 3 v l.length (ents l) ∧ Below w.heap.size w wr
theorem GrE.nil {w wr : World} (h : Below w.heap.size w wr) : GrE w [] (.slice none 0 0) wr := ⟨World.ownsRow_nil _ _ _ _, h⟩
section
variable {w wr w1 w2 : World} {l : List Ent} {r : Ent} {v v' : Value}
theorem GrE.keeps (h : GrE w l v wr) (hb : Below wr.heap.size wr w1) : GrE w l v w1 := by
  refine ⟨⟨h.1.1, ?_⟩, h.2.trans (hb.mono h.2.size)⟩
  rcases h.1.2 with h0 | ⟨k, cap, cur, rfl, h1, hk, rest⟩
  · exact .inl h0
  · exact .inr ⟨k, cap, cur, rfl, h1, Row.below (cs := cur.toList) hk hb (Row.lt (cs := cur.toList) hk), rest⟩
theorem GrE.low (h : GrE w1 l v wr) (hb : Below w.heap.size w w1) : GrE w l v wr := by
  refine ⟨⟨h.1.1, ?_⟩, hb.trans (h.2.mono hb.size)⟩
  rcases h.1.2 with h0 | ⟨k, cap, cur, hv, h1, rest⟩
  · exact .inl h0
  · exact .inr ⟨k, cap, cur, hv, Nat.le_trans hb.size h1, rest⟩
theorem GrE.alloc (h : GrE w l v wr) (o : Obj) : GrE w l v (wr.alloc o) := h.keeps ((Below.refl _ _).alloc (Nat.le_refl _) _)
theorem GrE.drewN (h : GrE w l v wr) (n : Nat) : GrE w l v (wr.drewN n) := h.keeps (below_draw (Below.refl _ _) n)
theorem GrE.more (h : GrE w l v w1) (ho : w2.ownsRow w.heap.size 48 3 v' (l.length + 1) (ents l ++ entC r)) (hg : w1.grownBy w2 v.ownBlock) : GrE w (l ++ [r]) v' w2 := by
  refine ⟨by rw [ents_snoc, List.length_append]; exact ho, Below.grown h.2 hg h.2.size (fun g hg2 => (h.1.lt g hg2).1)⟩
theorem GrE.slot (h : GrE w l v w1) : ∃ A c, v = .slice A l.length c ∧ l.length ≤ c ∧ (A = none → c = 0) := by
  rcases h.1.2 with ⟨rfl, h0⟩ | ⟨k, cap, cur, rfl, h1, hk, hc, _, _, ht⟩
  · have : l = [] := List.eq_nil_of_length_eq_zero h0
    subst this
    exact ⟨none, 0, rfl, Nat.le_refl _, fun _ => rfl⟩
  · exact ⟨some ⟨k, 0, none⟩, cap, rfl, hc, fun e => (by cases e)⟩
theorem GrE.ents {A : Option Addr} {c : Nat} (h : GrE w l (.slice A l.length c) w1) : Ents w1 A l := Ents.of_own h.1
theorem GrE.ents_of {A : Option Addr} {n c : Nat} (h : GrE w l (.slice A n c) w1) (hn : l.length = n) (i : Nat) (hi : i < l.length) : ∃ g off, A = some ⟨g, off, none⟩ ∧ g < w1.heap.size ∧ w1.cell? ⟨g, off + i * 3, none⟩ = some (.int .u64 (l[i].n : Int)) ∧ w1.cell? ⟨g, off + i * 3 + 1, none⟩ = some (.int .u8 (l[i].k.toNat : Int)) ∧ w1.cell? ⟨g, off + i * 3 + 2, none⟩ = some (.string (tb l[i].d)) := by
  subst hn
  exact h.ents.at_ i hi
theorem GrE.fresh {A : Option Addr} {n c : Nat} (h : GrE w l (.slice A n c) w1) : ∀ ad, A = some ad → w.heap.size ≤ ad.block := by
  intro ad ha
  subst ha
  exact (h.1.lt ad.block rfl).1
end

theorem new_ent (w : World) (t : TypeId) (r : Ent) : ∀ j u, (entC r)[j]? = some u → (w.alloc (.cells (entC r).toArray t)).cell? ((⟨w.heap.size, 0, none⟩ : Addr).add j) = some u := by
  intro j u hu
  have hr : Row (w.alloc (.cells (entC r).toArray t)) w.heap.size t (entC r) (0, 0) := Row.new w t (entC r) (0, 0)
  rw [Addr.add_lit, hr.cell, Nat.zero_add, hu]

/-- One more onto them, at the operation. -/
theorem wpList_ent {ops : Array Oper} {rest : List Oper} {o : Oper} {a : Act} {Q : Exit → Act → World → Prop} {w w1 : World} {l : List Ent} (r : Ent) {v : Value} (hgd : o.guard = none) (s x : Operand)
    (ho : o.op = .call { callee := .builtin .append, args := #[s, x], argTypes := #[38, 38] }) (hs : a.eval s = v) (hg : GrE w l v w1) (ad : Addr) (c : Nat) (hx : a.eval x = .slice (some ad) 1 c) (hr : ∀ j u, (entC r)[j]? = some u → w1.cell? (ad.add j) = some u)
    (hle : l.length ≤ 5000000) (h : ∀ v' w2, GrE w (l ++ [r]) v' w2 → w1.grownBy w2 v.ownBlock → wpList Tryd.prog ops Q rest (a.put o.dst v') w2) : wpList Tryd.prog ops Q (o :: rest) a w1 := by
  obtain ⟨i0, hi0, hz0, hz1, hz2⟩ := info_parts Tryd.infoEnt
  exact wpList_append_own_at w1 hgd s x 38 ho w.heap.size 48 i0 _ 3 32 Tryd.underlying38 hi0 hz0 hz1 hz2 rfl (by decide) v l.length (ents l) hs hg.1 ad 1 c (entC r) hx rfl hr (entC_one r) (by unfold maxLen; omega) (by omega) hg.2.size
    (fun v' w2 h1 h2 _ _ => h v' w2 (hg.more h1 h2) h2)
end Go.Proofs.YtjahkaockjhibaaDoor
