/-
  Rows of cells of a call's own that grow; what is copied of others.
-/
import Derived.Test.YtbganaaiaokfmaaCelRefB
import Derived.ArgAppend
namespace Go.Proofs.Ytbganaaiaokfmaa
open Go.RowKit

theorem Try.infoCel : (Try.prog.info? 38).map (fun i => (i.zero, i.size, i.bytes)) = some (some (.agg #[.string ⟨#[]⟩, .string ⟨#[]⟩]), 2, 32) := by kernel_rfl
def celC (x : CB) : List Value := [.string x.1, .string x.2]
def celV (x : CB) : Value := .agg #[.string x.1, .string x.2]
def celr (l : List CB) : List Value := l.flatMap celC
theorem celr_length (l : List CB) : (celr l).length = l.length * 2 := by
  induction l with
  | nil => rfl
  | cons r l ih => unfold celr at ih ⊢; rw [List.flatMap_cons, List.length_append, ih, List.length_cons]; show 2 + l.length * 2 = _; omega
theorem celr_snoc (l : List CB) (r : CB) : celr (l ++ [r]) = celr l ++ celC r := by simp [celr]
theorem celr_app (a b : List CB) : celr (a ++ b) = celr a ++ celr b := by simp [celr]
theorem celr_at : ∀ (l : List CB) (i : Nat) (h : i < l.length), (celr l)[i * 2]? = some (.string l[i].1) ∧ (celr l)[i * 2 + 1]? = some (.string l[i].2)
  | [], _, h => absurd h (Nat.not_lt_zero _)
  | r :: l, 0, _ => ⟨rfl, rfl⟩
  | r :: l, i + 1, h => by
    have := celr_at l i (by simpa using h)
    unfold celr at this ⊢
    rw [List.flatMap_cons, List.getElem?_append_right (by show 2 ≤ _; omega), List.getElem?_append_right (by show 2 ≤ _; omega)]
    show (List.flatMap celC l)[(i + 1) * 2 - 2]? = _ ∧ (List.flatMap celC l)[(i + 1) * 2 + 1 - 2]? = _
    rw [show (i + 1) * 2 - 2 = i * 2 by omega, show (i + 1) * 2 + 1 - 2 = i * 2 + 1 by omega]
    exact this
theorem celC_one (r : CB) : ∀ u ∈ celC r, u.oneCell' = true := by
  intro u hu
  simp only [celC, List.mem_cons, List.not_mem_nil, or_false] at hu
  rcases hu with rfl | rfl <;> rfl
theorem celr_one (l : List CB) : ∀ u ∈ celr l, u.oneCell' = true := by
  intro u hu
  unfold celr at hu
  obtain ⟨r, _, h⟩ := List.mem_flatMap.1 hu
  exact celC_one r u h

section
variable {W w : World} {A : Option Addr} {l : List CB}
theorem Cels.nil : Cels w A [] := fun _ h => absurd h (Nat.not_lt_zero _)
theorem Cels.take (h : Cels w A l) (n : Nat) : Cels w A (l.take n) := fun i hi => by
  rw [List.length_take] at hi
  obtain ⟨g, off, h1⟩ := h i (by omega)
  refine ⟨g, off, ?_⟩
  rw [List.getElem_take]
  exact h1
theorem Cels.drop (h : Cels w A l) (n cap : Nat) (hc : l.length ≤ cap) : Cels w (if cap = n then A else A.map (·.add (n * 2))) (l.drop n) := fun i hi => by
  rw [List.length_drop] at hi
  obtain ⟨g, off, rfl, hg, h1, h2⟩ := h (n + i) (by omega)
  rw [if_neg (by omega)]
  refine ⟨g, off + n * 2, by simp [Addr.add_lit], hg, ?_, ?_⟩
  · rw [List.getElem_drop, show off + n * 2 + i * 2 = off + (n + i) * 2 by omega]; exact h1
  · rw [List.getElem_drop, show off + n * 2 + i * 2 + 1 = off + (n + i) * 2 + 1 by omega]; exact h2
theorem Cels.alloc (h : Cels w A l) (o : Obj) : Cels (w.alloc o) A l := h.keeps ((Below.refl _ _).alloc (Nat.le_refl _) _)
theorem Cels.row {g : Nat} {T : TypeId} {m : Nat × Nat} {cs : List Value} (hr : Row w g T cs m) (h : ∀ j, j < l.length * 2 → cs[j]? = (celr l)[j]?) : Cels w (some ⟨g, 0, none⟩) l := fun i hi => by
  refine ⟨g, 0, rfl, hr.lt, ?_, ?_⟩
  · rw [hr.cell, Nat.zero_add, h _ (by omega)]; exact (celr_at l i hi).1
  · rw [hr.cell, Nat.zero_add, h _ (by omega)]; exact (celr_at l i hi).2
/-- Their cells, one by one. -/
theorem Cels.news (h : Cels w A l) {ad : Addr} (ha : A = some ad) : ∀ j u, (celr l)[j]? = some u → w.cell? (ad.add j) = some u := by
  intro j u hj
  have hjl : j < l.length * 2 := by have := (List.getElem?_eq_some_iff.1 hj).1; rwa [celr_length] at this
  obtain ⟨k, hk⟩ : ∃ k, j = k * 2 ∨ j = k * 2 + 1 := ⟨j / 2, by omega⟩
  have hkl : k < l.length := by omega
  obtain ⟨g, off, e, _, h1, h2⟩ := h k hkl
  rw [e] at ha
  injection ha with ha
  subst ha
  rw [Addr.add_lit]
  obtain ⟨c1, c2⟩ := celr_at l k hkl
  rcases hk with rfl | rfl
  · rw [c1] at hj
    exact hj ▸ h1
  · rw [c2] at hj
    exact hj ▸ h2
theorem Cels.of_own {b c : Nat} (h : w.ownsRow b 38 2 (.slice A l.length c) l.length (celr l)) : Cels w A l := by
  rcases h.2 with ⟨hv, h0⟩ | ⟨k, cap, cur, hv, h1, hk, hc, _, _, ht⟩
  · have : l = [] := List.eq_nil_of_length_eq_zero h0
    subst this
    exact Cels.nil
  · simp only [Value.slice.injEq] at hv
    obtain ⟨rfl, _, rfl⟩ := hv
    exact Cels.row (cs := cur.toList) hk fun j hj => by rw [← ht, List.getElem?_take, if_pos hj]
end

theorem only_drawn_c (w : World) (n : Nat) : Below w.heap.size w (w.drewN n) := ⟨rfl, rfl, rfl, Nat.le_refl _, fun _ _ => rfl⟩
/-- A row of the call's own that grows, nil at first. -/
def GrC (w : World) (l : List CB) (v : Value) (wr : World) : Prop := wr.ownsRow w.heap.size 38 2 v l.length (celr l) ∧ Below w.heap.size w wr
theorem GrC.nil {w wr : World} (h : Below w.heap.size w wr) : GrC w [] (.slice none 0 0) wr := ⟨World.ownsRow_nil _ _ _ _, h⟩
section
variable {w wr w1 w2 : World} {l : List CB} {r : CB} {v v' : Value}
theorem GrC.keeps (h : GrC w l v wr) (hb : Below wr.heap.size wr w1) : GrC w l v w1 := by
  refine ⟨⟨h.1.1, ?_⟩, h.2.trans (hb.mono h.2.size)⟩
  rcases h.1.2 with h0 | ⟨k, cap, cur, rfl, h1, hk, rest⟩
  · exact .inl h0
  · exact .inr ⟨k, cap, cur, rfl, h1, Row.below (cs := cur.toList) hk hb (Row.lt (cs := cur.toList) hk), rest⟩
theorem GrC.low (h : GrC w1 l v wr) (hb : Below w.heap.size w w1) : GrC w l v wr := by
  refine ⟨⟨h.1.1, ?_⟩, hb.trans (h.2.mono hb.size)⟩
  rcases h.1.2 with h0 | ⟨k, cap, cur, hv, h1, rest⟩
  · exact .inl h0
  · exact .inr ⟨k, cap, cur, hv, Nat.le_trans hb.size h1, rest⟩
theorem GrC.alloc (h : GrC w l v wr) (o : Obj) : GrC w l v (wr.alloc o) := h.keeps ((Below.refl _ _).alloc (Nat.le_refl _) _)
theorem GrC.drewN (h : GrC w l v wr) (n : Nat) : GrC w l v (wr.drewN n) := h.keeps (only_drawn_c wr n)
theorem GrC.more (h : GrC w l v w1) (ho : w2.ownsRow w.heap.size 38 2 v' (l.length + 1) (celr l ++ celC r)) (hg : w1.grownBy w2 v.ownBlock) : GrC w (l ++ [r]) v' w2 := by
  refine ⟨by rw [celr_snoc, List.length_append]; exact ho, Below.grown h.2 hg h.2.size (fun g hg2 => (h.1.lt g hg2).1)⟩
theorem GrC.mores {m : List CB} (h : GrC w l v w1) (ho : w2.ownsRow w.heap.size 38 2 v' (l.length + m.length) (celr l ++ celr m)) (hg : w1.grownBy w2 v.ownBlock) : GrC w (l ++ m) v' w2 := by
  refine ⟨by rw [celr_app, List.length_append]; exact ho, Below.grown h.2 hg h.2.size (fun g hg2 => (h.1.lt g hg2).1)⟩
theorem GrC.slot (h : GrC w l v w1) : ∃ A c, v = .slice A l.length c ∧ l.length ≤ c ∧ (A = none → c = 0) := by
  rcases h.1.2 with ⟨rfl, h0⟩ | ⟨k, cap, cur, rfl, h1, hk, hc, _, _, ht⟩
  · have : l = [] := List.eq_nil_of_length_eq_zero h0
    subst this
    exact ⟨none, 0, rfl, Nat.le_refl _, fun _ => rfl⟩
  · exact ⟨some ⟨k, 0, none⟩, cap, rfl, hc, fun e => (by cases e)⟩
theorem GrC.cels {A : Option Addr} {c : Nat} (h : GrC w l (.slice A l.length c) w1) : Cels w1 A l := Cels.of_own h.1
theorem GrC.fresh {A : Option Addr} {n c : Nat} (h : GrC w l (.slice A n c) w1) : ∀ ad, A = some ad → w.heap.size ≤ ad.block := by
  intro ad ha
  subst ha
  exact (h.1.lt ad.block rfl).1
end

theorem new_cel (w : World) (t : TypeId) (r : CB) : ∀ j u, (celC r)[j]? = some u → (w.alloc (.cells (celC r).toArray t)).cell? ((⟨w.heap.size, 0, none⟩ : Addr).add j) = some u := by
  intro j u hu
  have hr : Row (w.alloc (.cells (celC r).toArray t)) w.heap.size t (celC r) (0, 0) := Row.new w t (celC r) (0, 0)
  rw [Addr.add_lit, hr.cell, Nat.zero_add, hu]

/-- One more onto them, at the operation. -/
theorem wpList_cel {ops : Array Oper} {rest : List Oper} {o : Oper} {a : Act} {Q : Exit → Act → World → Prop} {w w1 : World} {l : List CB} (r : CB) {v : Value} (hgd : o.guard = none) (s x : Operand)
    (ho : o.op = .call { callee := .builtin .append, args := #[s, x], argTypes := #[22, 22] }) (hs : a.eval s = v) (hg : GrC w l v w1) (ad : Addr) (c : Nat) (hx : a.eval x = .slice (some ad) 1 c) (hr : ∀ j u, (celC r)[j]? = some u → w1.cell? (ad.add j) = some u)
    (hle : l.length ≤ 1000000) (h : ∀ v' w2, GrC w (l ++ [r]) v' w2 → w1.grownBy w2 v.ownBlock → wpList Try.prog ops Q rest (a.put o.dst v') w2) : wpList Try.prog ops Q (o :: rest) a w1 := by
  obtain ⟨i0, hi0, hz0, hz1, hz2⟩ := info_parts Try.infoCel
  exact wpList_append_own_at w1 hgd s x 22 ho w.heap.size 38 i0 _ 2 32 Try.underlying22 hi0 hz0 hz1 hz2 rfl (by decide) v l.length (celr l) hs hg.1 ad 1 c (celC r) hx rfl hr (celC_one r) (by unfold maxLen; omega) (by omega) hg.2.size
    (fun v' w2 h1 h2 _ _ => h v' w2 (hg.more h1 h2) h2)
/-- Others behind them, wherever these lie: one at least. -/
theorem wpList_cels {ops : Array Oper} {rest : List Oper} {o : Oper} {a : Act} {Q : Exit → Act → World → Prop} {w w1 : World} {l : List CB} (m : List CB) {v : Value} (hgd : o.guard = none) (s x : Operand)
    (ho : o.op = .call { callee := .builtin .append, args := #[s, x], argTypes := #[22, 22] }) (hs : a.eval s = v) (hg : GrC w l v w1) (ad : Addr) (k c : Nat) (hx : a.eval x = .slice (some ad) k c) (hk : m.length = k) (hr : Cels w1 (some ad) m)
    (hle : l.length ≤ 1000000) (hlm : k ≤ 1000000) (h : ∀ v' w2, GrC w (l ++ m) v' w2 → w1.grownBy w2 v.ownBlock → wpList Try.prog ops Q rest (a.put o.dst v') w2) : wpList Try.prog ops Q (o :: rest) a w1 := by
  subst hk
  obtain ⟨i0, hi0, hz0, hz1, hz2⟩ := info_parts Try.infoCel
  exact wpList_append_own w1 hgd s x 22 ho w.heap.size 38 i0 _ 2 32 Try.underlying22 hi0 hz0 hz1 hz2 rfl (by decide) v l.length (celr l) hs hg.1 ad m.length c (celr m) hx (celr_length m) (hr.news rfl) (celr_one m) (by unfold maxLen; omega) (by omega) hg.2.size
    (fun v' w2 h1 h2 _ => h v' w2 (hg.mores h1 h2) h2)
end Go.Proofs.Ytbganaaiaokfmaa
