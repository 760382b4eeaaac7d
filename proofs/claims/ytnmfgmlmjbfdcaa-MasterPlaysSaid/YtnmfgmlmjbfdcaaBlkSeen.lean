/-
  Rows of texts that grow, block by block: what a statement has seen.
-/
import Derived.Test.YtnmfgmlmjbfdcaaMBlkEF
namespace Go.Proofs.Ytnmfgmlmjbfdcaa
open Go.RowKit

def strs (l : List ByteArray) : List Value := l.map .string
theorem strs_length (l : List ByteArray) : (strs l).length = l.length := by simp [strs]
theorem strs_get (l : List ByteArray) (i : Nat) (h : i < l.length) : (strs l)[i]? = some (.string l[i]) := by simp [strs, List.getElem?_eq_getElem h]
theorem strs_one (l : List ByteArray) : ∀ u ∈ strs l, u.oneCell' = true := by
  intro u hu
  obtain ⟨_, _, rfl⟩ := List.mem_map.1 hu
  rfl
set_option maxRecDepth 100000 in
theorem Try.infoStr : (Try.prog.info? 9).map (fun i => (i.zero, i.size, i.bytes)) = some (some (.string ⟨#[]⟩), 1, 16) := by kernel_rfl

/-- One text more, onto a row of the call's own. -/
theorem run_str (w : World) (ty : TypeId) (base : Nat) (v : Value) (l : List ByteArray) (hown : w.ownsRow base 9 1 v l.length (strs l)) (ad : Addr) (c : Nat) (t : ByteArray) (hnew : w.cell? ad = some (.string t)) (hle : l.length ≤ 1000000) (hbase : base ≤ w.heap.size) :
    ∃ (g cap : Nat) (w' : World), (Builtin.append_ #[68, 68] ty #[v, .slice (some ad) 1 c]).run Try.prog w = .ok (.slice (some ⟨g, 0, none⟩) (l.length + 1) cap) w' ∧ w'.ownsRow base 9 1 (.slice (some ⟨g, 0, none⟩) (l.length + 1) cap) (l.length + 1) (strs (l ++ [t])) ∧ w.grownBy w' v.ownBlock ∧ (v.ownBlock = some g ∨ w.heap.size ≤ g) := by
  obtain ⟨i0, hi0, hz0, hz1, hz2⟩ := info_parts Try.infoStr
  obtain ⟨v', w', hr, h2, h3, h4, h5⟩ := run_append_own_at (P := Try.prog) w base 68 ty 9 i0 _ 1 16 Try.underlying68 hi0 hz0 hz1 hz2 rfl (by decide) v l.length (strs l) hown ad 1 c (strs [t]) rfl (fun j u hj => by
      match j, hj with
      | 0, hj =>
        rw [show ad.add 0 = ad from by cases ad; rfl, hnew]
        exact hj
      | k + 1, hj => simp [strs] at hj) (strs_one _) (by unfold maxLen; omega) (by omega) hbase
  have hv : v' ≠ .slice none 0 0 := fun e => by
    have := (h4.1 e).2
    cases this
  obtain ⟨g, cap, rfl⟩ : ∃ g cap, v' = .slice (some ⟨g, 0, none⟩) (l.length + 1) cap := by
    rcases h2.2 with ⟨h0, _⟩ | ⟨g, cap, cur, hv', _⟩
    · exact absurd h0 hv
    · exact ⟨g, cap, hv'⟩
  refine ⟨g, cap, w', hr, ?_, h3, ?_⟩
  · have e : strs (l ++ [t]) = strs l ++ strs [t] := by simp [strs]
    rw [e]; exact h2
  · rcases h5 with h5 | h5
    · exact .inl h5.symm
    · have : some g = some w.heap.size := h5
      injection this with this
      exact .inr (by omega)
theorem step_str {ops : Array Oper} {o : Oper} {a : Act} {w : World} {K : Act → World → Prop} {Q : Exit → Act → World → Prop} {E : Prop} (hgd : o.guard = none) (s x : Operand)
    (ho : o.op = .call { callee := .builtin .append, args := #[s, x], argTypes := #[68, 68] }) (base : Nat) (v : Value) (l : List ByteArray) (hs : a.eval s = v) (hown : w.ownsRow base 9 1 v l.length (strs l))
    (ad : Addr) (c : Nat) (t : ByteArray) (hx : a.eval x = .slice (some ad) 1 c) (hnew : w.cell? ad = some (.string t)) (hle : l.length ≤ 1000000) (hbase : base ≤ w.heap.size)
    (h : ∀ g c' w', w'.ownsRow base 9 1 (.slice (some ⟨g, 0, none⟩) (l.length + 1) c') (l.length + 1) (strs (l ++ [t])) → w.grownBy w' v.ownBlock → (v.ownBlock = some g ∨ w.heap.size ≤ g) → K (a.put o.dst (.slice (some ⟨g, 0, none⟩) (l.length + 1) c')) w') :
    if Region.wanted o (yielded ops a.tmps) = true then Oper.wp Try.prog o a w K Q else E := by
  have hw : Region.wanted o (yielded ops a.tmps) = true := by simp [Region.wanted, hgd]
  rw [if_pos hw]
  obtain ⟨g, cap, w', hr, h2, h3, h4⟩ := run_str w o.type base v l hown ad c t hnew hle hbase
  unfold Oper.wp execOp
  simp only [ho, resolve, invoke, builtin, Sem.run_bind, Sem.run_pure, Result.andThen_ok, List.map_toArray, List.map_cons, List.map_nil, hs, hx, hr]
  exact h g cap w' h2 h3 h4
theorem wpList_str {ops : Array Oper} {rest : List Oper} {o : Oper} {a : Act} {w : World} {Q : Exit → Act → World → Prop} (hgd : o.guard = none) (s x : Operand)
    (ho : o.op = .call { callee := .builtin .append, args := #[s, x], argTypes := #[68, 68] }) (base : Nat) (v : Value) (l : List ByteArray) (hs : a.eval s = v) (hown : w.ownsRow base 9 1 v l.length (strs l))
    (ad : Addr) (c : Nat) (t : ByteArray) (hx : a.eval x = .slice (some ad) 1 c) (hnew : w.cell? ad = some (.string t)) (hle : l.length ≤ 1000000) (hbase : base ≤ w.heap.size)
    (h : ∀ g c' w', w'.ownsRow base 9 1 (.slice (some ⟨g, 0, none⟩) (l.length + 1) c') (l.length + 1) (strs (l ++ [t])) → w.grownBy w' v.ownBlock → (v.ownBlock = some g ∨ w.heap.size ≤ g) → wpList Try.prog ops Q rest (a.put o.dst (.slice (some ⟨g, 0, none⟩) (l.length + 1) c')) w') :
    wpList Try.prog ops Q (o :: rest) a w := by
  refine wpList_plain hgd fun K hK => ?_
  obtain ⟨g, cap, w', hr, h2, h3, h4⟩ := run_str w o.type base v l hown ad c t hnew hle hbase
  unfold Oper.wp execOp
  simp only [ho, resolve, invoke, builtin, Sem.run_bind, Sem.run_pure, Result.andThen_ok, List.map_toArray, List.map_cons, List.map_nil, hs, hx, hr]
  exact hK _ _ (h g cap w' h2 h3 h4)

theorem owns_row {w : World} {base n : Nat} {v : Value} {l : List ByteArray} (h : w.ownsRow base 9 1 v n (strs l)) (h0 : 0 < n) :
    ∃ g cap cs, v = .slice (some ⟨g, 0, none⟩) n cap ∧ n ≤ cap ∧ base ≤ g ∧ Row w g 9 cs (0, 0) ∧ ∀ (i : Nat) (hi : i < l.length), cs[i]? = some (.string l[i]) := by
  rcases h.2 with ⟨_, e⟩ | ⟨g, cap, cur, e, hb, hg, hc, hm, hs, ht⟩
  · omega
  · refine ⟨g, cap, cur.toList, e, hc, hb, hg, fun i hi => ?_⟩
    have hl := h.1
    rw [strs_length] at hl
    have : (cur.toList.take (n * 1))[i]? = (strs l)[i]? := by rw [ht]
    rw [List.getElem?_take, if_pos (by omega), strs_get l i hi] at this
    exact this

/-- What has been seen of each of four blocks. -/
structure Seen (W : World) (G : Nat) (v : Nat → Value) (S : Nat → List ByteArray) (w : World) : Prop where
  row : Row w G 68 [v 0, v 1, v 2, v 3] (0, 0)
  new : W.heap.size ≤ G
  own : ∀ b, b < 4 → w.ownsRow W.heap.size 9 1 (v b) (S b).length (strs (S b))
  pos : ∀ b, b < 4 → 0 < (S b).length
  apart : ∀ a b, a < 4 → b < 4 → a ≠ b → (v a).ownBlock ≠ (v b).ownBlock

section
variable {W w w' : World} {G : Nat} {v : Nat → Value} {S : Nat → List ByteArray}
theorem Seen.block (h : Seen W G v S w) {b : Nat} (hb : b < 4) {k : Nat} (hk : (v b).ownBlock = some k) : ∃ cs, Row w k 9 cs (0, 0) := by
  obtain ⟨g, cap, cs, e, _, _, hr, _⟩ := owns_row (h.own b hb) (h.pos b hb)
  rw [e] at hk
  injection hk with hk
  subst hk
  exact ⟨cs, hr⟩
theorem Seen.only (h : Seen W G v S w) {F : Nat → Prop} (ho : Only F w w') (hG : ¬ F G) (hv : ∀ b, b < 4 → ∀ k, (v b).ownBlock = Option.some k → ¬ F k) : Seen W G v S w' :=
  ⟨h.row.only ho hG, h.new, fun b hb => ownsRow_only (h.own b hb) ho (hv b hb), h.pos, h.apart⟩
theorem Seen.keeps (h : Seen W G v S w) (hb : Below w.heap.size w w') : Seen W G v S w' := h.only (Only.below hb fun _ => False) (fun hf => hf) fun _ _ _ _ hf => hf
theorem Seen.dev (h : Seen W G v S w) {d : DV} (hd : d.In w) (ho : Only d.mine w w') : Seen W G v S w' :=
  h.only ho (hd.notMine h.row (by decide) (by decide) (by decide)) fun b hb k hk => by
    obtain ⟨cs, hr⟩ := h.block hb hk
    exact hd.notMine hr (by decide) (by decide) (by decide)
theorem Seen.cellG (h : Seen W G v S w) {b : Nat} (hb : b < 4) : w.cell? ⟨G, b, none⟩ = Option.some (v b) := by
  rw [h.row.cell]
  rcases (show b = 0 ∨ b = 1 ∨ b = 2 ∨ b = 3 by omega) with rfl | rfl | rfl | rfl <;> rfl
/-- One text more. -/
theorem Seen.push (h : Seen W G v S w) {b g c : Nat} (hb : b < 4) {t : ByteArray} (hown : w'.ownsRow W.heap.size 9 1 (.slice (Option.some ⟨g, 0, none⟩) ((S b).length + 1) c) ((S b).length + 1) (strs (S b ++ [t])))
    (hg : w.grownBy w' (v b).ownBlock) (hblk : (v b).ownBlock = Option.some g ∨ w.heap.size ≤ g) :
    (∃ u, w'.cell? ⟨G, b, none⟩ = Option.some u) ∧ w'.frozen? ⟨G, b, none⟩ = false ∧
      Seen W G (fun x => if x = b then .slice (Option.some ⟨g, 0, none⟩) ((S b).length + 1) c else v x) (fun x => if x = b then S b ++ [t] else S x) (w'.setCell ⟨G, b, none⟩ (.slice (Option.some ⟨g, 0, none⟩) ((S b).length + 1) c)) ∧
      Only (fun k => k = G ∨ (v b).ownBlock = Option.some k) w (w'.setCell ⟨G, b, none⟩ (.slice (Option.some ⟨g, 0, none⟩) ((S b).length + 1) c)) := by
  have ho : Only (fun k => (v b).ownBlock = Option.some k) w w' := ⟨hg.os, hg.tape, hg.output, hg.size, fun k hk hn => hg.block k hk (fun e => hn e.symm)⟩
  have hGn : ∀ x, x < 4 → (v x).ownBlock ≠ Option.some G := fun x hx hk => by
    obtain ⟨cs, hr⟩ := h.block hx hk
    exact h.row.ne_ hr (by decide) rfl
  have hr' : Row w' G 68 [v 0, v 1, v 2, v 3] (0, 0) := h.row.only ho (hGn b hb)
  have hgG : g ≠ G := fun e => by
    subst e
    rcases hown.2 with ⟨e2, _⟩ | ⟨g2, cap, cur, e2, _, hg2, _⟩
    · cases e2
    · simp only [Value.slice.injEq, Option.some.injEq, Addr.mk.injEq] at e2
      obtain ⟨⟨rfl, _⟩, _⟩ := e2
      exact hr'.ne_ (show Row w' g 9 cur.toList (0, 0) from hg2) (by decide) rfl
  have hset : Only (· = G) w' (w'.setCell ⟨G, b, none⟩ (.slice (Option.some ⟨g, 0, none⟩) ((S b).length + 1) c)) := Only.setCell (F := (· = G)) (p := ⟨G, b, none⟩) (Only.refl _ w') rfl _
  have hc : w'.cell? ⟨G, b, none⟩ = Option.some (v b) := by
    rw [hr'.cell]
    rcases (show b = 0 ∨ b = 1 ∨ b = 2 ∨ b = 3 by omega) with rfl | rfl | rfl | rfl <;> rfl
  refine ⟨⟨_, hc⟩, hr'.loose b, ⟨?_, h.new, fun x hx => ?_, fun x hx => ?_, fun x y hx hy hxy => ?_⟩, ?_⟩
  · have := hr'.put b (.slice (Option.some ⟨g, 0, none⟩) ((S b).length + 1) c)
    rcases (show b = 0 ∨ b = 1 ∨ b = 2 ∨ b = 3 by omega) with rfl | rfl | rfl | rfl <;> simpa using this
  · by_cases e : x = b
    · subst e
      simp only [if_true]
      rw [show (S x ++ [t]).length = (S x).length + 1 by simp]
      exact ownsRow_only hown hset (fun k hk e => by injection hk with hk; exact hgG (hk.trans e))
    · simp only [if_neg e]
      exact ownsRow_only (ownsRow_only (h.own x hx) ho fun k hk hk2 => h.apart x b hx hb e (hk.trans hk2.symm)) hset (fun k hk e2 => hGn x hx (by rw [← e2]; exact hk))
  · by_cases e : x = b
    · simp only [if_pos e]; simp
    · simp only [if_neg e]; exact h.pos x hx
  · have key : ∀ z, z < 4 → z ≠ b → (v z).ownBlock ≠ Option.some g := fun z hz hzb hk => by
      rcases hblk with e | e
      · exact h.apart z b hz hb hzb (hk.trans e.symm)
      · obtain ⟨cs, hr⟩ := h.block hz hk
        have := hr.lt
        omega
    by_cases e1 : x = b
    · have e2 : y ≠ b := fun e => hxy (e1.trans e.symm)
      simp only [if_pos e1, if_neg e2]
      exact fun hk => key y hy e2 hk.symm
    · by_cases e2 : y = b
      · simp only [if_neg e1, if_pos e2]
        exact fun hk => key x hx e1 hk
      · simp only [if_neg e1, if_neg e2]
        exact h.apart x y hx hy hxy
  · exact (ho.imp fun _ _ e => .inr e).trans (hset.imp fun _ _ e => .inl e)
end
end Go.Proofs.Ytnmfgmlmjbfdcaa
