/-
  Edges and distances as cells; what lies at a slice's address.
-/
import Derived.Test.YtbkhojopiimbdaaChecked
import Derived.Test.YtbkhojopiimbdaaBase
import Derived.Test.YtbkhojopiimbdaaWaiMath
import Derived.WalkSpells
import Derived.BigQuiet
import Derived.Maps.AppendAt
import Derived.Deep.AppendLies
import Derived.Deep.DeepCutAuto
import Derived.StillTailTactics
import Derived.Deep.RegionHeld3
import Derived.Deep.RegionLaw
namespace Go.Proofs.Ytbkhojopiimbdaa
open Go.RowKit

/-- These cells lie at the slice's address. -/
def Lie (w : World) (A : Option Addr) (vs : List Value) : Prop :=
  0 < vs.length → ∃ T g off cs m, A = some ⟨g, off, none⟩ ∧ Row w g T cs m ∧ ∀ j, j < vs.length → cs[off + j]? = vs[j]?

section
variable {w w' : World} {A : Option Addr} {vs : List Value}
theorem Lie.nil (w : World) (A : Option Addr) : Lie w A [] := fun h => absurd h (Nat.lt_irrefl _)
theorem Lie.below {B : Nat} (h : Lie w A vs) (hb : Below B w w') (hB : w.heap.size ≤ B) : Lie w' A vs := fun h0 => by
  obtain ⟨T, g, off, cs, m, hA, hr, hc⟩ := h h0
  exact ⟨T, g, off, cs, m, hA, hr.below hb (Nat.lt_of_lt_of_le hr.lt hB), hc⟩
theorem Lie.keeps (h : Lie w A vs) (hb : Below w.heap.size w w') : Lie w' A vs := h.below hb (Nat.le_refl _)
theorem Lie.alloc (h : Lie w A vs) (o : Obj) : Lie (w.alloc o) A vs := h.keeps ((Below.refl _ _).alloc (Nat.le_refl _) o)
theorem Lie.cells (h : Lie w A vs) (h0 : 0 < vs.length) : ∃ g off, A = some ⟨g, off, none⟩ ∧ ∀ j u, vs[j]? = some u → w.cell? ⟨g, off + j, none⟩ = some u := by
  obtain ⟨T, g, off, cs, m, hA, hr, hc⟩ := h h0
  refine ⟨g, off, hA, fun j u hj => ?_⟩
  rw [hr.cell, hc j (List.getElem?_eq_some_iff.1 hj).1, hj]
theorem Lie.owns {base : Nat} {e : TypeId} {sz n c : Nat} (h : w.ownsRow base e sz (.slice A n c) n vs) : Lie w A vs := fun h0 => by
  rcases h.2 with ⟨hv, hn⟩ | ⟨g, cap, cur, hv, _, hg, _, _, _, ht⟩
  · have := h.1
    rw [hn, Nat.zero_mul] at this
    omega
  · injection hv with h1 h2 h3
    subst h1
    refine ⟨e, g, 0, cur.toList, (0, 0), rfl, by rw [Row, hg], fun j hj => ?_⟩
    rw [Nat.zero_add, ← ht, List.getElem?_take, if_pos]
    have := h.1
    omega
end

/-- Only what lies below has not turned; nothing else is said. -/
def Keep (W wx : World) : Prop := Below W.heap.size W wx
theorem Keep.refl (W : World) : Keep W W := Below.refl _ W
theorem Keep.drew {W wx : World} (h : Keep W wx) : Keep W wx.drew := Below.drew h
theorem Keep.drewN {W wx : World} (h : Keep W wx) (n : Nat) : Keep W (wx.drewN n) := ⟨h.os, h.tape, h.output, h.size, h.block⟩
theorem Keep.alloc {W wx : World} (h : Keep W wx) (o : Obj) : Keep W (wx.alloc o) := Below.alloc h (Below.size h) o
theorem Keep.then {W wx w' : World} (h : Keep W wx) (hb : Below wx.heap.size wx w') : Keep W w' := Below.trans h (hb.mono (Below.size h))
theorem Keep.calls {W wx : World} {P : Program} {f : Nat} {args : Array Value} {v : Value} (hk : Keep W wx) (h : Calls P f args wx fun r w' => r = .returned v ∧ Below wx.heap.size wx w') :
    Calls P f args wx fun r w' => r = .returned v ∧ Keep W w' := h.mono fun _ _ ⟨e, hb⟩ => ⟨e, hk.then hb⟩
theorem Lie.keep {w w' : World} {A : Option Addr} {vs : List Value} (h : Lie w A vs) (hb : Keep w w') : Lie w' A vs := h.keeps hb

/-- Edges' cells. -/
def ev (l : List Edge) : List Value := l.flatMap fun e => [.int .u64 (e.1 : Int), .int .u64 (e.2 : Int)]
/-- Distances' cells. -/
def fv (l : List (Nat × Nat)) : List Value := l.flatMap fun e => [.int .u64 (e.1 : Int), .int .i64 (e.2 : Int)]
/-- Numbers' cells. -/
def nv (l : List Nat) : List Value := l.map fun n : Nat => .int .u64 (n : Int)
theorem nv_length (l : List Nat) : (nv l).length = l.length := by simp [nv]
theorem nv_append (a b : List Nat) : nv (a ++ b) = nv a ++ nv b := by simp [nv]
theorem nv_get (l : List Nat) (j : Nat) (h : j < l.length) : (nv l)[j]? = some (.int .u64 (l[j] : Int)) := by simp [nv, List.getElem?_eq_getElem h]
theorem nv_one (l : List Nat) : ∀ u ∈ nv l, u.oneCell' = true := by
  intro u hu
  obtain ⟨_, _, rfl⟩ := List.mem_map.1 hu
  rfl

section
variable {f g : Nat × Nat → Value}
theorem two_length (l : List (Nat × Nat)) : (l.flatMap fun e => [f e, g e]).length = l.length * 2 := by
  induction l with
  | nil => rfl
  | cons r l ih => rw [List.flatMap_cons, List.length_append, ih]; simp only [List.length_cons, List.length_nil]; omega
theorem two_at : ∀ (l : List (Nat × Nat)) (i : Nat) (h : i < l.length), (l.flatMap fun e => [f e, g e])[i * 2]? = some (f l[i]) ∧ (l.flatMap fun e => [f e, g e])[i * 2 + 1]? = some (g l[i])
  | [], _, h => absurd h (Nat.not_lt_zero _)
  | r :: l, 0, _ => ⟨rfl, rfl⟩
  | r :: l, i + 1, h => by
    have := two_at l i (by simpa using h)
    rw [List.flatMap_cons, List.getElem?_append_right (by show 2 ≤ _; omega), List.getElem?_append_right (by show 2 ≤ _; omega)]
    show (List.flatMap _ l)[(i + 1) * 2 - 2]? = _ ∧ (List.flatMap _ l)[(i + 1) * 2 + 1 - 2]? = _
    rw [show (i + 1) * 2 - 2 = i * 2 by omega, show (i + 1) * 2 + 1 - 2 = i * 2 + 1 by omega]
    exact this
end
theorem ev_length (l : List Edge) : (ev l).length = l.length * 2 := two_length l
theorem fv_length (l : List (Nat × Nat)) : (fv l).length = l.length * 2 := two_length l
theorem ev_append (a b : List Edge) : ev (a ++ b) = ev a ++ ev b := by simp [ev]
theorem fv_append (a b : List (Nat × Nat)) : fv (a ++ b) = fv a ++ fv b := by simp [fv]
theorem fv_one (l : List (Nat × Nat)) : ∀ u ∈ fv l, u.oneCell' = true := by
  intro u hu
  obtain ⟨x, _, hx⟩ := List.mem_flatMap.1 hu
  simp only [List.mem_cons, List.not_mem_nil, or_false] at hx
  rcases hx with rfl | rfl <;> rfl
theorem ev_one (l : List Edge) : ∀ u ∈ ev l, u.oneCell' = true := by
  intro u hu
  obtain ⟨x, _, hx⟩ := List.mem_flatMap.1 hu
  simp only [List.mem_cons, List.not_mem_nil, or_false] at hx
  rcases hx with rfl | rfl <;> rfl

section
variable {w : World} {A : Option Addr}
/-- An edge's two cells. -/
theorem Lie.edge {l : List Edge} (h : Lie w A (ev l)) {i : Nat} (hi : i < l.length) :
    ∃ g off, A = some ⟨g, off, none⟩ ∧ w.cell? ⟨g, off + i * 2, none⟩ = some (.int .u64 (l[i].1 : Int)) ∧ w.cell? ⟨g, off + i * 2 + 1, none⟩ = some (.int .u64 (l[i].2 : Int)) := by
  obtain ⟨g, off, hA, hc⟩ := h.cells (by rw [ev_length]; omega)
  obtain ⟨h1, h2⟩ := two_at (f := fun e => .int .u64 (e.1 : Int)) (g := fun e => .int .u64 (e.2 : Int)) l i hi
  exact ⟨g, off, hA, hc _ _ h1, by rw [Nat.add_assoc]; exact hc _ _ h2⟩
theorem Lie.far {l : List (Nat × Nat)} (h : Lie w A (fv l)) {i : Nat} (hi : i < l.length) :
    ∃ g off, A = some ⟨g, off, none⟩ ∧ w.cell? ⟨g, off + i * 2, none⟩ = some (.int .u64 (l[i].1 : Int)) ∧ w.cell? ⟨g, off + i * 2 + 1, none⟩ = some (.int .i64 (l[i].2 : Int)) := by
  obtain ⟨g, off, hA, hc⟩ := h.cells (by rw [fv_length]; omega)
  obtain ⟨h1, h2⟩ := two_at (f := fun e => .int .u64 (e.1 : Int)) (g := fun e => .int .i64 (e.2 : Int)) l i hi
  exact ⟨g, off, hA, hc _ _ h1, by rw [Nat.add_assoc]; exact hc _ _ h2⟩
theorem Lie.num {l : List Nat} (h : Lie w A (nv l)) {i : Nat} (hi : i < l.length) :
    ∃ g off, A = some ⟨g, off, none⟩ ∧ w.cell? ⟨g, off + i, none⟩ = some (.int .u64 (l[i] : Int)) := by
  obtain ⟨g, off, hA, hc⟩ := h.cells (by rw [nv_length]; omega)
  exact ⟨g, off, hA, hc _ _ (nv_get l i hi)⟩
end

/-- An argument's edges, once and for all. -/
theorem Lie.edges {w : World} {A : Option Addr} {l : List Edge} (h : Lie w A (ev l)) (h0 : 0 < l.length) :
    ∃ g off, A = some ⟨g, off, none⟩ ∧ ∀ wx, Keep w wx → ∀ i (hi : i < l.length), wx.cell? ⟨g, off + i * 2, none⟩ = some (.int .u64 (l[i].1 : Int)) ∧ wx.cell? ⟨g, off + i * 2 + 1, none⟩ = some (.int .u64 (l[i].2 : Int)) := by
  obtain ⟨g, off, hA, _⟩ := h.edge h0
  refine ⟨g, off, hA, fun wx hk i hi => ?_⟩
  obtain ⟨g', off', hA', h1, h2⟩ := (h.keep hk).edge hi
  rw [hA] at hA'
  injection hA' with e
  injection e with e1 e2 e3
  subst e1 e2
  exact ⟨h1, h2⟩
theorem Keep.trans {w w1 w2 : World} (h : Keep w w1) (k : Keep w1 w2) : Keep w w2 := h.then k
theorem _root_.Go.World.ownsRow.keeps {w w' : World} {base : Nat} {e : TypeId} {sz n : Nat} {v : Value} {xs : List Value} (h : w.ownsRow base e sz v n xs) (hb : Below w.heap.size w w') : w'.ownsRow base e sz v n xs := by
  refine ⟨h.1, ?_⟩
  rcases h.2 with hn | ⟨g, cap, cur, rfl, hb1, hgg, rest⟩
  · exact .inl hn
  · exact .inr ⟨g, cap, cur, rfl, hb1, (hb.block g (Array.getElem?_eq_some_iff.1 hgg).1).trans hgg, rest⟩
theorem new_two (w : World) (t : TypeId) (a b : Value) : ∀ j u, ([a, b] : List Value)[j]? = some u → (w.alloc (.cells #[a, b] t)).cell? ((⟨w.heap.size, 0, none⟩ : Addr).add j) = some u := fun j u hj => by
  have hr : Row (w.alloc (.cells #[a, b] t)) w.heap.size t [a, b] (0, 0) := Row.new w t [a, b] (0, 0)
  rw [Addr.add_lit, hr.cell, Nat.zero_add]
  exact hj
theorem new_one (w : World) (t : TypeId) (a : Value) : ∀ j u, ([a] : List Value)[j]? = some u → (w.alloc (.cells #[a] t)).cell? ((⟨w.heap.size, 0, none⟩ : Addr).add j) = some u := fun j u hj => by
  have hr : Row (w.alloc (.cells #[a] t)) w.heap.size t [a] (0, 0) := Row.new w t [a] (0, 0)
  rw [Addr.add_lit, hr.cell, Nat.zero_add]
  exact hj
theorem two_one {k1 k2 : IntKind} (p q : Int) : ∀ u ∈ ([.int k1 p, .int k2 q] : List Value), u.oneCell' = true := by
  intro u hu
  simp only [List.mem_cons, List.not_mem_nil, or_false] at hu
  rcases hu with rfl | rfl <;> rfl
/-- A row of the call's own, as a slice. -/
theorem ownsRow_lit {w : World} {base : Nat} {e : TypeId} {sz n : Nat} {v : Value} {xs : List Value} (h : w.ownsRow base e sz v n xs) : ∃ A c, v = .slice A n c ∧ n ≤ c ∧ (A = none → c = 0) ∧ Lie w A xs := by
  rcases h.2 with ⟨hv, hn⟩ | ⟨g, cap, cur, hv, _, _, hc, _⟩
  · subst hn
    exact ⟨none, 0, hv, Nat.le_refl _, fun _ => rfl, Lie.owns (by rw [hv] at h; exact h)⟩
  · exact ⟨_, cap, hv, hc, (fun e => by cases e), Lie.owns (by rw [hv] at h; exact h)⟩

theorem ownsRow_cap {w : World} {base : Nat} {e : TypeId} {sz n c : Nat} {A : Option Addr} {xs : List Value} (h : w.ownsRow base e sz (.slice A n c) n xs) : c ≤ 9223372036854775807 := by
  rcases h.2 with ⟨hv, _⟩ | ⟨g, cap, cur, hv, _, _, _, hc, _⟩
  · injection hv with _ _ h3
    rw [h3]; decide
  · injection hv with _ _ h3
    rw [h3]; exact hc

/-- How far: the first one's number; -1: it does not stand there. -/
def atF : List (Nat × Nat) → Nat → Int
  | [], _ => -1
  | (x, k) :: l, tx => if x = tx then (k : Int) else atF l tx
theorem atF_take {l : List (Nat × Nat)} {tx : Nat} : ∀ {k : Nat} (hk : k < l.length), (∀ j (hj : j < k), (l[j]'(by omega)).1 ≠ tx) → (l[k].1 = tx → atF l tx = (l[k].2 : Int)) := by
  induction l with
  | nil => intro k hk; exact absurd hk (Nat.not_lt_zero _)
  | cons e l ih =>
    intro k hk h he
    cases k with
    | zero => simp only [List.getElem_cons_zero] at he; unfold atF; rw [if_pos he]; rfl
    | succ k =>
      have h0 := h 0 (by omega)
      simp only [List.getElem_cons_zero] at h0
      unfold atF
      rw [if_neg h0]
      exact ih (by simpa using hk) (fun j hj => by have := h (j + 1) (by omega); simpa using this) (by simpa using he)
theorem atF_none {l : List (Nat × Nat)} {tx : Nat} (h : ∀ j (hj : j < l.length), l[j].1 ≠ tx) : atF l tx = -1 := by
  induction l with
  | nil => rfl
  | cons e l ih =>
    have h0 := h 0 (by simp)
    simp only [List.getElem_cons_zero] at h0
    unfold atF
    rw [if_neg h0]
    exact ih fun j hj => by have := h (j + 1) (by simpa using hj); simpa using this
theorem atF_neg {l : List (Nat × Nat)} {tx : Nat} : atF l tx < 0 ↔ ∀ k, (tx, k) ∉ l := by
  induction l with
  | nil => simp [atF]
  | cons e l ih =>
    obtain ⟨x, k⟩ := e
    unfold atF
    by_cases h : x = tx
    · rw [if_pos h]
      subst h
      exact ⟨fun h => absurd h (by omega), fun h => absurd (List.mem_cons_self) (h k)⟩
    · rw [if_neg h, ih]
      constructor
      · intro h1 j hj
        rcases List.mem_cons.1 hj with e | hj
        · injection e with e1 _; exact h e1.symm
        · exact h1 j hj
      · exact fun h1 j hj => h1 j (List.mem_cons_of_mem _ hj)
theorem atF_mem {l : List (Nat × Nat)} {tx k : Nat} (h : atF l tx = (k : Int)) : (tx, k) ∈ l := by
  induction l with
  | nil => exact absurd h (by show ¬ (-1 : Int) = _; omega)
  | cons e l ih =>
    obtain ⟨x, j⟩ := e
    unfold atF at h
    by_cases hx : x = tx
    · rw [if_pos hx] at h
      subst hx
      obtain rfl : j = k := by omega
      exact List.mem_cons_self
    · rw [if_neg hx] at h
      exact List.mem_cons_of_mem _ (ih h)
theorem atF_of {l : List (Nat × Nat)} {tx k : Nat} (h : (tx, k) ∈ l) (hu : ∀ j, (tx, j) ∈ l → j = k) : atF l tx = (k : Int) := by
  have h1 : ¬ atF l tx < 0 := fun hn => atF_neg.1 hn k h
  obtain ⟨j, hj⟩ : ∃ j : Nat, atF l tx = (j : Int) := ⟨(atF l tx).toNat, by omega⟩
  rw [hj, hu j (atF_mem hj)]

theorem Try.infoFar : (Try.prog.info? 38).map (fun i => (i.zero, i.size, i.bytes)) = some (some (.agg #[.int .u64 0, .int .i64 0]), 2, 16) := by kernel_rfl
theorem Try.infoEdge : (Try.prog.info? 31).map (fun i => (i.zero, i.size, i.bytes)) = some (some (.agg #[.int .u64 0, .int .u64 0]), 2, 16) := by kernel_rfl
theorem Try.infoU64 : (Try.prog.info? 23).map (fun i => (i.zero, i.size, i.bytes)) = some (some (.int .u64 0), 1, 8) := by kernel_rfl

end Go.Proofs.Ytbkhojopiimbdaa
