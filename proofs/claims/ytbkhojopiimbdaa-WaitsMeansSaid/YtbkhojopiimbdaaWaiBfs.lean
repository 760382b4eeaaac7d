/-
  A search forwards from tx, plainly: nodes in a queue, each with its way; who is looked at goes on to its next ones in ascending order, each that is not there yet is put behind. The first one with an edge back has the least closed way.
-/
import Derived.Test.YtbkhojopiimbdaaWaiMath
namespace Go.Proofs.Ytbkhojopiimbdaa

theorem preB_trans {a b c : List Nat} (h : preB a b) (k : preB b c) : preB a c := by
  rcases h with h | ⟨h, h'⟩ <;> rcases k with k | ⟨k, k'⟩
  · exact .inl (by omega)
  · exact .inl (by omega)
  · exact .inl (by omega)
  · refine .inr ⟨by omega, ?_⟩
    clear h k
    induction a generalizing b c with
    | nil => cases b <;> first | exact h'.elim | (cases c <;> exact k'.elim)
    | cons x a ih =>
      cases b with
      | nil => exact h'.elim
      | cons y b =>
        cases c with
        | nil => exact k'.elim
        | cons z c =>
          rcases h' with h' | ⟨rfl, h'⟩ <;> rcases k' with k' | ⟨rfl, k'⟩
          · exact .inl (by omega)
          · exact .inl h'
          · exact .inl k'
          · exact .inr ⟨rfl, ih h' k'⟩
/-- The least first, or the same. -/
def leB (a b : List Nat) : Prop := a = b ∨ preB a b
theorem leB.refl (a : List Nat) : leB a a := .inl rfl
theorem leB.trans {a b c : List Nat} (h : leB a b) (k : leB b c) : leB a c := by
  rcases h with rfl | h
  · exact k
  · rcases k with rfl | k
    · exact .inr h
    · exact .inr (preB_trans h k)
theorem leB.pre {a b c : List Nat} (h : leB a b) (k : preB b c) : preB a c := by
  rcases h with rfl | h
  · exact k
  · exact preB_trans h k
theorem preB_le {a b c : List Nat} (h : preB a b) (k : leB b c) : preB a c := by
  rcases k with rfl | k
  · exact h
  · exact preB_trans h k
theorem preB_irrefl {a : List Nat} (h : preB a a) : False := preB_asymm h h
theorem lexB_app {a b x y : List Nat} (hl : a.length = b.length) (h : lexB a b) : lexB (a ++ x) (b ++ y) := by
  induction a generalizing b with
  | nil => cases b <;> first | exact h.elim | (simp at hl)
  | cons u a ih =>
    cases b with
    | nil => exact h.elim
    | cons v b =>
      rcases h with h | ⟨rfl, h⟩
      · exact .inl h
      · exact .inr ⟨rfl, ih (by simpa using hl) h⟩
theorem lexB_same {a x y : List Nat} (h : lexB x y) : lexB (a ++ x) (a ++ y) := by
  induction a with
  | nil => exact h
  | cons u a ih => exact .inr ⟨rfl, ih⟩
/-- One node more behind what is before. -/
theorem preB_snoc {a b : List Nat} (h : preB a b) (x y : Nat) : preB (a ++ [x]) (b ++ [y]) := by
  rcases h with h | ⟨h, h'⟩
  · exact .inl (by simp; omega)
  · exact .inr ⟨by simp; omega, lexB_app h h'⟩
theorem leB_snoc {a b : List Nat} (h : leB a b) (x : Nat) : leB (a ++ [x]) (b ++ [x]) := by
  rcases h with rfl | h
  · exact .inl rfl
  · exact .inr (preB_snoc h x x)
theorem preB_next (a : List Nat) {x y : Nat} (h : x < y) : preB (a ++ [x]) (a ++ [y]) := .inr ⟨by simp, lexB_same (.inl h)⟩
theorem preB_more (a : List Nat) {b : List Nat} (h : b ≠ []) : preB a (a ++ b) := by
  refine .inl ?_
  rw [List.length_append]
  have : 0 < b.length := List.length_pos_iff.2 h
  omega

/-- A way from a along edges through the row, to its last node (or a itself). -/
def Goes (l : List Edge) : Nat → List Nat → Nat → Prop
  | a, [], y => a = y
  | a, b :: r, y => (a, b) ∈ l ∧ Goes l b r y
section
variable {l : List Edge} {tx : Nat}
theorem Goes.snoc : ∀ {a : Nat} {r : List Nat} {y z : Nat}, Goes l a r y → (y, z) ∈ l → Goes l a (r ++ [z]) z
  | _, [], _, _, h, he => by
    have h : _ = _ := h
    subst h
    exact ⟨he, rfl⟩
  | _, _ :: _, _, _, h, he => ⟨h.1, Goes.snoc h.2 he⟩
theorem Goes.way : ∀ {a : Nat} {r : List Nat} {y : Nat}, Goes l a r y → (y, tx) ∈ l → Way l tx a r
  | _, [], _, h, he => by
    have h : _ = _ := h
    subst h
    exact he
  | _, _ :: _, _, h, he => ⟨h.1, Goes.way h.2 he⟩
theorem Way.goes : ∀ {a : Nat} {r : List Nat}, Way l tx a r → ∃ y, Goes l a r y ∧ (y, tx) ∈ l
  | a, [], h => ⟨a, rfl, h⟩
  | _, _ :: _, h => by
    obtain ⟨y, hy, he⟩ := Way.goes h.2
    exact ⟨y, ⟨h.1, hy⟩, he⟩
theorem Goes.parts : ∀ {a : Nat} {r : List Nat} {z y : Nat}, Goes l a (r ++ [z]) y → ∃ x, Goes l a r x ∧ (x, z) ∈ l ∧ y = z
  | a, [], _, _, h => ⟨a, rfl, h.1, h.2.symm⟩
  | _, _ :: _, _, _, h => by
    obtain ⟨x, hx, he⟩ := Goes.parts h.2
    exact ⟨x, ⟨h.1, hx⟩, he⟩
end

/-- A queue: nodes with their ways; the first n of them are done with. -/
structure Queue (l : List Edge) (tx : Nat) (Q : List (Nat × List Nat)) (n : Nat) : Prop where
  root : Q[0]? = some (tx, [])
  goes : ∀ q ∈ Q, Goes l tx q.2 q.1
  nodup : (Q.map (·.1)).Nodup
  order : Q.Pairwise fun p q => preB p.2 q.2
  done : ∀ j, j < n → ∀ q, Q[j]? = some q → ∀ z, (q.1, z) ∈ l → z ≠ tx ∧ ∃ p, (z, p) ∈ Q ∧ leB p (q.2 ++ [z])
/-- In the middle of the n-th one: all next ones up to b are there; whoever is there is before the ones to come. -/
structure Within (l : List Edge) (tx : Nat) (Q : List (Nat × List Nat)) (n : Nat) (q : Nat × List Nat) (D : List Nat) : Prop where
  queue : Queue l tx Q n
  at_ : Q[n]? = some q
  some_ : ∀ z ∈ D, z ≠ tx ∧ ∃ p, (z, p) ∈ Q ∧ leB p (q.2 ++ [z])
  ahead : ∀ r ∈ Q, ∀ z, (∀ d ∈ D, d < z) → preB r.2 (q.2 ++ [z])

section
variable {l : List Edge} {tx n : Nat} {Q : List (Nat × List Nat)}
theorem Queue.start (l : List Edge) (tx : Nat) : Queue l tx [(tx, [])] 0 :=
  ⟨rfl, fun q hq => by rw [List.mem_singleton.1 hq]; rfl, by simp, by simp, fun j hj => absurd hj (Nat.not_lt_zero _)⟩
/-- What a done one's next ones are before is before any later one's next ones. -/
theorem Queue.before (h : Queue l tx Q n) {j : Nat} (hj : j < n) {p q : Nat × List Nat} (hp : Q[j]? = some p) (hq : Q[n]? = some q) : preB p.2 q.2 := by
  obtain ⟨h1, e1⟩ := List.getElem?_eq_some_iff.1 hp
  obtain ⟨h2, e2⟩ := List.getElem?_eq_some_iff.1 hq
  have := List.pairwise_iff_getElem.1 h.order j n h1 h2 hj
  rw [e1, e2] at this
  exact this
/-- One more next one: it is there already. -/
theorem Within.old {q : Nat × List Nat} {D : List Nat} (h : Within l tx Q n q D) {z : Nat} (hz : z ≠ tx) (hD : ∀ d ∈ D, d ≤ z) (hin : ∃ p, (z, p) ∈ Q) : Within l tx Q n q (D ++ [z]) := by
  refine ⟨h.queue, h.at_, fun y hy => ?_, fun r hr y hy => ?_⟩
  · rcases List.mem_append.1 hy with hy | hy
    · exact h.some_ y hy
    · rw [List.mem_singleton.1 hy]
      refine ⟨hz, ?_⟩
      by_cases hm : z ∈ D
      · exact (h.some_ z hm).2
      · obtain ⟨p, hp⟩ := hin
        refine ⟨p, hp, .inr (h.ahead _ hp z fun d hd => ?_)⟩
        have := hD d hd
        rcases Nat.lt_or_ge d z with h1 | h1
        · exact h1
        · exact (hm ((show d = z by omega) ▸ hd)).elim
  · exact h.ahead r hr y fun d hd => hy d (List.mem_append_left _ hd)
/-- One more next one: it is put behind. -/
theorem Within.new {q : Nat × List Nat} {D : List Nat} (h : Within l tx Q n q D) {z : Nat} (he : (q.1, z) ∈ l) (hz : z ≠ tx) (hD : ∀ d ∈ D, d ≤ z) (hno : ∀ p, (z, p) ∉ Q) : Within l tx (Q ++ [(z, q.2 ++ [z])]) n q (D ++ [z]) := by
  have hlt : ∀ d ∈ D, d < z := fun d hd => by
    have := hD d hd
    rcases Nat.lt_or_ge d z with h1 | h1
    · exact h1
    · obtain rfl : d = z := by omega
      obtain ⟨_, p, hp, _⟩ := h.some_ d hd
      exact (hno p hp).elim
  have hn : n < Q.length := (List.getElem?_eq_some_iff.1 h.at_).1
  have hq : q ∈ Q := List.mem_of_getElem? h.at_
  have hsub : ∀ {j : Nat} {r : Nat × List Nat}, j < n → (Q ++ [(z, q.2 ++ [z])])[j]? = some r → Q[j]? = some r := fun {j r} hj hr => by
    rwa [List.getElem?_append_left (by omega)] at hr
  refine ⟨⟨?_, fun r hr => ?_, ?_, ?_, fun j hj r hr y hy => ?_⟩, ?_, fun y hy => ?_, fun r hr y hy => ?_⟩
  · rw [List.getElem?_append_left (by omega)]
    exact h.queue.root
  · rcases List.mem_append.1 hr with hr | hr
    · exact h.queue.goes r hr
    · rw [List.mem_singleton.1 hr]
      exact (h.queue.goes q hq).snoc he
  · rw [List.map_append, List.nodup_append]
    refine ⟨h.queue.nodup, by simp, fun a ha b hb hab => ?_⟩
    simp only [List.map_cons, List.map_nil, List.mem_singleton] at hb
    subst hb
    subst hab
    obtain ⟨r, hr, e⟩ := List.mem_map.1 ha
    exact hno r.2 (by rw [← e]; exact hr)
  · rw [List.pairwise_append]
    refine ⟨h.queue.order, by simp, fun a ha b hb => ?_⟩
    rw [List.mem_singleton.1 hb]
    exact h.ahead a ha z hlt
  · obtain ⟨h1, p, hp, h2⟩ := h.queue.done j hj r (hsub hj hr) y hy
    exact ⟨h1, p, List.mem_append_left _ hp, h2⟩
  · rw [List.getElem?_append_left (by omega)]
    exact h.at_
  · rcases List.mem_append.1 hy with hy | hy
    · obtain ⟨h1, p, hp, h2⟩ := h.some_ y hy
      exact ⟨h1, p, List.mem_append_left _ hp, h2⟩
    · rw [List.mem_singleton.1 hy]
      exact ⟨hz, _, List.mem_append_right _ (List.mem_singleton.2 rfl), leB.refl _⟩
  · rcases List.mem_append.1 hr with hr | hr
    · exact h.ahead r hr y fun d hd => hy d (List.mem_append_left _ hd)
    · rw [List.mem_singleton.1 hr]
      exact preB_next _ (hy z (by simp))
/-- The n-th one is done with: all its next ones are there. -/
theorem Within.next {q : Nat × List Nat} {D : List Nat} (h : Within l tx Q n q D) (hall : ∀ z, (q.1, z) ∈ l → z ∈ D) : Queue l tx Q (n + 1) :=
  ⟨h.queue.root, h.queue.goes, h.queue.nodup, h.queue.order, fun j hj r hr z hz => by
    by_cases hjn : j < n
    · exact h.queue.done j hjn r hr z hz
    · obtain rfl : j = n := by omega
      obtain rfl : q = r := Option.some.inj (h.at_.symm.trans hr)
      exact h.some_ z (hall z hz)⟩
/-- Where nothing of the n-th one's next ones has been put behind yet. -/
theorem Queue.begin (h : Queue l tx Q n) (hpar : ∀ r ∈ Q, r.2 = [] ∨ ∃ j, j < n ∧ ∃ p y, Q[j]? = some p ∧ r.2 = p.2 ++ [y]) {q : Nat × List Nat} (hq : Q[n]? = some q) : Within l tx Q n q [] :=
  ⟨h, hq, fun z hz => absurd hz (List.not_mem_nil), fun r hr z _ => by
    rcases hpar r hr with e | ⟨j, hj, p, y, hp, e⟩
    · rw [e]; exact .inl (by simp)
    · rw [e]; exact preB_snoc (h.before hj hp hq) y z⟩
/-- Each one's way is its parent's, and its own node. -/
def Kin (Q : List (Nat × List Nat)) (n : Nat) : Prop := ∀ r ∈ Q, r.2 = [] ∨ ∃ j, j < n ∧ ∃ p y, Q[j]? = some p ∧ r.2 = p.2 ++ [y]
theorem Kin.start (tx : Nat) : Kin [(tx, [])] 0 := fun r hr => .inl (by rw [List.mem_singleton.1 hr])
theorem Kin.mono {m : Nat} (h : Kin Q n) (hm : n ≤ m) : Kin Q m := fun r hr => (h r hr).imp id fun ⟨j, hj, x⟩ => ⟨j, by omega, x⟩
theorem Kin.new (h : Kin Q (n + 1)) {q : Nat × List Nat} (hq : Q[n]? = some q) (z : Nat) : Kin (Q ++ [(z, q.2 ++ [z])]) (n + 1) := fun r hr => by
  have hn : n < Q.length := (List.getElem?_eq_some_iff.1 hq).1
  rcases List.mem_append.1 hr with hr | hr
  · refine (h r hr).imp id fun ⟨j, hj, p, y, hp, e⟩ => ⟨j, hj, p, y, ?_, e⟩
    rw [List.getElem?_append_left (List.getElem?_eq_some_iff.1 hp).1]
    exact hp
  · rw [List.mem_singleton.1 hr]
    exact .inr ⟨n, by omega, q, z, by rw [List.getElem?_append_left hn]; exact hq, rfl⟩

/-- Whoever is gone to by a way that is before the n-th one's is there, and done with, by a way that is not behind. -/
theorem Queue.reach (h : Queue l tx Q n) (B : List Nat → Prop) (hB : ∀ r z, B (r ++ [z]) → B r) (hn : ∀ j q, Q[j]? = some q → (∃ r, B r ∧ leB q.2 r) → j < n) :
    ∀ (m : Nat) (r : List Nat), r.length = m → B r → ∀ y, Goes l tx r y → ∃ p, (y, p) ∈ Q ∧ leB p r := by
  intro m
  induction m with
  | zero =>
    intro r hr _ y hy
    obtain rfl := List.eq_nil_of_length_eq_zero hr
    have hy : tx = y := hy
    subst hy
    exact ⟨[], List.mem_of_getElem? h.root, leB.refl _⟩
  | succ m ih =>
    intro r hr hb y hy
    have hne : r ≠ [] := fun e => by rw [e] at hr; simp at hr
    obtain ⟨s, z, rfl⟩ : ∃ s z, r = s ++ [z] := ⟨r.dropLast, r.getLast hne, (List.dropLast_concat_getLast hne).symm⟩
    obtain ⟨x, hx, he, rfl⟩ := hy.parts
    obtain ⟨p, hp, hle⟩ := ih s (by simpa using hr) (hB s y hb) x hx
    obtain ⟨j, hjl, hj⟩ := List.getElem_of_mem hp
    have hj' : Q[j]? = some (x, p) := by rw [List.getElem?_eq_getElem hjl, hj]
    have hjn := hn j _ hj' ⟨s, hB s y hb, hle⟩
    obtain ⟨_, p', hp', hle'⟩ := h.done j hjn _ hj' y he
    exact ⟨p', hp', hle'.trans (leB_snoc hle y)⟩
/-- The first one that is found with an edge back has the least closed way. -/
theorem Within.found {q : Nat × List Nat} (h : Queue l tx Q n) (hq : Q[n]? = some q) (he : (q.1, tx) ∈ l) : RingOf l tx (tx :: q.2) := by
  refine .inr ⟨q.2, rfl, (h.goes q (List.mem_of_getElem? hq)).way he, fun s hs => ?_⟩
  by_cases hlt : preB s q.2
  · exfalso
    obtain ⟨y, hy, hback⟩ := hs.goes
    have hidx : ∀ j r, Q[j]? = some r → preB r.2 q.2 → j < n := fun j r hr hpre => by
      rcases Nat.lt_trichotomy j n with h1 | h1 | h1
      · exact h1
      · subst h1
        obtain rfl : q = r := Option.some.inj (hq.symm.trans hr)
        exact (preB_irrefl hpre).elim
      · obtain ⟨h2, e2⟩ := List.getElem?_eq_some_iff.1 hr
        obtain ⟨h3, e3⟩ := List.getElem?_eq_some_iff.1 hq
        have := List.pairwise_iff_getElem.1 h.order n j h3 h2 h1
        rw [e2, e3] at this
        exact (preB_asymm this hpre).elim
    obtain ⟨p, hp, hle⟩ := h.reach (fun r => preB r q.2) (fun r z hr => preB_trans (preB_more r (by simp)) hr) (fun j r hr ⟨t, ht, hle⟩ => hidx j r hr (hle.pre ht)) s.length s rfl hlt y hy
    obtain ⟨j, hjl, hj⟩ := List.getElem_of_mem hp
    have hj' : Q[j]? = some (y, p) := by rw [List.getElem?_eq_getElem hjl, hj]
    exact (h.done j (hidx j _ hj' (hle.pre hlt)) _ hj' tx hback).1 rfl
  · -- of two rows the one is before the other one, or they are the same
    have tri : ∀ (a b : List Nat), a.length = b.length → a = b ∨ lexB a b ∨ lexB b a := fun a => by
      induction a with
      | nil => intro b hb; cases b <;> first | exact .inl rfl | (simp at hb)
      | cons u a ih =>
        intro b hb
        cases b with
        | nil => simp at hb
        | cons v b =>
          rcases Nat.lt_trichotomy u v with h1 | h1 | h1
          · exact .inr (.inl (.inl h1))
          · subst h1
            rcases ih b (by simpa using hb) with rfl | h2 | h2
            · exact .inl rfl
            · exact .inr (.inl (.inr ⟨rfl, h2⟩))
            · exact .inr (.inr (.inr ⟨rfl, h2⟩))
          · exact .inr (.inr (.inl h1))
    rcases Nat.lt_trichotomy q.2.length s.length with h1 | h1 | h1
    · exact .inr (.inl h1)
    · rcases tri q.2 s h1 with h2 | h2 | h2
      · exact .inl h2
      · exact .inr (.inr ⟨h1, h2⟩)
      · exact (hlt (.inr ⟨h1.symm, h2⟩)).elim
    · exact (hlt (.inl h1)).elim
/-- All are done with: there is no closed way. -/
theorem Queue.none (h : Queue l tx Q Q.length) : RingOf l tx [] := by
  refine .inl ⟨rfl, fun s hs => ?_⟩
  obtain ⟨y, hy, hback⟩ := hs.goes
  obtain ⟨p, hp, _⟩ := h.reach (fun _ => True) (fun _ _ _ => trivial) (fun j r hr _ => (List.getElem?_eq_some_iff.1 hr).1) s.length s rfl trivial y hy
  obtain ⟨j, hjl, hj⟩ := List.getElem_of_mem hp
  exact (h.done j hjl _ (by rw [List.getElem?_eq_getElem hjl, hj]) tx hback).1 rfl
/-- There are no more in the queue than edges, and one. -/
theorem Queue.len (h : Queue l tx Q n) : Q.length ≤ l.length + 1 := by
  have := nodup_le (a := Q.map (·.1)) (b := tx :: l.map (·.2)) h.nodup fun x hx => by
    obtain ⟨q, hq, rfl⟩ := List.mem_map.1 hx
    have hg := h.goes q hq
    by_cases he : q.2 = []
    · rw [he] at hg
      have hg : tx = q.1 := hg
      rw [← hg]; simp
    · rw [← List.dropLast_concat_getLast he] at hg
      obtain ⟨x, _, hx, e⟩ := hg.parts
      rw [e]
      exact List.mem_cons_of_mem _ (List.mem_map.2 ⟨_, hx, rfl⟩)
  simpa using this
end
end Go.Proofs.Ytbkhojopiimbdaa
