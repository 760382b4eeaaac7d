/-
  Rings in a row of edges, plainly: the least closed way, by its length and then by its nodes one by one; how far each node is.
-/
import Derived.Test.YtbkhojopiimbdaaProg
namespace Go.Proofs.Ytbkhojopiimbdaa

abbrev Edge := Nat × Nat

/-- From a along edges, through the row, to tx. -/
def Way (l : List Edge) (tx : Nat) : Nat → List Nat → Prop
  | a, [] => (a, tx) ∈ l
  | a, b :: r => (a, b) ∈ l ∧ Way l tx b r

/-- Of two rows of one length the one is before the other one. -/
def lexB : List Nat → List Nat → Prop
  | [], [] => False
  | a :: r, b :: s => a < b ∨ (a = b ∧ lexB r s)
  | _, _ => False
/-- Shorter, or of the same length and before. -/
def preB (a b : List Nat) : Prop := a.length < b.length ∨ (a.length = b.length ∧ lexB a b)

theorem lexB_irrefl : ∀ a, ¬ lexB a a
  | [] => id
  | a :: r => fun h => by
    rcases h with h | h
    · omega
    · exact lexB_irrefl r h.2
theorem lexB_asymm : ∀ {a b}, lexB a b → ¬ lexB b a
  | [], [], h => h.elim
  | [], _ :: _, h => h.elim
  | _ :: _, [], h => h.elim
  | a :: r, b :: s, h => fun k => by
    rcases h with h | ⟨rfl, h⟩ <;> rcases k with k | ⟨k1, k⟩
    · omega
    · omega
    · omega
    · exact lexB_asymm h k
theorem preB_asymm {a b : List Nat} (h : preB a b) (k : preB b a) : False := by
  rcases h with h | ⟨_, h⟩ <;> rcases k with k | ⟨_, k⟩
  · omega
  · omega
  · omega
  · exact lexB_asymm h k

/-- The least way from a. -/
def Least (l : List Edge) (tx a : Nat) (r : List Nat) : Prop := Way l tx a r ∧ ∀ s, Way l tx a s → r = s ∨ preB r s
/-- What Ring tells: nothing where there is no closed way. -/
def RingOf (l : List Edge) (tx : Nat) (c : List Nat) : Prop := (c = [] ∧ ∀ r, ¬ Way l tx tx r) ∨ ∃ r, c = tx :: r ∧ Least l tx tx r

theorem Least.uniq {l : List Edge} {tx a : Nat} {r s : List Nat} (h : Least l tx a r) (k : Least l tx a s) : r = s := by
  rcases h.2 s k.1 with e | h1
  · exact e
  · rcases k.2 r h.1 with e | h2
    · exact e.symm
    · exact (preB_asymm h1 h2).elim
theorem RingOf.uniq {l : List Edge} {tx : Nat} {c d : List Nat} (h : RingOf l tx c) (k : RingOf l tx d) : c = d := by
  rcases h with ⟨rfl, h⟩ | ⟨r, rfl, h⟩ <;> rcases k with ⟨rfl, k⟩ | ⟨s, rfl, k⟩
  · rfl
  · exact (h _ k.1).elim
  · exact (k _ h.1).elim
  · rw [h.uniq k]

theorem Way.mono {l m : List Edge} (hs : ∀ e, e ∈ l → e ∈ m) {tx : Nat} : ∀ {a : Nat} {r : List Nat}, Way l tx a r → Way m tx a r
  | _, [], h => hs _ h
  | _, _ :: _, h => ⟨hs _ h.1, Way.mono hs h.2⟩
theorem Least.same {l m : List Edge} (hs : ∀ e, e ∈ l ↔ e ∈ m) {tx a : Nat} {r : List Nat} (h : Least l tx a r) : Least m tx a r :=
  ⟨h.1.mono fun e => (hs e).1, fun s k => h.2 s (k.mono fun e => (hs e).2)⟩
/-- The order of the edges, and how often they stand, does not matter. -/
theorem RingOf.same {l m : List Edge} (hs : ∀ e, e ∈ l ↔ e ∈ m) {tx : Nat} {c : List Nat} (h : RingOf l tx c) : RingOf m tx c := by
  rcases h with ⟨rfl, h⟩ | ⟨r, rfl, h⟩
  · exact .inl ⟨rfl, fun r k => h r (k.mono fun e => (hs e).2)⟩
  · exact .inr ⟨r, rfl, h.same hs⟩
/-- More edges take no ring away, and make it no longer. -/
theorem RingOf.more {l m : List Edge} (hs : ∀ e, e ∈ l → e ∈ m) {tx : Nat} {c d : List Nat} (h : RingOf l tx c) (k : RingOf m tx d) : c = [] ∨ (d ≠ [] ∧ d.length ≤ c.length) := by
  rcases h with ⟨rfl, h⟩ | ⟨r, rfl, h⟩
  · exact .inl rfl
  · right
    rcases k with ⟨rfl, k⟩ | ⟨s, rfl, k⟩
    · exact (k r (h.1.mono hs)).elim
    · refine ⟨by simp, ?_⟩
      rcases k.2 r (h.1.mono hs) with rfl | h2
      · exact Nat.le_refl _
      · simp only [List.length_cons]
        rcases h2 with h2 | ⟨h2, _⟩ <;> omega

/-- Cutting a piece out of a way. -/
theorem Way.cut {l : List Edge} {tx : Nat} : ∀ {a : Nat} {r : List Nat} {b : Nat} {s : List Nat}, Way l tx a (r ++ b :: s) → Way l tx b s
  | _, [], _, _, h => h.2
  | _, _ :: r, _, _, h => Way.cut (r := r) h.2
theorem Way.join {l : List Edge} {tx : Nat} : ∀ {a : Nat} {r : List Nat} {b : Nat} {s t : List Nat}, Way l tx a (r ++ b :: s) → Way l tx b t → Way l tx a (r ++ b :: t)
  | _, [], _, _, _, h, k => ⟨h.1, k⟩
  | _, _ :: r, _, _, _, h, k => ⟨h.1, Way.join (r := r) h.2 k⟩

/-- A least way has no node twice, and not its own first one. -/
theorem Least.nodup {l : List Edge} {tx a : Nat} {r : List Nat} (h : Least l tx a r) : (a :: r).Nodup := by
  have hno : ∀ s, Way l tx a s → ¬ s.length < r.length := fun s k hlt => by
    rcases h.2 s k with rfl | h1
    · omega
    · rcases h1 with h1 | ⟨h1, _⟩ <;> omega
  refine List.nodup_cons.2 ⟨fun hm => ?_, ?_⟩
  · obtain ⟨p, q, rfl⟩ := List.append_of_mem hm
    exact hno q (Way.cut h.1) (by simp; omega)
  · rw [List.Nodup, List.pairwise_iff_getElem]
    intro i j hi hj hij he
    have e1 : r = r.take i ++ r[i] :: r.drop (i + 1) := by simp
    have e2 : r = r.take j ++ r[j] :: r.drop (j + 1) := by simp
    have hw : Way l tx r[j] (r.drop (j + 1)) := Way.cut (a := a) (r := r.take j) (by rw [← e2]; exact h.1)
    rw [← he] at hw
    have := Way.join (a := a) (r := r.take i) (s := r.drop (i + 1)) (by rw [← e1]; exact h.1) hw
    refine hno _ this ?_
    simp only [List.length_append, List.length_take, List.length_cons, List.length_drop]
    omega

theorem RingOf.nodup {l : List Edge} {tx : Nat} {c : List Nat} (h : RingOf l tx c) : c.Nodup := by
  rcases h with ⟨rfl, _⟩ | ⟨r, rfl, h⟩
  · exact List.nodup_nil
  · exact h.nodup
theorem Way.edges {l : List Edge} {tx : Nat} : ∀ {a : Nat} {r : List Nat}, Way l tx a r → ∀ i (hi : i < (a :: r).length), ((a :: r)[i], ((a :: r) ++ [tx])[i + 1]'(by simp at hi ⊢; omega)) ∈ l
  | a, [], h, i, hi => by
    obtain rfl : i = 0 := by simp at hi; omega
    have h' : (a, tx) ∈ l := h
    simpa using h'
  | a, b :: r, h, i, hi => by
    cases i with
    | zero => simpa using h.1
    | succ k =>
      have := Way.edges h.2 k (by simp at hi ⊢; omega)
      simpa using this
/-- Each one of a ring goes on to the next one, the last one to the first. -/
theorem RingOf.edges {l : List Edge} {tx : Nat} {c : List Nat} (h : RingOf l tx c) (i : Nat) (hi : i < c.length) : (c[i], c[(i + 1) % c.length]'(Nat.mod_lt _ (by omega))) ∈ l := by
  rcases h with ⟨rfl, _⟩ | ⟨r, rfl, h⟩
  · simp at hi
  · have h1 := h.1.edges i hi
    rcases Nat.lt_or_ge (i + 1) (tx :: r).length with h2 | h2
    · simp only [Nat.mod_eq_of_lt h2]
      rw [List.getElem_append_left h2] at h1
      exact h1
    · obtain h3 : i + 1 = (tx :: r).length := by omega
      simp only [h3, Nat.mod_self]
      rw [List.getElem_append_right (by omega)] at h1
      simpa using h1
theorem RingOf.head {l : List Edge} {tx : Nat} {c : List Nat} (h : RingOf l tx c) (h0 : 0 < c.length) : c[0] = tx := by
  rcases h with ⟨rfl, _⟩ | ⟨r, rfl, h⟩
  · simp at h0
  · rfl

/-- A way of so many edges from a to tx. -/
def Steps (l : List Edge) (tx : Nat) : Nat → Nat → Prop
  | 0, a => a = tx
  | k + 1, a => ∃ b, (a, b) ∈ l ∧ Steps l tx k b
/-- So far is a from tx. -/
def Far (l : List Edge) (tx k a : Nat) : Prop := Steps l tx k a ∧ ∀ j, j < k → ¬ Steps l tx j a

section
variable {l : List Edge} {tx : Nat}
theorem Far.uniq {k j a : Nat} (h : Far l tx k a) (g : Far l tx j a) : k = j := by
  rcases Nat.lt_trichotomy k j with hlt | he | hgt
  · exact (g.2 k hlt h.1).elim
  · exact he
  · exact (h.2 j hgt g.1).elim
theorem Far.of_steps {k a : Nat} (h : Steps l tx k a) : ∃ j, j ≤ k ∧ Far l tx j a := by
  induction k using Nat.strongRecOn with
  | _ k ih =>
    by_cases hb : ∃ j, j < k ∧ Steps l tx j a
    · obtain ⟨j, hj, hs⟩ := hb
      obtain ⟨i, hi, hf⟩ := ih j hj hs
      exact ⟨i, by omega, hf⟩
    · exact ⟨k, Nat.le_refl _, h, fun j hj hs => hb ⟨j, hj, hs⟩⟩
theorem Far.zero : Far l tx 0 tx := ⟨rfl, fun _ h => absurd h (Nat.not_lt_zero _)⟩
theorem Far.zero_iff {a : Nat} (h : Far l tx 0 a) : a = tx := h.1
/-- The next one on a shortest way. -/
theorem Far.next {k a : Nat} (h : Far l tx (k + 1) a) : ∃ b, (a, b) ∈ l ∧ Far l tx k b := by
  obtain ⟨b, hb, hs⟩ := h.1
  exact ⟨b, hb, hs, fun j hj hs' => h.2 (j + 1) (by omega) ⟨b, hb, hs'⟩⟩
theorem Far.edge {k j a b : Nat} (h : Far l tx k a) (he : (a, b) ∈ l) (g : Far l tx j b) : k ≤ j + 1 := by
  rcases Nat.lt_or_ge (j + 1) k with hlt | hge
  · exact (h.2 (j + 1) hlt ⟨b, he, g.1⟩).elim
  · exact hge
theorem Far.succ {k a b : Nat} (he : (a, b) ∈ l) (g : Far l tx k b) (hn : ∀ j, j ≤ k → ¬ Far l tx j a) : Far l tx (k + 1) a :=
  ⟨⟨b, he, g.1⟩, fun j hj hs => by
    obtain ⟨i, hi, hf⟩ := Far.of_steps hs
    exact hn i (by omega) hf⟩
theorem Way.steps : ∀ {a : Nat} {r : List Nat}, Way l tx a r → Steps l tx (r.length + 1) a
  | _, [], h => ⟨tx, h, rfl⟩
  | _, b :: _, h => ⟨b, h.1, Way.steps h.2⟩
theorem Steps.way : ∀ {k a : Nat}, Steps l tx (k + 1) a → ∃ r, r.length = k ∧ Way l tx a r
  | 0, a, ⟨b, hb, h⟩ => ⟨[], rfl, by rw [show b = tx from h] at hb; exact hb⟩
  | k + 1, a, ⟨b, hb, h⟩ => by
    obtain ⟨r, hr, hw⟩ := Steps.way h
    exact ⟨b :: r, by simp [hr], hb, hw⟩

/-- A row without doubles whose members stand in another row is not longer. -/
theorem nodup_le {α : Type} [DecidableEq α] : ∀ {a b : List α}, a.Nodup → (∀ x, x ∈ a → x ∈ b) → a.length ≤ b.length
  | [], _, _, _ => Nat.zero_le _
  | x :: a, b, hn, hs => by
    have h1 := List.nodup_cons.1 hn
    have hx : x ∈ b := hs x (by simp)
    have h2 : a.length ≤ (b.erase x).length := nodup_le h1.2 fun y hy => by
      have hne : y ≠ x := fun e => h1.1 (e ▸ hy)
      exact (List.mem_erase_of_ne hne).2 (hs y (by simp [hy]))
    rw [List.length_erase_of_mem hx] at h2
    have : 0 < b.length := List.length_pos_of_mem hx
    simp only [List.length_cons]; omega
/-- The nodes on a shortest way. -/
theorem Far.nodes : ∀ {k a : Nat}, Far l tx k a → ∃ c : List Nat, c.length = k ∧ c.Nodup ∧ ∀ x, x ∈ c → x ∈ l.map (·.1) ∧ ∃ j, 1 ≤ j ∧ j ≤ k ∧ Far l tx j x
  | 0, _, _ => ⟨[], rfl, List.nodup_nil, fun x hx => by simp at hx⟩
  | k + 1, a, h => by
    obtain ⟨b, hb, hf⟩ := h.next
    obtain ⟨c, hc, hn, hall⟩ := hf.nodes
    refine ⟨a :: c, by simp [hc], List.nodup_cons.2 ⟨fun hm => ?_, hn⟩, fun x hx => ?_⟩
    · obtain ⟨_, j, _, hj, hf'⟩ := hall a hm
      have := h.uniq hf'
      omega
    · rcases List.mem_cons.1 hx with rfl | hx
      · exact ⟨List.mem_map.2 ⟨_, hb, rfl⟩, k + 1, by omega, Nat.le_refl _, h⟩
      · obtain ⟨h1, j, h2, h3, h4⟩ := hall x hx
        exact ⟨h1, j, h2, by omega, h4⟩
theorem Far.le {k a : Nat} (h : Far l tx k a) : k ≤ l.length := by
  obtain ⟨c, hc, hn, hall⟩ := h.nodes
  have := nodup_le hn fun x hx => (hall x hx).1
  rw [List.length_map] at this
  omega
theorem Far.lt {k b : Nat} (h : Far l tx k b) (he : (tx, b) ∈ l) : k + 1 ≤ l.length := by
  obtain ⟨c, hc, hn, hall⟩ := h.nodes
  have := nodup_le (a := tx :: c) (b := l.map (·.1)) (List.nodup_cons.2 ⟨fun hm => by
    obtain ⟨_, j, h1, _, hf⟩ := hall tx hm
    have := hf.uniq Far.zero
    omega, hn⟩) fun x hx => by
      rcases List.mem_cons.1 hx with rfl | hx
      · exact List.mem_map.2 ⟨_, he, rfl⟩
      · exact (hall x hx).1
  rw [List.length_map] at this
  simp only [List.length_cons] at this
  omega

/-- The best next one: nearest to tx, and of these the least. -/
def Best (l : List Edge) (tx a b : Nat) : Prop := (a, b) ∈ l ∧ ∃ k, Far l tx k b ∧ ∀ c j, (a, c) ∈ l → Far l tx j c → k < j ∨ (k = j ∧ b ≤ c)

theorem Way.far {a : Nat} {r : List Nat} (h : Way l tx a r) : ∃ k, k ≤ r.length + 1 ∧ Far l tx k a := Far.of_steps h.steps

theorem Least.last {a : Nat} (h : Best l tx a tx) : Least l tx a [] :=
  ⟨h.1, fun s _ => by
    cases s with
    | nil => exact .inl rfl
    | cons b s => exact .inr (.inl (by simp))⟩
theorem Least.len {a : Nat} {r : List Nat} (h : Least l tx a r) (hne : a ≠ tx) : Far l tx (r.length + 1) a := by
  obtain ⟨k, hk, hf⟩ := h.1.far
  cases k with
  | zero => exact (hne hf.1).elim
  | succ k =>
    obtain ⟨s, hs, hw⟩ := Steps.way hf.1
    rcases h.2 s hw with rfl | h1
    · rw [hs]; exact hf
    · rcases h1 with h1 | ⟨h1, _⟩
      · omega
      · rw [h1, hs]; exact hf
theorem Least.cons {a b : Nat} {r : List Nat} (h : Best l tx a b) (hne : b ≠ tx) (hr : Least l tx b r) : Least l tx a (b :: r) := by
  have hlen := hr.len hne
  obtain ⟨k, hk, hall⟩ := h.2
  have hk' := hk.uniq hlen
  refine ⟨⟨h.1, hr.1⟩, fun s hs => ?_⟩
  cases s with
  | nil =>
    have := hall tx 0 hs Far.zero
    omega
  | cons c s =>
    obtain ⟨j, hj, hf⟩ := hs.2.far
    rcases hall c j hs.1 hf with h1 | ⟨h1, h2⟩
    · exact .inr (.inl (by simp; omega))
    · rcases Nat.lt_or_ge r.length s.length with h3 | h3
      · exact .inr (.inl (by simp; omega))
      · have h4 : r.length = s.length := by omega
        rcases Nat.lt_or_ge b c with h5 | h5
        · exact .inr (.inr ⟨by simp [h4], .inl h5⟩)
        · obtain rfl : b = c := by omega
          rcases hr.2 s hs.2 with rfl | h6
          · exact .inl rfl
          · rcases h6 with h6 | ⟨_, h6⟩
            · omega
            · exact .inr (.inr ⟨by simp [h4], .inr ⟨rfl, h6⟩⟩)
theorem Best.far {a b k : Nat} (h : Best l tx a b) (hf : Far l tx (k + 1) a) : Far l tx k b := by
  obtain ⟨j, hj, hall⟩ := h.2
  obtain ⟨c, hc, hfc⟩ := hf.next
  have h1 := hf.edge h.1 hj
  rcases hall c k hc hfc with h2 | ⟨h2, _⟩
  · omega
  · rw [← h2]; exact hj

/-- Where the search by the nearest stands: all that is put to it makes the ring. -/
def Mid (l : List Edge) (tx : Nat) (row : List Nat) (x : Nat) : Prop :=
  ∃ r, row = tx :: r ∧ row.getLast? = some x ∧ (∀ s, Least l tx x s → Least l tx tx (r ++ s)) ∧ (r = [] ∨ ∃ k, Far l tx (k + 1) x ∧ row.length + k ≤ l.length)
theorem Mid.start : Mid l tx [tx] tx := ⟨[], rfl, rfl, fun _ h => h, .inl rfl⟩
theorem Mid.step {row : List Nat} {x y : Nat} (h : Mid l tx row x) (hb : Best l tx x y) (hne : y ≠ tx) : Mid l tx (row ++ [y]) y := by
  obtain ⟨r, rfl, hx, hl, hk⟩ := h
  refine ⟨r ++ [y], rfl, by rw [List.getLast?_append]; rfl, fun s hs => ?_, .inr ?_⟩
  · have := hl (y :: s) (Least.cons hb hne hs)
    simpa using this
  · rcases hk with rfl | ⟨k, hf, hle⟩
    · obtain rfl : tx = x := by simpa using hx
      obtain ⟨k, hfk, _⟩ := hb.2
      cases k with
      | zero => exact (hne hfk.1).elim
      | succ k =>
        have := hfk.lt hb.1
        exact ⟨k, hfk, by simp; omega⟩
    · have h1 := hb.far hf
      cases k with
      | zero => exact (hne h1.1).elim
      | succ k => exact ⟨k, h1, by simp at hle ⊢; omega⟩
theorem Mid.ends {row : List Nat} {x : Nat} (h : Mid l tx row x) (hb : Best l tx x tx) : RingOf l tx row := by
  obtain ⟨r, rfl, hx, hl, _⟩ := h
  have := hl [] (Least.last hb)
  rw [List.append_nil] at this
  exact .inr ⟨r, rfl, this⟩
theorem Mid.none {row : List Nat} {x : Nat} (h : Mid l tx row x) (hn : ∀ y k, (x, y) ∈ l → ¬ Far l tx k y) : RingOf l tx [] := by
  obtain ⟨r, rfl, hx, hl, hk⟩ := h
  rcases hk with rfl | ⟨k, hf, _⟩
  · obtain rfl : tx = x := by simpa using hx
    refine .inl ⟨rfl, fun s hs => ?_⟩
    cases s with
    | nil => exact hn tx 0 hs Far.zero
    | cons b s =>
      obtain ⟨k, _, hf⟩ := hs.2.far
      exact hn b k hs.1 hf
  · obtain ⟨b, hb, hfb⟩ := hf.next
    exact (hn b k hb hfb).elim
/-- The search is not at its end where the row is longer than the edges are many. -/
theorem Mid.len {row : List Nat} {x : Nat} (h : Mid l tx row x) : row.length ≤ l.length ∨ (l = [] ∧ row = [tx] ∧ x = tx) := by
  obtain ⟨r, rfl, hx, hl, hk⟩ := h
  rcases hk with rfl | ⟨k, _, hle⟩
  · cases l with
    | nil => exact .inr ⟨rfl, rfl, by simpa using hx.symm⟩
    | cons e l => exact .inl (by simp)
  · exact .inl (by omega)

/-- What the rounds know: how far those are that are nearer than n. -/
def Levels (l : List Edge) (tx n : Nat) (ways : List (Nat × Nat)) : Prop :=
  (∀ x k, (x, k) ∈ ways ↔ (k < n ∧ Far l tx k x))
theorem Levels.start : Levels l tx 1 [(tx, 0)] := fun x k => by
  constructor
  · intro h
    obtain ⟨rfl, rfl⟩ : x = tx ∧ k = 0 := by simpa using h
    exact ⟨by omega, Far.zero⟩
  · rintro ⟨h, hf⟩
    obtain rfl : k = 0 := by omega
    rw [hf.zero_iff]; simp
theorem Levels.next {n : Nat} {ways : List (Nat × Nat)} (h : Levels l tx (n + 1) ways) {more : List (Nat × Nat)}
    (hm : ∀ x k, (x, k) ∈ more ↔ (k = n + 1 ∧ (∃ y, (x, y) ∈ l ∧ (y, n) ∈ ways) ∧ ∀ j, (x, j) ∉ ways)) : Levels l tx (n + 2) (ways ++ more) := fun x k => by
  rw [List.mem_append, h x k, hm x k]
  constructor
  · rintro (⟨h1, h2⟩ | ⟨rfl, ⟨y, hy, hyw⟩, hn⟩)
    · exact ⟨by omega, h2⟩
    · exact ⟨by omega, Far.succ hy ((h y n).1 hyw).2 fun j hj hf => hn j ((h x j).2 ⟨by omega, hf⟩)⟩
  · rintro ⟨h1, hf⟩
    rcases Nat.lt_or_ge k (n + 1) with h2 | h2
    · exact .inl ⟨h2, hf⟩
    · obtain rfl : k = n + 1 := by omega
      obtain ⟨y, hy, hfy⟩ := hf.next
      refine .inr ⟨rfl, ⟨y, hy, (h y n).2 ⟨by omega, hfy⟩⟩, fun j hj => ?_⟩
      obtain ⟨h3, hf'⟩ := (h x j).1 hj
      have := hf.uniq hf'
      omega
/-- Where a round finds none, there are none farther. -/
theorem Levels.done {n : Nat} {ways : List (Nat × Nat)} (h : Levels l tx (n + 1) ways) (hm : ∀ x y, (x, y) ∈ l → (y, n) ∈ ways → ∃ j, (x, j) ∈ ways) : ∀ x k, Far l tx k x → k < n + 1 := fun x k hf => by
  have hlt : ∀ k x, Far l tx k x → k ≠ n + 1 := fun k x hf he => by
    subst he
    obtain ⟨y, hy, hfy⟩ := hf.next
    obtain ⟨j, hj⟩ := hm x y hy ((h y n).2 ⟨by omega, hfy⟩)
    obtain ⟨h3, hf'⟩ := (h x j).1 hj
    have := hf.uniq hf'
    omega
  have down : ∀ d k x, k = n + 1 + d → Far l tx k x → False := fun d => by
    induction d with
    | zero => exact fun k x he hf => hlt k x hf he
    | succ d ih =>
      intro k x he hf
      subst he
      obtain ⟨y, _, hfy⟩ := (show Far l tx (n + 1 + d + 1) x from hf).next
      exact ih _ y rfl hfy
  rcases Nat.lt_or_ge k (n + 1) with h2 | h2
  · exact h2
  · exact (down (k - (n + 1)) k x (by omega) hf).elim
/-- Behind the rounds: whoever has a way stands there, with its length. -/
def Whole (l : List Edge) (tx : Nat) (ways : List (Nat × Nat)) : Prop := ∀ x k, (x, k) ∈ ways ↔ Far l tx k x
theorem Levels.whole {n : Nat} {ways : List (Nat × Nat)} (h : Levels l tx (n + 1) ways) (hm : ∀ x y, (x, y) ∈ l → (y, n) ∈ ways → ∃ j, (x, j) ∈ ways) : Whole l tx ways :=
  fun x k => ⟨fun h1 => ((h x k).1 h1).2, fun hf => (h x k).2 ⟨h.done hm x k hf, hf⟩⟩
theorem Levels.all {ways : List (Nat × Nat)} (h : Levels l tx (l.length + 1) ways) : Whole l tx ways :=
  fun x k => ⟨fun h1 => ((h x k).1 h1).2, fun hf => (h x k).2 ⟨by have := hf.le; omega, hf⟩⟩
end

end Go.Proofs.Ytbkhojopiimbdaa
