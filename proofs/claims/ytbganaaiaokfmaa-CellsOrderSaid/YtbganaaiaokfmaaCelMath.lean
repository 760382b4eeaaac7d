/-
  Plain facts on cells in the order of their keys: put, deleted, found, parted, their sizes. No program is read here.
-/
import Derived.Test.YtbganaaiaokfmaaSpanMath
namespace Go.Proofs.Ytbganaaiaokfmaa

/-- A cell: its key, its value. -/
abbrev Cel := Txt × Txt
def fitC (c : Cel) : Bool := decide (c.1.length ≤ 513) && decide (c.2.length ≤ 2048)
/-- In the order of their keys, no key twice. -/
def Srt (l : List Cel) : Prop := l.Pairwise fun a b => bl a.1 b.1 = true
def Rgt (l : List Cel) : Prop := Srt l ∧ ∀ c ∈ l, fitC c = true
def findC (l : List Cel) (k : Txt) : Option Txt := (l.find? (·.1 == k)).map (·.2)
def putC (l : List Cel) (c : Cel) : List Cel := l.filter (fun x => bl x.1 c.1) ++ c :: l.filter (fun x => bl c.1 x.1)
def delC (l : List Cel) (k : Txt) : List Cel := l.filter (fun x => x.1 != k)
def sizeC (l : List Cel) : Nat := (l.map fun c => 4 + c.1.length + c.2.length).sum

theorem Srt.filter {l : List Cel} (h : Srt l) (f : Cel → Bool) : Srt (l.filter f) := h.sublist (List.filter_sublist)
/-- Two that are in order and have the same cells are the same. -/
theorem Srt.ext : ∀ {l m : List Cel}, Srt l → Srt m → (∀ x, x ∈ l ↔ x ∈ m) → l = m
  | [], [], _, _, _ => rfl
  | [], b :: m, _, _, h => by have := (h b).2 (by simp); simp at this
  | a :: l, [], _, _, h => by have := (h a).1 (by simp); simp at this
  | a :: l, b :: m, hl, hm, h => by
    have hl' := List.pairwise_cons.1 hl
    have hm' := List.pairwise_cons.1 hm
    have e : a = b := by
      have h1 := (h a).1 (by simp)
      have h2 := (h b).2 (by simp)
      rcases List.mem_cons.1 h1 with e | h1
      · exact e
      rcases List.mem_cons.1 h2 with e | h2
      · exact e.symm
      have k1 := hm'.1 a h1
      have k2 := hl'.1 b h2
      rw [bl_asymm k1] at k2
      cases k2
    subst e
    congr 1
    refine Srt.ext hl'.2 hm'.2 fun x => ?_
    have hx := h x
    constructor
    · intro hm0
      rcases List.mem_cons.1 (hx.1 (List.mem_cons_of_mem _ hm0)) with e | h3
      · subst e
        have := hl'.1 x hm0
        rw [bl_irrefl] at this
        cases this
      · exact h3
    · intro hm0
      rcases List.mem_cons.1 (hx.2 (List.mem_cons_of_mem _ hm0)) with e | h3
      · subst e
        have := hm'.1 x hm0
        rw [bl_irrefl] at this
        cases this
      · exact h3
theorem bl_ne {a b : Txt} : a ≠ b ↔ bl a b = true ∨ bl b a = true := by
  constructor
  · intro h
    rcases bl_tri a b with h1 | h1 | h1
    · exact .inl h1
    · exact (h h1).elim
    · exact .inr h1
  · rintro (h | h) e
    · rw [e, bl_irrefl] at h; cases h
    · rw [e, bl_irrefl] at h; cases h
theorem mem_put {l : List Cel} {c x : Cel} : x ∈ putC l c ↔ x = c ∨ (x ∈ l ∧ x.1 ≠ c.1) := by
  unfold putC
  rw [List.mem_append, List.mem_cons, List.mem_filter, List.mem_filter, bl_ne]
  constructor
  · rintro (⟨h1, h2⟩ | h | ⟨h1, h2⟩)
    · exact .inr ⟨h1, .inl h2⟩
    · exact .inl h
    · exact .inr ⟨h1, .inr h2⟩
  · rintro (h | ⟨h1, h2 | h2⟩)
    · exact .inr (.inl h)
    · exact .inl ⟨h1, h2⟩
    · exact .inr (.inr ⟨h1, h2⟩)
theorem mem_del {l : List Cel} {k : Txt} {x : Cel} : x ∈ delC l k ↔ x ∈ l ∧ x.1 ≠ k := by
  unfold delC
  rw [List.mem_filter, bne_iff_ne]
theorem Srt.put {l : List Cel} (h : Srt l) (c : Cel) : Srt (putC l c) := by
  unfold putC
  refine List.pairwise_append.2 ⟨h.filter _, List.pairwise_cons.2 ⟨fun x hx => (List.mem_filter.1 hx).2, h.filter _⟩, fun a ha b hb => ?_⟩
  have h1 := (List.mem_filter.1 ha).2
  rcases List.mem_cons.1 hb with e | hb
  · exact e ▸ h1
  · exact bl_trans h1 (List.mem_filter.1 hb).2
theorem Srt.del {l : List Cel} (h : Srt l) (k : Txt) : Srt (delC l k) := h.filter _
theorem Rgt.put {l : List Cel} (h : Rgt l) {c : Cel} (hc : fitC c = true) : Rgt (putC l c) := by
  refine ⟨h.1.put c, fun x hx => ?_⟩
  rcases mem_put.1 hx with e | ⟨h1, _⟩
  · exact e ▸ hc
  · exact h.2 x h1
theorem Rgt.del {l : List Cel} (h : Rgt l) (k : Txt) : Rgt (delC l k) := ⟨h.1.del k, fun x hx => h.2 x (mem_del.1 hx).1⟩
/-- One key, one cell. -/
theorem Srt.one {l : List Cel} (h : Srt l) {x y : Cel} (hx : x ∈ l) (hy : y ∈ l) (e : x.1 = y.1) : x = y := by
  induction l with
  | nil => cases hx
  | cons a l ih =>
    have h' := List.pairwise_cons.1 h
    rcases List.mem_cons.1 hx with e1 | hx <;> rcases List.mem_cons.1 hy with e2 | hy
    · rw [e1, e2]
    · have := h'.1 y hy
      rw [← e1, e, bl_irrefl] at this
      cases this
    · have := h'.1 x hx
      rw [← e2, e, bl_irrefl] at this
      cases this
    · exact ih h'.2 hx hy
theorem find_iff {l : List Cel} (h : Srt l) {k v : Txt} : findC l k = some v ↔ (k, v) ∈ l := by
  unfold findC
  constructor
  · intro hf
    cases hq : l.find? (·.1 == k) with
    | none => rw [hq] at hf; cases hf
    | some x =>
      rw [hq] at hf
      have h1 := List.find?_some hq
      have h2 := List.mem_of_find?_eq_some hq
      have e1 : x.1 = k := by simpa using h1
      have e2 : x.2 = v := by simpa using hf
      rw [← e1, ← e2]
      exact h2
  · intro hm
    cases hq : l.find? (·.1 == k) with
    | none =>
      have := List.find?_eq_none.1 hq (k, v) hm
      simp at this
    | some x =>
      have h1 : x.1 = k := by simpa using List.find?_some hq
      have h2 := List.mem_of_find?_eq_some hq
      have := h.one h2 hm h1
      rw [this]
      rfl
theorem find_none {l : List Cel} {k : Txt} : findC l k = none ↔ ∀ x ∈ l, x.1 ≠ k := by
  unfold findC
  rw [Option.map_eq_none_iff, List.find?_eq_none]
  simp
theorem find_eq {l m : List Cel} (hl : Srt l) (hm : Srt m) {k : Txt} (h : ∀ v, (k, v) ∈ l ↔ (k, v) ∈ m) : findC l k = findC m k := by
  cases h1 : findC l k with
  | some v => rw [(find_iff hm).2 ((h v).1 ((find_iff hl).1 h1))]
  | none =>
    cases h2 : findC m k with
    | none => rfl
    | some v => rw [(find_iff hl).2 ((h v).2 ((find_iff hm).1 h2))] at h1; cases h1
/-- What was put is found; of any other key what it was. -/
theorem find_put {l : List Cel} (h : Srt l) (c : Cel) (k : Txt) : findC (putC l c) k = if k = c.1 then some c.2 else findC l k := by
  split
  · rename_i e
    subst e
    exact (find_iff (h.put c)).2 (mem_put.2 (.inl rfl))
  · rename_i e
    refine find_eq (h.put c) h fun v => ?_
    rw [mem_put]
    constructor
    · rintro (e1 | ⟨h1, _⟩)
      · exact (e (by rw [← e1])).elim
      · exact h1
    · intro h1
      exact .inr ⟨h1, e⟩
theorem find_del {l : List Cel} (h : Srt l) (k' k : Txt) : findC (delC l k') k = if k = k' then none else findC l k := by
  split
  · rename_i e
    subst e
    exact find_none.2 fun x hx => (mem_del.1 hx).2
  · rename_i e
    refine find_eq (h.del k') h fun v => ?_
    rw [mem_del]
    exact ⟨fun h1 => h1.1, fun h1 => ⟨h1, e⟩⟩
theorem del_put {l : List Cel} (h : Srt l) (c : Cel) : delC (putC l c) c.1 = delC l c.1 := by
  refine Srt.ext ((h.put c).del _) (h.del _) fun x => ?_
  rw [mem_del, mem_put, mem_del]
  constructor
  · rintro ⟨e | h1, h2⟩
    · exact (h2 (by rw [e])).elim
    · exact h1
  · intro h1
    exact ⟨.inr h1, h1.2⟩
theorem del_del (l : List Cel) (k : Txt) : delC (delC l k) k = delC l k := by
  unfold delC
  rw [List.filter_filter]
  simp
theorem del_split {l : List Cel} (h : Srt l) (k : Txt) : delC l k = l.filter (fun x => bl x.1 k) ++ l.filter (fun x => bl k x.1) := by
  refine Srt.ext (h.del k) (List.pairwise_append.2 ⟨h.filter _, h.filter _, fun a ha b hb => bl_trans (List.mem_filter.1 ha).2 (List.mem_filter.1 hb).2⟩) fun x => ?_
  rw [mem_del, List.mem_append, List.mem_filter, List.mem_filter, bl_ne]
  constructor
  · rintro ⟨h1, h2 | h2⟩
    · exact .inl ⟨h1, h2⟩
    · exact .inr ⟨h1, h2⟩
  · rintro (⟨h1, h2⟩ | ⟨h1, h2⟩)
    · exact ⟨h1, .inl h2⟩
    · exact ⟨h1, .inr h2⟩
theorem sizeC_append (a b : List Cel) : sizeC (a ++ b) = sizeC a + sizeC b := by unfold sizeC; rw [List.map_append, List.sum_append]
theorem sizeC_cons (c : Cel) (b : List Cel) : sizeC (c :: b) = 4 + c.1.length + c.2.length + sizeC b := by unfold sizeC; rw [List.map_cons, List.sum_cons]
/-- What a put adds. -/
theorem put_size {l : List Cel} (h : Srt l) (c : Cel) : sizeC (putC l c) = sizeC (delC (putC l c) c.1) + 4 + c.1.length + c.2.length ∧ (putC l c).length = (delC (putC l c) c.1).length + 1 := by
  rw [del_put h, del_split h]
  unfold putC
  refine ⟨?_, ?_⟩
  · rw [sizeC_append, sizeC_append, sizeC_cons]
    omega
  · rw [List.length_append, List.length_append, List.length_cons]
    omega
/-- Two puts of other keys, in either order. -/
theorem put_comm {l : List Cel} (h : Srt l) {a b : Cel} (hab : a.1 ≠ b.1) : putC (putC l a) b = putC (putC l b) a := by
  refine Srt.ext ((h.put a).put b) ((h.put b).put a) fun x => ?_
  rw [mem_put, mem_put, mem_put, mem_put]
  constructor
  · rintro (e | ⟨e | ⟨h1, h2⟩, h3⟩)
    · exact .inr ⟨.inl e, by rw [e]; exact fun h => hab h.symm⟩
    · exact .inl e
    · exact .inr ⟨.inr ⟨h1, h3⟩, h2⟩
  · rintro (e | ⟨e | ⟨h1, h2⟩, h3⟩)
    · exact .inr ⟨.inl e, by rw [e]; exact hab⟩
    · exact .inl e
    · exact .inr ⟨.inr ⟨h1, h3⟩, h2⟩
/-- Of the same key the last one counts. -/
theorem put_last {l : List Cel} (h : Srt l) {a b : Cel} (hab : a.1 = b.1) : putC (putC l a) b = putC l b := by
  refine Srt.ext ((h.put a).put b) (h.put b) fun x => ?_
  rw [mem_put, mem_put, mem_put]
  constructor
  · rintro (e | ⟨e | h1, h2⟩)
    · exact .inl e
    · exact (h2 (by rw [e, hab])).elim
    · exact .inr ⟨h1.1, h2⟩
  · rintro (e | ⟨h1, h2⟩)
    · exact .inl e
    · exact .inr ⟨.inr ⟨h1, by rw [hab]; exact h2⟩, h2⟩

/-- The cells of a part. -/
def partC (l : List Cel) (r : Rng) : List Cel := l.filter fun x => has r x.1
theorem Srt.part {l : List Cel} (h : Srt l) (r : Rng) : Srt (partC l r) := h.filter _
theorem mem_part {l : List Cel} {r : Rng} {x : Cel} : x ∈ partC l r ↔ x ∈ l ∧ has r x.1 = true := by unfold partC; rw [List.mem_filter]
/-- Parts that meet at a bound. -/
theorem part_parts {l : List Cel} (h : Srt l) {a b c : Rng} {k : Txt} (ha : ∀ x, has a x = true → bl x k = true) (hb : ∀ x, has b x = true → bl x k = false) (hc : ∀ x, has c x = (has a x || has b x)) : partC l a ++ partC l b = partC l c := by
  refine Srt.ext (List.pairwise_append.2 ⟨h.part a, h.part b, fun x hx y hy => ?_⟩) (h.part c) fun x => ?_
  · have h1 := ha _ (mem_part.1 hx).2
    have h2 := hb _ (mem_part.1 hy).2
    exact bl_of_ble' h1 ((ble_iff _ _).2 h2)
  · rw [List.mem_append, mem_part, mem_part, mem_part, hc]
    simp only [Bool.or_eq_true]
    constructor
    · rintro (⟨h1, h2⟩ | ⟨h1, h2⟩)
      · exact ⟨h1, .inl h2⟩
      · exact ⟨h1, .inr h2⟩
    · rintro ⟨h1, h2 | h2⟩
      · exact .inl ⟨h1, h2⟩
      · exact .inr ⟨h1, h2⟩
end Go.Proofs.Ytbganaaiaokfmaa
