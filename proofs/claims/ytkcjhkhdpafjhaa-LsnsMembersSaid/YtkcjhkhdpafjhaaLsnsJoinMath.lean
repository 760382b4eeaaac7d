/-
  How two ascending lists are joined step by step. No program is read here.
-/
import Derived.Test.YtkcjhkhdpafjhaaLsnsMath
namespace Go.Proofs.Ytkcjhkhdpafjhaa

/-- In the midst of joining: what is done of the first list and the beginning of the second one; what is left of the first one. -/
structure JJ (low : Nat) (la lb : List Nat) (i k : Nat) (inn : List Nat) : Prop where
  up : asc low (inn ++ la.drop i) = true
  mem : ∀ x, x ∈ inn ++ la.drop i ↔ x ∈ la ∨ x ∈ lb.take k
  sep : ∀ x ∈ inn, ∀ y ∈ lb.drop k, x < y
  le : i ≤ la.length
  len : inn.length ≤ i + k

theorem JJ.start {low : Nat} {la lb : List Nat} (h : asc low la = true) : JJ low la lb 0 0 [] :=
  ⟨by simpa using h, by simp, by simp, by omega, by simp⟩
/-- The next one of the first list is smaller. -/
theorem JJ.step {low : Nat} {la lb inn : List Nat} {i k : Nat} (h : JJ low la lb i k inn) (hb : asc low lb = true) (hi : i < la.length) (hk : k < lb.length) (hlt : la[i] < lb[k]) : JJ low la lb (i + 1) k (inn ++ [la[i]]) := by
  have e : inn ++ [la[i]] ++ la.drop (i + 1) = inn ++ la.drop i := by
    rw [List.append_assoc, List.drop_eq_getElem_cons hi]; rfl
  refine ⟨by rw [e]; exact h.up, fun x => by rw [e]; exact h.mem x, fun x hx y hy => ?_, by omega, by rw [List.length_append]; have := h.len; simp; omega⟩
  rcases List.mem_append.1 hx with hx | hx
  · exact h.sep x hx y hy
  · have hx := List.mem_singleton.1 hx
    subst hx
    rw [List.drop_eq_getElem_cons hk] at hy
    have ha := hb
    rw [← List.take_append_drop k lb, List.drop_eq_getElem_cons hk] at ha
    have hc := (asc_cons _ _ _).1 (asc_right ha)
    rcases List.mem_cons.1 hy with rfl | hy
    · exact hlt
    · have := asc_mem hc.2 y hy; omega
/-- The next one of the second list is put. -/
theorem JJ.put {low : Nat} {la lb inn : List Nat} {i k i' : Nat} (h : JJ low la lb i k inn) (hb : asc low lb = true) (hk : k < lb.length)
    (hc : (∃ hi : i < la.length, la[i] = lb[k] ∧ i' = i + 1) ∨ ((∀ hi : i < la.length, lb[k] < la[i]) ∧ i' = i)) : JJ low la lb i' (k + 1) (inn ++ [lb[k]]) := by
  have hlb : lb[k] ∈ lb := List.getElem_mem hk
  have hsepk : ∀ x ∈ inn, x < lb[k] := fun x hx => h.sep x hx _ (by rw [List.drop_eq_getElem_cons hk]; exact List.mem_cons_self)
  have hl : low < lb[k] := asc_mem hb _ hlb
  have hsep : ∀ x ∈ inn ++ [lb[k]], ∀ y ∈ lb.drop (k + 1), x < y := by
    intro x hx y hy
    have ha := hb
    rw [← List.take_append_drop k lb, List.drop_eq_getElem_cons hk] at ha
    have hcc := (asc_cons _ _ _).1 (asc_right ha)
    have hy2 := asc_mem hcc.2 y hy
    rcases List.mem_append.1 hx with hx | hx
    · have := hsepk x hx; omega
    · have := List.mem_singleton.1 hx; omega
  have hmk : ∀ x, x ∈ lb.take (k + 1) ↔ x ∈ lb.take k ∨ x = lb[k] := by
    intro x
    rw [List.take_succ_eq_append_getElem hk, List.mem_append, List.mem_singleton]
  have hasc := h.up
  rcases hc with ⟨hi, he, rfl⟩ | ⟨hgt, rfl⟩
  · have e : inn ++ [lb[k]] ++ la.drop (i + 1) = inn ++ la.drop i := by
      rw [List.append_assoc, List.drop_eq_getElem_cons hi, he]; rfl
    refine ⟨by rw [e]; exact hasc, fun x => ?_, hsep, by omega, by rw [List.length_append]; have := h.len; simp; omega⟩
    rw [e, h.mem, hmk]
    constructor
    · rintro (hx | hx)
      · exact .inl hx
      · exact .inr (.inl hx)
    · rintro (hx | hx | hx)
      · exact .inl hx
      · exact .inr hx
      · subst hx; left; rw [← he]; exact List.getElem_mem hi
  · have hrest : ∀ y ∈ la.drop i', lb[k] < y := by
      intro y hy
      have hi : i' < la.length := by
        rcases Nat.lt_or_ge i' la.length with h1 | h1
        · exact h1
        · rw [List.drop_eq_nil_of_le h1] at hy; cases hy
      have h1 := hgt hi
      have h2 := asc_right hasc
      rw [List.drop_eq_getElem_cons hi] at hy h2
      have h3 := ((asc_cons _ _ _).1 h2).2
      rcases List.mem_cons.1 hy with rfl | hy
      · exact h1
      · have := asc_mem h3 y hy; omega
    refine ⟨?_, fun x => ?_, hsep, h.le, by rw [List.length_append]; have := h.len; simp; omega⟩
    · rw [List.append_assoc]
      refine asc_append (asc_left hasc) ?_ ?_
      · rw [List.singleton_append, asc_cons]
        exact ⟨hl, asc_from (asc_right hasc) hrest⟩
      · intro x hx y hy
        rcases List.mem_append.1 hy with hy | hy
        · have := List.mem_singleton.1 hy; have := hsepk x hx; omega
        · exact asc_sep hasc x hx y hy
    · have := h.mem x
      rw [List.mem_append] at this
      rw [List.mem_append, List.mem_append, List.mem_singleton, hmk]
      constructor
      · rintro ((hx | hx) | hx)
        · rcases this.1 (.inl hx) with h1 | h1
          · exact .inl h1
          · exact .inr (.inl h1)
        · exact .inr (.inr hx)
        · rcases this.1 (.inr hx) with h1 | h1
          · exact .inl h1
          · exact .inr (.inl h1)
      · rintro (hx | hx | hx)
        · rcases this.2 (.inl hx) with h1 | h1
          · exact .inl (.inl h1)
          · exact .inr h1
        · rcases this.2 (.inr hx) with h1 | h1
          · exact .inl (.inl h1)
          · exact .inr h1
        · exact .inl (.inr hx)
theorem JJ.done {low : Nat} {la lb inn : List Nat} {i k : Nat} (h : JJ low la lb i k inn) (hk : k = lb.length) (ha : asc low la = true) (hb : asc low lb = true) : inn ++ la.drop i = joinL la lb :=
  asc_ext h.up (asc_joinL ha (asc_mem hb)) fun x => by
    rw [h.mem, mem_joinL, hk, List.take_length]

end Go.Proofs.Ytkcjhkhdpafjhaa
