/-
  The document's answer for package waits, part B: Ring.
-/
import Derived.Test.YtbkhojopiimbdaaWaiRefA
import Derived.Deep.CutBlock
import Derived.Outline
namespace Go.Proofs.Ytbkhojopiimbdaa
open Go.RowKit

/-- One edge of a round that looks for those that are n far. -/
def mstep (W : List (Nat × Nat)) (n : Nat) (more : List (Nat × Nat)) (e : Edge) : List (Nat × Nat) :=
  if atF W e.2 = (n : Int) - 1 ∧ atF W e.1 < 0 ∧ atF more e.1 < 0 then more ++ [(e.1, n)] else more
def moreF (W : List (Nat × Nat)) (n : Nat) (l : List Edge) : List (Nat × Nat) := l.foldl (mstep W n) []
theorem moreF_snoc (W : List (Nat × Nat)) (n : Nat) (l : List Edge) (e : Edge) : moreF W n (l ++ [e]) = mstep W n (moreF W n l) e := by unfold moreF; rw [List.foldl_append]; rfl
theorem moreF_take (W : List (Nat × Nat)) (n : Nat) (l : List Edge) (i : Nat) (hi : i < l.length) : moreF W n (l.take (i + 1)) = mstep W n (moreF W n (l.take i)) l[i] := by
  rw [List.take_succ_eq_append_getElem hi, moreF_snoc]
/-- Induction from the end. -/
theorem snocInd {α : Type} {P : List α → Prop} (h0 : P []) (h1 : ∀ l x, P l → P (l ++ [x])) (l : List α) : P l := by
  have : ∀ n (l : List α), l.length = n → P l := fun n => by
    induction n with
    | zero => intro l hl; rw [List.eq_nil_of_length_eq_zero hl]; exact h0
    | succ n ih =>
      intro l hl
      have hne : l ≠ [] := fun e => by rw [e] at hl; simp at hl
      rw [← List.dropLast_concat_getLast hne]
      exact h1 _ _ (ih _ (by rw [List.length_dropLast]; omega))
  exact this _ l rfl
theorem moreF_length (W : List (Nat × Nat)) (n : Nat) (l : List Edge) : (moreF W n l).length ≤ l.length := by
  induction l using snocInd with
  | h0 => exact Nat.le_refl _
  | h1 l x ih =>
    rw [moreF_snoc]
    unfold mstep
    split
    · simp; exact ih
    · simp; omega
theorem moreF_mem (W : List (Nat × Nat)) (n : Nat) (l : List Edge) (x k : Nat) : (x, k) ∈ moreF W n l ↔ (k = n ∧ (∃ y, (x, y) ∈ l ∧ atF W y = (n : Int) - 1) ∧ atF W x < 0) := by
  induction l using snocInd with
  | h0 => simp [moreF]
  | h1 l e ih =>
    rw [moreF_snoc]
    unfold mstep
    constructor
    · intro h
      split at h
      · rename_i hc
        rcases List.mem_append.1 h with h | h
        · obtain ⟨rfl, ⟨y, hy, hw⟩, hx⟩ := ih.1 h
          exact ⟨rfl, ⟨y, List.mem_append_left _ hy, hw⟩, hx⟩
        · have h := List.mem_singleton.1 h
          injection h with h1 h2
          subst h1 h2
          exact ⟨rfl, ⟨e.2, by simp, hc.1⟩, hc.2.1⟩
      · obtain ⟨rfl, ⟨y, hy, hw⟩, hx⟩ := ih.1 h
        exact ⟨rfl, ⟨y, List.mem_append_left _ hy, hw⟩, hx⟩
    · rintro ⟨rfl, ⟨y, hy, hw⟩, hx⟩
      rcases List.mem_append.1 hy with hy | hy
      · have := ih.2 ⟨rfl, ⟨y, hy, hw⟩, hx⟩
        split
        · exact List.mem_append_left _ this
        · exact this
      · have hy := List.mem_singleton.1 hy
        subst hy
        by_cases hm : atF (moreF W k l) x < 0
        · rw [if_pos ⟨hw, hx, hm⟩]; simp
        · rw [if_neg (fun h => hm h.2.2)]
          have h1 : ¬ ∀ j, (x, j) ∉ moreF W k l := fun h => hm (atF_neg.2 h)
          obtain ⟨j, hj⟩ : ∃ j, (x, j) ∈ moreF W k l := by
            refine Classical.byContradiction fun h => h1 fun j hj => h ⟨j, hj⟩
          have hlt : j = k := by
            -- every member's number is k
            have : ∀ l, ∀ p ∈ moreF W k l, p.2 = k := fun l => by
              induction l using snocInd with
              | h0 => simp [moreF]
              | h1 l e ih =>
                intro p hp
                rw [moreF_snoc] at hp
                unfold mstep at hp
                split at hp
                · rcases List.mem_append.1 hp with hp | hp
                  · exact ih p hp
                  · rw [List.mem_singleton.1 hp]
                · exact ih p hp
            exact this l _ hj
          rw [← hlt] at hj ⊢
          rw [hlt] at hj ⊢
          exact hj

/-- A round's end. -/
theorem Levels.round {l : List Edge} {tx n : Nat} {W : List (Nat × Nat)} (h : Levels l tx (n + 1) W) : Levels l tx (n + 2) (W ++ moreF W (n + 1) l) := by
  have hu : ∀ x k j, (x, k) ∈ W → (x, j) ∈ W → j = k := fun x k j h1 h2 => ((h x j).1 h2).2.uniq ((h x k).1 h1).2
  refine h.next fun x k => ?_
  rw [moreF_mem, atF_neg]
  have hc : ((n + 1 : Nat) : Int) - 1 = (n : Int) := by omega
  constructor
  · rintro ⟨h1, ⟨y, hy, hw⟩, h3⟩
    exact ⟨h1, ⟨y, hy, atF_mem (hw.trans hc)⟩, h3⟩
  · rintro ⟨h1, ⟨y, hy, hw⟩, h3⟩
    exact ⟨h1, ⟨y, hy, (atF_of hw fun j hj => hu y n j hw hj).trans hc.symm⟩, h3⟩
theorem Levels.stop {l : List Edge} {tx n : Nat} {W : List (Nat × Nat)} (h : Levels l tx (n + 1) W) (hm : moreF W (n + 1) l = []) : Whole l tx W := by
  have hu : ∀ x k j, (x, k) ∈ W → (x, j) ∈ W → j = k := fun x k j h1 h2 => ((h x j).1 h2).2.uniq ((h x k).1 h1).2
  refine h.whole fun x y hxy hy => Classical.byContradiction fun hno => ?_
  have : (x, n + 1) ∈ moreF W (n + 1) l := (moreF_mem _ _ _ _ _).2 ⟨rfl, ⟨y, hxy, (atF_of hy fun j hj => hu y n j hy hj).trans (by omega)⟩, atF_neg.2 fun j hj => hno ⟨j, hj⟩⟩
  rw [hm] at this
  cases this

/-- The best of the first ones. -/
def BestTo (l : List Edge) (W : List (Nat × Nat)) (x i : Nat) (f : Bool) (nx : Nat) (b : Int) : Prop :=
  (f = false ∧ ∀ e ∈ l.take i, e.1 = x → atF W e.2 < 0) ∨
  (f = true ∧ (x, nx) ∈ l.take i ∧ 0 ≤ b ∧ atF W nx = b ∧ ∀ e ∈ l.take i, e.1 = x → 0 ≤ atF W e.2 → b < atF W e.2 ∨ (b = atF W e.2 ∧ nx ≤ e.2))
section
variable {l : List Edge} {W : List (Nat × Nat)} {x i nx : Nat} {f : Bool} {b : Int}
theorem BestTo.start : BestTo l W x 0 false nx b := .inl ⟨rfl, fun e he => by simp at he⟩
theorem mem_take_succ {e : Edge} (hi : i < l.length) : e ∈ l.take (i + 1) ↔ e ∈ l.take i ∨ e = l[i] := by
  rw [List.take_succ_eq_append_getElem hi, List.mem_append, List.mem_singleton]
theorem BestTo.skip (h : BestTo l W x i f nx b) (hi : i < l.length) (hs : l[i].1 = x → atF W l[i].2 < 0) : BestTo l W x (i + 1) f nx b := by
  rcases h with ⟨h1, h2⟩ | ⟨h1, h2, h3, h4, h5⟩
  · refine .inl ⟨h1, fun e he => ?_⟩
    rcases (mem_take_succ hi).1 he with he | rfl
    · exact h2 e he
    · exact hs
  · refine .inr ⟨h1, (mem_take_succ hi).2 (.inl h2), h3, h4, fun e he => ?_⟩
    rcases (mem_take_succ hi).1 he with he | rfl
    · exact h5 e he
    · exact fun hx h0 => absurd (hs hx) (by omega)
theorem BestTo.turn (h : BestTo l W x i f nx b) (hi : i < l.length) (hx : l[i].1 = x) (h0 : 0 ≤ atF W l[i].2) (hb : f = false ∨ atF W l[i].2 < b ∨ (atF W l[i].2 = b ∧ l[i].2 < nx)) : BestTo l W x (i + 1) true l[i].2 (atF W l[i].2) := by
  refine .inr ⟨rfl, (mem_take_succ hi).2 (.inr (by rw [← hx])), h0, rfl, fun e he => ?_⟩
  rcases (mem_take_succ hi).1 he with he | rfl
  · intro hex h0e
    rcases h with ⟨h1, h2⟩ | ⟨h1, h2, h3, h4, h5⟩
    · exact absurd (h2 e he hex) (by omega)
    · rcases hb with hb | hb | ⟨hb, hn⟩
      · rw [h1] at hb; cases hb
      · rcases h5 e he hex h0e with h6 | ⟨h6, _⟩
        · exact .inl (by omega)
        · exact .inl (by omega)
      · rcases h5 e he hex h0e with h6 | ⟨h6, h7⟩
        · exact .inl (by omega)
        · exact .inr ⟨by omega, by omega⟩
  · exact fun _ _ => .inr ⟨rfl, Nat.le_refl _⟩
theorem BestTo.stay (h : BestTo l W x i true nx b) (hi : i < l.length) (hb : b < atF W l[i].2 ∨ (atF W l[i].2 = b ∧ nx ≤ l[i].2)) : BestTo l W x (i + 1) true nx b := by
  rcases h with ⟨h1, _⟩ | ⟨h1, h2, h3, h4, h5⟩
  · cases h1
  · refine .inr ⟨h1, (mem_take_succ hi).2 (.inl h2), h3, h4, fun e he => ?_⟩
    rcases (mem_take_succ hi).1 he with he | rfl
    · exact h5 e he
    · intro _ _
      rcases hb with hb | ⟨hb, hn⟩
      · exact .inl hb
      · exact .inr ⟨hb.symm, hn⟩
variable {tx : Nat}
theorem Whole.at (h : Whole l tx W) {y k : Nat} (hf : Far l tx k y) : atF W y = (k : Int) := atF_of ((h y k).2 hf) fun j hj => ((h y j).1 hj).uniq hf
theorem Whole.far (h : Whole l tx W) {y k : Nat} (ha : atF W y = (k : Int)) : Far l tx k y := (h y k).1 (atF_mem ha)
theorem BestTo.best (h : BestTo l W x l.length true nx b) (hw : Whole l tx W) : Best l tx x nx := by
  rcases h with ⟨h1, _⟩ | ⟨_, h2, h3, h4, h5⟩
  · cases h1
  · rw [List.take_length] at h2 h5
    obtain ⟨k, rfl⟩ : ∃ k : Nat, b = (k : Int) := ⟨b.toNat, by omega⟩
    refine ⟨h2, k, hw.far h4, fun c j hc hj => ?_⟩
    have ha := hw.at hj
    rcases h5 (x, c) hc rfl (by rw [ha]; omega) with h6 | ⟨h6, h7⟩
    · simp only [ha] at h6; exact .inl (by omega)
    · simp only [ha] at h6; exact .inr ⟨by omega, h7⟩
theorem BestTo.none (h : BestTo l W x l.length false nx b) (hw : Whole l tx W) : ∀ y k, (x, y) ∈ l → ¬ Far l tx k y := by
  rcases h with ⟨_, h2⟩ | ⟨h1, _⟩
  · rw [List.take_length] at h2
    intro y k hy hf
    have := h2 (x, y) hy rfl
    simp only [hw.at hf] at this
    omega
  · cases h1
end

end Go.Proofs.Ytbkhojopiimbdaa
