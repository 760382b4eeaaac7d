/-
  Two blocks and what they hold together; behind a failure, in plain words. No program is read here.
-/
import Derived.Test.YtnmfgmlmjbfdcaaMasMath
namespace Go.Proofs.Ytnmfgmlmjbfdcaa
open Go.RowKit

/-- What a block holds, if it is newer than what is known. -/
structure Held where
  at_ : Nat
  v : Nat
  s : List UInt8
def Held.none : Held := ⟨0, 0, []⟩
def Held.look (h : Held) (i : Nat) (b : List UInt8) : Held := match unpackP b with
  | some (v, s) => if h.v < v then ⟨i, v, s⟩ else h
  | _ => h
/-- What the two hold. -/
def best (b0 b1 : List UInt8) : Held := (Held.none.look 0 b0).look 1 b1
theorem look_none {h : Held} {i : Nat} {b : List UInt8} (hb : unpackP b = none) : h.look i b = h := by unfold Held.look; rw [hb]
theorem look_some {h : Held} {i : Nat} {b : List UInt8} {v : Nat} {s : List UInt8} (hb : unpackP b = some (v, s)) : h.look i b = if h.v < v then ⟨i, v, s⟩ else h := by unfold Held.look; rw [hb]
theorem unpack_top {b : List UInt8} {v : Nat} {s : List UInt8} (hb : unpackP b = some (v, s)) : topP b = v ∧ v ≠ 0 := by
  obtain ⟨h1, h2⟩ := unpack_some hb
  refine ⟨?_, h1.v0⟩
  rw [h2]
  exact top_packed h1
theorem look_at (h : Held) (i : Nat) (b : List UInt8) (hh : h.at_ ≤ 1) (hi : i ≤ 1) : (h.look i b).at_ ≤ 1 := by
  cases hb : unpackP b with
  | none => rw [look_none hb]; exact hh
  | some q =>
    obtain ⟨v, s⟩ := q
    rw [look_some hb]
    split
    · exact hi
    · exact hh
theorem best_at (b0 b1 : List UInt8) : (best b0 b1).at_ ≤ 1 := look_at _ 1 b1 (look_at _ 0 b0 (Nat.zero_le _) (Nat.zero_le _)) (Nat.le_refl _)
theorem best_top (b0 b1 : List UInt8) : (best b0 b1).v ≤ max (topP b0) (topP b1) := by
  have h0 : (Held.none.look 0 b0).v ≤ topP b0 := by
    cases h : unpackP b0 with
    | none => rw [look_none h]; exact Nat.zero_le _
    | some q =>
      obtain ⟨v, s⟩ := q
      rw [look_some h]
      have := (unpack_top h).1
      split
      · show v ≤ _; omega
      · exact Nat.zero_le _
  unfold best
  cases h : unpackP b1 with
  | none => rw [look_none h]; omega
  | some q =>
    obtain ⟨v, s⟩ := q
    rw [look_some h]
    have := (unpack_top h).1
    split
    · show v ≤ _; omega
    · omega
/-- Some of a packed text's sectors over bytes of smaller stamps: nothing, what was there, or the text as a whole. -/
theorem mixed_cases {k v : Nat} {s P B M : List UInt8} (hf : Fits v s k) (hP : P = packed v s k) (hB : B.length = k * 64) (hM : M.length = k * 64)
    (hmix : ∀ i, i < k → seg M (i * 64) 64 = seg P (i * 64) 64 ∨ seg M (i * 64) 64 = seg B (i * 64) 64) (htop : topP B < v) : unpackP M = none ∨ M = B ∨ M = P := by
  have hPl : P.length = k * 64 := by rw [hP]; exact packed_length _ _ _
  by_cases h1 : M = P
  · exact .inr (.inr h1)
  by_cases h2 : M = B
  · exact .inr (.inl h2)
  left
  have n1 : ∃ i, i < k ∧ seg M (i * 64) 64 ≠ seg P (i * 64) 64 := Classical.byContradiction fun hh => h1 (eq_of_segs k 64 hM hPl fun i hi => Classical.byContradiction fun hn => hh ⟨i, hi, hn⟩)
  have n2 : ∃ j, j < k ∧ seg M (j * 64) 64 ≠ seg B (j * 64) 64 := Classical.byContradiction fun hh => h2 (eq_of_segs k 64 hM hB fun i hi => Classical.byContradiction fun hn => hh ⟨i, hi, hn⟩)
  obtain ⟨i, hi, hni⟩ := n1
  obtain ⟨j, hj, hnj⟩ := n2
  have ei := (hmix i hi).resolve_left hni
  have ej := (hmix j hj).resolve_right hnj
  have stamp : ∀ (X Y : List UInt8) (o : Nat), seg X o 64 = seg Y o 64 → seg X o 8 = seg Y o 8 := fun X Y o e => by
    have t : ∀ Z : List UInt8, seg Z o 8 = (seg Z o 64).take 8 := fun Z => by unfold seg; rw [List.take_take, Nat.min_eq_left (by decide)]
    rw [t X, t Y, e]
  have si := stamp _ _ _ ei
  have sj := stamp _ _ _ ej
  rw [hP, packed_stamp j hj] at sj
  cases hu : unpackP M with
  | none => rfl
  | some q =>
    obtain ⟨u, t⟩ := q
    exfalso
    have hMk : M.length / 64 = k := by omega
    have hBk : B.length / 64 = k := by omega
    have st := packed_stamps hu
    rw [hMk] at st
    have hge := topL_ge (b := B) k i hi
    have h3 : val (seg B (i * 64) 8) = v := by rw [← si, st i hi, ← st j hj, sj, mval_be8 _ hf.v1]
    unfold topP at htop
    rw [hBk] at htop
    omega
/-- The block that holds what counts, and the other one. -/
def blkAt (b0 b1 : List UInt8) (i : Nat) : List UInt8 := if i = 0 then b0 else b1
/-- Writing over the block that does not count: behind a failure that keeps some sectors of it, the text is the one that was, or the new one. -/
theorem best_mixed {k : Nat} {s b0 b1 P M : List UInt8} (h0 : b0.length = k * 64) (h1 : b1.length = k * 64) (hf : Fits (max (topP b0) (topP b1) + 1) s k) (hP : P = packed (max (topP b0) (topP b1) + 1) s k) (hM : M.length = k * 64)
    (hmix : ∀ i, i < k → seg M (i * 64) 64 = seg P (i * 64) 64 ∨ seg M (i * 64) 64 = seg (blkAt b0 b1 (1 - (best b0 b1).at_)) (i * 64) 64) :
    ∀ h, h = (if (best b0 b1).at_ = 0 then best b0 M else best M b1) → (h.s = (best b0 b1).s ∧ h.v = (best b0 b1).v ∧ (M = blkAt b0 b1 (1 - (best b0 b1).at_) → h = best b0 b1)) ∨ (h.s = s ∧ h.v = max (topP b0) (topP b1) + 1 ∧ h.at_ = 1 - (best b0 b1).at_ ∧ M = P) := by
  intro h hh
  have hbt := best_top b0 b1
  have hPu : unpackP P = some (max (topP b0) (topP b1) + 1, s) := by rw [hP]; exact unpack_packed hf
  have hba := best_at b0 b1
  rcases (show (best b0 b1).at_ = 0 ∨ (best b0 b1).at_ = 1 by omega) with ha | ha
  · rw [ha] at hmix hh ⊢
    rw [if_pos rfl] at hh
    have e1 : blkAt b0 b1 (1 - 0) = b1 := rfl
    rw [e1] at hmix ⊢
    rcases mixed_cases hf hP h1 hM hmix (by omega) with hm | hm | hm
    · left
      have hl : (Held.none.look 0 b0) = ⟨(best b0 b1).at_, (best b0 b1).v, (best b0 b1).s⟩ := by
        show _ = best b0 b1
        unfold best at ha ⊢
        cases hu : unpackP b1 with
        | none => rw [look_none hu]
        | some q =>
          obtain ⟨v, t⟩ := q
          rw [look_some hu] at ha ⊢
          by_cases hc : (Held.none.look 0 b0).v < v
          · rw [if_pos hc] at ha; cases ha
          · rw [if_neg hc]
      have e2 : h = Held.none.look 0 b0 := by rw [hh]; unfold best; rw [look_none hm]
      rw [e2, hl]
      exact ⟨rfl, rfl, fun _ => rfl⟩
    · left
      rw [hh, hm]
      exact ⟨rfl, rfl, fun _ => rfl⟩
    · right
      rw [← hm] at hPu
      have hlt : (Held.none.look 0 b0).v < max (topP b0) (topP b1) + 1 := by
        have h2 := best_top b0 []
        have h3 : best b0 [] = Held.none.look 0 b0 := by
          unfold best
          apply look_none
          rfl
        rw [h3] at h2
        have h4 : topP ([] : List UInt8) = 0 := rfl
        omega
      have e2 : h = ⟨1, max (topP b0) (topP b1) + 1, s⟩ := by rw [hh]; unfold best; rw [look_some hPu, if_pos hlt]
      rw [e2]
      exact ⟨rfl, rfl, rfl, hm⟩
  · rw [ha] at hmix hh ⊢
    rw [if_neg (by decide)] at hh
    have e1 : blkAt b0 b1 (1 - 1) = b0 := rfl
    rw [e1] at hmix ⊢
    -- block 1 counts: it holds a text, newer than block 0's
    obtain ⟨v1, s1, hu1, hb1⟩ : ∃ v1 s1, unpackP b1 = some (v1, s1) ∧ best b0 b1 = ⟨1, v1, s1⟩ := by
      unfold best at ha ⊢
      cases hu : unpackP b1 with
      | none =>
        rw [look_none hu] at ha
        exfalso
        unfold Held.look at ha
        split at ha
        · split at ha <;> cases ha
        · cases ha
      | some q =>
        obtain ⟨v, t⟩ := q
        rw [look_some hu] at ha ⊢
        by_cases hc : (Held.none.look 0 b0).v < v
        · rw [if_pos hc]; exact ⟨v, t, rfl, rfl⟩
        · rw [if_neg hc] at ha
          exfalso
          unfold Held.look at ha
          split at ha
          · split at ha <;> cases ha
          · cases ha
    have ht1 := (unpack_top hu1).1
    have hv10 := (unpack_top hu1).2
    rcases mixed_cases hf hP h0 hM hmix (by omega) with hm | hm | hm
    · left
      have e2 : h = ⟨1, v1, s1⟩ := by
        rw [hh]; unfold best; rw [look_none hm, look_some hu1, if_pos (by show 0 < v1; omega)]
      rw [e2, hb1]
      exact ⟨rfl, rfl, fun _ => rfl⟩
    · left
      rw [hh, hm]
      exact ⟨rfl, rfl, fun _ => rfl⟩
    · right
      rw [← hm] at hPu
      have e2 : h = ⟨0, max (topP b0) (topP b1) + 1, s⟩ := by
        rw [hh]; unfold best
        rw [look_some hPu, if_pos (by show 0 < _; omega), look_some hu1, if_neg (by show ¬ (max (topP b0) (topP b1) + 1) < v1; omega)]
      rw [e2]
      exact ⟨rfl, rfl, rfl, hm⟩
end Go.Proofs.Ytnmfgmlmjbfdcaa
