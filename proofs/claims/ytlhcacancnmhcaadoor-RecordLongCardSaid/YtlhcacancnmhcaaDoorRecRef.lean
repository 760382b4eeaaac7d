/-
  What the document's own answer asks of a text's beginning (is it written so?) is what a record's seals tell. No program is read here.
-/
import Derived.Test.YtlhcacancnmhcaaDoorRecMath
namespace Go.Proofs.YtlhcacancnmhcaaDoor

theorem be_val4 : ∀ x : List UInt8, x.length = 4 → be (val x) 4 = x
  | [a, b, c, d], _ => by
    have ha := a.toNat_lt
    have hb := b.toNat_lt
    have hc := c.toNat_lt
    have hd := d.toNat_lt
    have e : val [a, b, c, d] = ((a.toNat * 256 + b.toNat) * 256 + c.toNat) * 256 + d.toNat := by simp [val]
    rw [e]
    have t : ∀ (n : Nat) (u : UInt8), n % 256 = u.toNat → UInt8.ofNat n = u := fun n u h => UInt8.toNat.inj (by rw [UInt8.toNat_ofNat']; exact h)
    simp only [be]
    rw [t _ a (by omega), t _ b (by omega), t _ c (by omega), t _ d (by omega)]

theorem head_is {b : List UInt8} (h9 : 9 ≤ b.length) : sealed (b.take 5) = b.take 9 ↔ Sealed (b.take 9) := by
  constructor
  · intro h; rw [← h]; exact sealed_is _
  · intro h
    have := sealed_of h
    rw [List.length_take, Nat.min_eq_left h9, List.take_take, show min (9 - 4) 9 = 5 by omega] at this
    exact this.symm

theorem first_five {b : List UInt8} (h9 : 9 ≤ b.length) : b.take 5 = b.headD 0 :: (b.drop 1).take 4 := by
  cases b with
  | nil => simp at h9
  | cons x l => rfl

theorem head_of {b : List UInt8} {d : List UInt8} (h9 : 9 ≤ b.length) (hd : d.length = lenOf b) (hs : Sealed (b.take 9)) : headR ⟨b.headD 0, d⟩ = b.take 9 := by
  have e : be d.length 4 = (b.drop 1).take 4 := by
    rw [hd]
    exact be_val4 _ (by rw [List.length_take, List.length_drop]; omega)
  show sealed (b.headD 0 :: be d.length 4) = _
  rw [e, ← first_five h9]
  exact (head_is h9).2 hs

theorem body_is {b : List UInt8} (hs : Sealed (b.take 9)) (hl : 13 + lenOf b ≤ b.length) : one ⟨b.headD 0, (b.drop 9).take (lenOf b)⟩ = b.take (13 + lenOf b) ↔ Sealed ((b.drop 9).take (lenOf b + 4)) := by
  have hd : ((b.drop 9).take (lenOf b)).length = lenOf b := by rw [List.length_take, List.length_drop]; omega
  have hz : ((b.drop 9).take (lenOf b + 4)).length = lenOf b + 4 := by rw [List.length_take, List.length_drop]; omega
  have e1 : b.take (13 + lenOf b) = b.take 9 ++ (b.drop 9).take (lenOf b + 4) := by rw [show 13 + lenOf b = 9 + (lenOf b + 4) by omega, List.take_add]
  unfold one
  rw [head_of (by omega) hd hs, e1]
  constructor
  · intro h
    rw [← List.append_cancel_left h]
    exact sealed_is _
  · intro h
    have := sealed_of h
    rw [hz, Nat.add_sub_cancel, List.take_take, Nat.min_eq_left (by omega)] at this
    rw [← this]

/-- The document's own way to look at a text's beginning. -/
def lookD (b : List UInt8) : LookR :=
  if b.length = 0 then .whole
  else if b.length < 9 then .torn
  else if sealed (b.take 5) ≠ b.take 9 ∨ 262144 < lenOf b then .bad
  else if b.length < 13 + lenOf b then .torn
  else if one ⟨b.headD 0, (b.drop 9).take (lenOf b)⟩ ≠ b.take (13 + lenOf b) then .bad
  else .told ⟨b.headD 0, (b.drop 9).take (lenOf b)⟩

theorem lookD_is (b : List UInt8) : lookD b = lookR b := by
  unfold lookD lookR
  by_cases h0 : b.length = 0
  · rw [if_pos h0, if_pos h0]
  rw [if_neg h0, if_neg h0]
  by_cases h9 : b.length < 9
  · rw [if_pos h9, if_pos h9]
  rw [if_neg h9, if_neg h9]
  have hi := head_is (b := b) (by omega)
  by_cases h1 : ¬ Sealed (b.take 9) ∨ 262144 < lenOf b
  · rw [if_pos h1, if_pos (h1.imp_left fun x y => x (hi.1 y))]
  rw [if_neg h1, if_neg (fun x => h1 (x.imp_left fun u v => u (hi.2 v)))]
  by_cases h2 : b.length < 13 + lenOf b
  · rw [if_pos h2, if_pos h2]
  rw [if_neg h2, if_neg h2]
  have hs : Sealed (b.take 9) := Classical.not_not.1 (fun x => h1 (.inl x))
  have hb := body_is hs (by omega)
  by_cases h3 : Sealed ((b.drop 9).take (lenOf b + 4))
  · rw [if_neg (fun x => x (hb.2 h3)), if_neg (fun x => x h3)]
  · rw [if_pos (fun x => h3 (hb.1 x)), if_pos h3]
end Go.Proofs.YtlhcacancnmhcaaDoor
