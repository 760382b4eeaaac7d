/-
  Plain facts on the document's register, a row of 32 bits: as a function of the place. No program is read here.
-/
import Derived.Test.YtlhcacancnmhcaaDoorCrcBits
namespace Go.Proofs.YtlhcacancnmhcaaDoor
open Go.RowKit

/-- A row of 32 bits, as cells. -/
def rowF (f : Nat → Bool) : List Value := (List.range 32).map fun i => .bool (f i)

theorem rowF_length (f : Nat → Bool) : (rowF f).length = 32 := by simp [rowF]
theorem rowF_get (f : Nat → Bool) (i : Nat) (h : i < 32) : (rowF f)[i]? = some (.bool (f i)) := by simp [rowF, h]
theorem rowF_same {f g : Nat → Bool} (h : ∀ i, i < 32 → f i = g i) : rowF f = rowF g := by
  unfold rowF
  apply List.map_congr_left
  intro i hi
  rw [h i (List.mem_range.1 hi)]
theorem rowF_set (f : Nat → Bool) (k : Nat) (b : Bool) : (rowF f).set k (.bool b) = rowF fun i => if i = k then b else f i := by
  apply List.ext_getElem?
  intro i
  rw [List.getElem?_set, rowF_length]
  by_cases hi : i < 32
  · rw [rowF_get _ i hi, rowF_get _ i hi]
    by_cases hk : k = i
    · subst hk; simp [hi]
    · rw [if_neg hk, if_neg (fun e => hk e.symm)]
  · rw [List.getElem?_eq_none (by rw [rowF_length]; omega), List.getElem?_eq_none (by rw [rowF_length]; omega)]
    by_cases hk : k = i
    · subst hk; simp [hi]
    · simp [hk]
theorem rowF_one (f : Nat → Bool) : ∀ v ∈ rowF f, v.oneCell' = true := by
  intro v hv
  obtain ⟨_, _, rfl⟩ := List.mem_map.1 hv
  rfl

theorem tb_zero (r : Nat) : r.testBit 0 = (r % 2 == 1) := by rw [Nat.testBit_zero]; rcases Nat.mod_two_eq_zero_or_one r with h | h <;> simp [h]
theorem tb_div (r k : Nat) : (r / 2 ^ k % 2 == 1) = r.testBit k := by
  have := tb_zero (r / 2 ^ k)
  rw [Nat.testBit_div_two_pow, Nat.zero_add] at this
  exact this.symm
theorem tb_half (r i : Nat) : (r / 2).testBit i = r.testBit (i + 1) := by
  have := Nat.testBit_div_two_pow (x := r) (n := 1) i
  simpa using this

/-- Behind the first loop: shifted by one. -/
theorem shifted (r : Nat) (h : r < 4294967296) : rowF (fun i => decide (i < 31) && r.testBit (i + 1)) = rowF (r / 2).testBit := by
  apply rowF_same
  intro i hi
  rw [tb_half]
  by_cases h31 : i < 31
  · simp [h31]
  · have : i = 31 := by omega
    subst this
    have e : r.testBit 32 = false := Nat.testBit_lt_two_pow (by omega)
    simp [e]

/-- Behind the second loop: the step. -/
theorem stepped (r : Nat) (x : Bool) : rowF (fun i => if i < 32 then ((r / 2).testBit i != ((r.testBit 0 != x) && poly.testBit i)) else (r / 2).testBit i) = rowF (stp r x).testBit := by
  apply rowF_same
  intro i hi
  rw [if_pos hi]
  have e1 : (r ^^^ x.toNat) / 2 = r / 2 := by
    rw [Nat.xor_div_two]
    cases x <;> simp
  have e2 : ((r ^^^ x.toNat) % 2 = 1) ↔ (r.testBit 0 != x) = true := by
    rw [xor_two, tb_zero]
    rcases Nat.mod_two_eq_zero_or_one r with h | h <;> cases x <;> simp [Nat.add_mod, h]
  unfold stp s0
  rw [e1]
  cases hl : (r.testBit 0 != x)
  · rw [if_neg (fun h => by rw [e2.1 h] at hl; cases hl)]
    simp
  · rw [if_pos (e2.2 hl), Nat.testBit_xor]
    simp

/-- One round of the second loop. -/
theorem loop2 (q k : Nat) (left : Bool) : (fun i => if i = k then (q.testBit k != (left && poly.testBit k)) else (if i < k then (q.testBit i != (left && poly.testBit i)) else q.testBit i)) = fun i => if i < k + 1 then (q.testBit i != (left && poly.testBit i)) else q.testBit i := by
  funext i
  by_cases h : i = k
  · subst h; simp
  · rw [if_neg h]
    by_cases h2 : i < k
    · rw [if_pos h2, if_pos (by omega)]
    · rw [if_neg h2, if_neg (by omega)]

theorem loop1 (r k : Nat) : (fun i => if i = k then r.testBit (k + 1) else decide (i < k) && r.testBit (i + 1)) = fun i => decide (i < k + 1) && r.testBit (i + 1) := by
  funext i
  by_cases h : i = k
  · subst h; simp
  · rw [if_neg h]
    by_cases h2 : i < k
    · simp [h2, show i < k + 1 by omega]
    · simp [h2, show ¬ i < k + 1 by omega]

theorem started (s : Nat) : rowF (fun i => decide (i < 32) && !s.testBit i) = rowF (s ^^^ ones).testBit := by
  apply rowF_same
  intro i hi
  rw [Nat.testBit_xor, show ones = 2 ^ 32 - 1 from rfl, Nat.testBit_two_pow_sub_one]
  simp [hi]

theorem loop0 (s k : Nat) : (fun i => if i = k then !s.testBit k else decide (i < k) && !s.testBit i) = fun i => decide (i < k + 1) && !s.testBit i := by
  funext i
  by_cases h : i = k
  · subst h; simp
  · rw [if_neg h]
    by_cases h2 : i < k
    · simp [h2, show i < k + 1 by omega]
    · simp [h2, show ¬ i < k + 1 by omega]

theorem bitsN_succ : ∀ k c, bitsN (k + 1) c = bitsN k c ++ [(c / 2 ^ k % 2 == 1)]
  | 0, c => by simp [bitsN]
  | k + 1, c => by
    show (c % 2 == 1) :: bitsN (k + 1) (c / 2) = ((c % 2 == 1) :: bitsN k (c / 2)) ++ _
    rw [bitsN_succ k (c / 2), Nat.div_div_eq_div_mul, ← Nat.pow_succ']
    rfl

theorem reg_succ (r c k : Nat) : reg r (bitsN (k + 1) c) = stp (reg r (bitsN k c)) (c / 2 ^ k % 2 == 1) := by
  rw [bitsN_succ, reg_app]
  rfl

theorem reg_byte (r : Nat) (l : List UInt8) (i : Nat) (h : i < l.length) : reg r (bits (l.take (i + 1))) = reg (reg r (bits (l.take i))) (bitsN 8 l[i].toNat) := by
  rw [List.take_succ_eq_append_getElem h, bits_append, reg_app]
  show reg _ (bitsN 8 l[i].toNat ++ []) = _
  rw [List.append_nil]

/-- The number is read off from the top. -/
theorem top_down (x j : Nat) : x / 2 ^ j = 2 * (x / 2 ^ (j + 1)) + (if x.testBit j then 1 else 0) := by
  have h := tb_div x j
  rw [Nat.pow_succ, ← Nat.div_div_eq_div_mul]
  cases hb : x.testBit j
  · rw [hb] at h
    have : x / 2 ^ j % 2 ≠ 1 := by simpa using h
    simp
    omega
  · rw [hb] at h
    have : x / 2 ^ j % 2 = 1 := by simpa using h
    simp
    omega

end Go.Proofs.YtlhcacancnmhcaaDoor
