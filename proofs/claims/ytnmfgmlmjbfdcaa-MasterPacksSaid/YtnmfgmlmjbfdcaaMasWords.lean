/-
  What packing and unpacking tell, in plain words: errors, texts, the cases of what is no packed text. No program is read here.
-/
import Derived.Test.YtnmfgmlmjbfdcaaMasKeep
namespace Go.Proofs.Ytnmfgmlmjbfdcaa
open Go.RowKit

/-- Bytes as a text. -/
def tb (l : List UInt8) : ByteArray := ⟨l.toArray⟩
theorem tb_size (l : List UInt8) : (tb l).size = l.length := by simp [tb, ByteArray.size]
theorem tb_list (l : List UInt8) : (tb l).data.toList = l := by simp [tb]
theorem tb_app (a b : List UInt8) : tb a ++ tb b = tb (a ++ b) := by
  apply ByteArray.ext
  rw [ByteArray.data_append]
  simp [tb]
theorem tb_of (s : ByteArray) : tb s.data.toList = s := by cases s; simp [tb]
theorem tb_inj {a b : List UInt8} (h : tb a = tb b) : a = b := by rw [← tb_list a, ← tb_list b, h]
theorem tb_cut (l : List UInt8) (i j : Nat) : (tb l).extract i j = tb (seg l i (j - i)) := by
  apply ByteArray.ext
  rw [ByteArray.data_extract]
  apply Array.ext'
  simp [tb, seg]

/-- The error of Pack. -/
def packE (v n : Nat) (size : Int) : Nat := if size < 64 ∨ 16384 < size ∨ size % 64 ≠ 0 ∨ v = 0 then 2 else if size / 64 * 56 < (n : Int) + 4 then 3 else 0
/-- The text of Pack. -/
def packT (v : Nat) (s : List UInt8) (size : Int) : List UInt8 := if packE v s.length size = 0 then packed v s (size / 64).toNat else []
theorem packE_ok {v n : Nat} {size : Int} (h : packE v n size = 0) : 64 ≤ size ∧ size ≤ 16384 ∧ size % 64 = 0 ∧ v ≠ 0 ∧ (n : Int) + 4 ≤ size / 64 * 56 := by
  unfold packE at h
  split at h
  · cases h
  · split at h
    · cases h
    · omega
theorem packE_fits {v : Nat} {s : List UInt8} {size : Int} (h : packE v s.length size = 0) (hv : v < 18446744073709551616) : ∃ k : Nat, size = (k : Int) * 64 ∧ (size / 64).toNat = k ∧ Fits v s k := by
  obtain ⟨h1, h2, h3, h4, h5⟩ := packE_ok h
  exact ⟨(size / 64).toNat, by omega, rfl, by omega, by omega, h4, hv, by omega⟩
theorem packE_of {v : Nat} {s : List UInt8} {k : Nat} (h : Fits v s k) : packE v s.length ((k : Int) * 64) = 0 := by
  have h0 := h.k0
  have h1 := h.k1
  have h2 := h.v0
  have h3 := h.s1
  unfold packE
  rw [if_neg (by omega), if_neg (by omega)]
theorem packT_of {v : Nat} {s : List UInt8} {k : Nat} (h : Fits v s k) : packT v s ((k : Int) * 64) = packed v s k := by
  unfold packT
  rw [if_pos (packE_of h), show ((k : Int) * 64 / 64).toNat = k by omega]

section
variable {b : List UInt8}
theorem unpack_none {b : List UInt8} (h : ∀ v s, unpackP b = some (v, s) → False) : unpackP b = none := by
  cases hu : unpackP b with
  | none => rfl
  | some q => exact (h q.1 q.2 hu).elim
/-- Sectors of other stamps than the first one's. -/
theorem unpack_stamps {j : Nat} (hj : j * 64 + 64 ≤ b.length) (h : seg b (j * 64) 8 ≠ seg b 0 8) : unpackP b = none := by
  refine unpack_none fun v s hu => h ?_
  have st := packed_stamps hu
  rw [st j (by omega)]
  have := st 0 (by omega)
  rw [Nat.zero_mul] at this
  exact this.symm
/-- Less than a sector. -/
theorem unpack_short (h : b.length < 64) : unpackP b = none := by
  refine unpack_none fun v s hu => ?_
  obtain ⟨h1, h2⟩ := unpack_some hu
  have := h1.k0
  omega
/-- A length that is not there. -/
theorem unpack_far (h : b.length / 64 * 56 < numOf b + 4) : unpackP b = none := by
  refine unpack_none fun v s hu => ?_
  obtain ⟨h1, h2⟩ := unpack_some hu
  have h3 := (packed_read h1).2.1
  rw [← h2] at h3
  have := h1.s1
  omega
/-- What is packed otherwise. -/
theorem unpack_other (h : packE (verOf b) (txtOf b).length (b.length : Int) ≠ 0 ∨ packT (verOf b) (txtOf b) (b.length : Int) ≠ b) : unpackP b = none := by
  refine unpack_none fun v s hu => ?_
  obtain ⟨h1, h2⟩ := unpack_some hu
  have h3 := packed_read h1
  rw [← h2] at h3
  have hl : b.length = b.length / 64 * 64 := by
    have := packed_length v s (b.length / 64)
    rw [← h2] at this
    exact this
  have hlI : (b.length : Int) = ((b.length / 64 : Nat) : Int) * 64 := by omega
  rw [h3.1, h3.2.2.1] at h
  rw [hlI, packE_of h1, packT_of h1] at h
  rcases h with h | h
  · exact h rfl
  · exact h h2.symm
theorem unpack_good (hv : verOf b < 18446744073709551616) (h : packE (verOf b) (txtOf b).length (b.length : Int) = 0) (h' : packT (verOf b) (txtOf b) (b.length : Int) = b) : unpackP b = some (verOf b, txtOf b) := by
  obtain ⟨k, e1, e2, h3⟩ := packE_fits h hv
  have hk : b.length / 64 = k := by omega
  rw [e1, packT_of h3] at h'
  have := unpack_packed h3
  rw [h'] at this
  exact this
end
theorem txtOf_length {b : List UInt8} (h : numOf b + 4 ≤ b.length / 64 * 56) : (txtOf b).length = numOf b := by
  unfold txtOf
  rw [List.length_take, List.length_drop, bodyL_length b _ (by omega)]
  omega
theorem val_lt_of {l : List UInt8} {k : Nat} (h : l.length ≤ k) : val l < 256 ^ k := Nat.lt_of_lt_of_le (val_lt l) (Nat.pow_le_pow_right (by decide) h)
theorem numOf_lt {b : List UInt8} : numOf b < 4294967296 := val_lt_of (k := 4) (by rw [List.length_take]; omega)
theorem verOf_lt {b : List UInt8} : verOf b < 18446744073709551616 := val_lt_of (k := 8) (by rw [List.length_take]; omega)
theorem stamp_lt (b : List UInt8) (o : Nat) : val (seg b o 8) < 18446744073709551616 := val_lt_of (k := 8) (by unfold seg; rw [List.length_take]; omega)
theorem topL_lt (b : List UInt8) : ∀ k, topL b k < 18446744073709551616
  | 0 => by show 0 < _; decide
  | k + 1 => by
    have := topL_lt b k
    have := stamp_lt b (k * 64)
    simp only [topL]
    omega
theorem topP_lt (b : List UInt8) : topP b < 18446744073709551616 := topL_lt b _
/-- The text's bytes, as they are made. -/
theorem textL_made {s : List UInt8} {k : Nat} (h : s.length + 4 ≤ k * 56) : tb (be s.length 4) ++ tb s ++ tb (List.replicate (k * 56 - (4 + s.length)) 0) = tb (textL s k) := by
  rw [tb_app, tb_app, textL_eq h, List.append_assoc, List.length_append, be_length]

/-- What a master is. -/
structure MS where
  at_ : Nat
  v : Nat
  s : List UInt8
  way : Bool
  next : List UInt8
def MS.opened (b0 b1 : List UInt8) : MS := ⟨(best b0 b1).at_, (best b0 b1).v, (best b0 b1).s, false, []⟩
end Go.Proofs.Ytnmfgmlmjbfdcaa
