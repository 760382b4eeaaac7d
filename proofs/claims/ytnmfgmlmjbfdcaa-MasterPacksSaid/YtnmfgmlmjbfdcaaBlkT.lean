/-
  An act's text.
-/
import Derived.Test.YtnmfgmlmjbfdcaaBlkC
import Derived.Laws.BitsAllLaws
namespace Go.Proofs.Ytnmfgmlmjbfdcaa
open Go.RowKit

/-- How many bytes an act's text has. -/
def many (N : Int) : Nat := if N < 0 ∨ 300 < N then 300 else N.toNat
theorem many_le (N : Int) : many N ≤ 300 := by unfold many; split <;> omega
/-- A byte of it. -/
def byteOf (c i : Nat) : UInt8 := UInt8.ofNat (c + i / 64)
/-- The text. -/
def textOf (N : Int) (c : Nat) : ByteArray := ⟨((List.range (many N)).map (byteOf c)).toArray⟩
theorem textOf_size (N : Int) (c : Nat) : (textOf N c).size = many N := by
  show (((List.range (many N)).map (byteOf c)).toArray).size = _
  simp
/-- The bytes when k of n are there. -/
def told (c n k : Nat) : List UInt8 := (List.range k).map (byteOf c) ++ List.replicate (n - k) 0
theorem told_length (c n k : Nat) (h : k ≤ n) : (told c n k).length = n := by simp [told]; omega
theorem told_set (c n k : Nat) (h : k < n) : (byt (told c n k)).set k (.int .u8 ((byteOf c k).toNat : Int)) = byt (told c n (k + 1)) := by
  have e : (.int .u8 ((byteOf c k).toNat : Int) : Value) = (fun c : UInt8 => Value.int .u8 (c.toNat : Int)) (byteOf c k) := rfl
  unfold byt
  rw [e, ← List.map_set]
  congr 1
  unfold told
  rw [List.set_append_right _ _ (by simp), List.length_map, List.length_range, Nat.sub_self, List.range_succ, List.map_append, List.append_assoc]
  congr 1
  obtain ⟨m, hm⟩ : ∃ m, n - k = m + 1 := ⟨n - k - 1, by omega⟩
  rw [hm, show n - (k + 1) = m by omega, List.replicate_succ]
  rfl
theorem wrap_byte (c k : Nat) : IntKind.u8.wrap ((c : Int) + (k : Int) / 64) = ((byteOf c k).toNat : Int) := by
  unfold byteOf
  rw [UInt8.toNat_ofNat', IntKind.wrap_u8']
  omega

/-- An act in cells. -/
def actCells (what : Nat) (B N : Int) (c : Nat) (A : Option Addr) (n cap : Nat) : List Value := [.int .u8 (what : Int), .int .i64 B, .int .i64 N, .int .u8 (c : Int), .slice A n cap]

end Go.Proofs.Ytnmfgmlmjbfdcaa
