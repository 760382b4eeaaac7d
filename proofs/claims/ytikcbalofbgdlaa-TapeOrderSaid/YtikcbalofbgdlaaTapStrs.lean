/-
  Texts of an argument; one more text on a tape that bears a text.
-/
import Derived.Test.YtikcbalofbgdlaaTapD
namespace Go.Proofs.Ytikcbalofbgdlaa
open Go.RowKit

/-- A row of texts in old memory. -/
def Strs (w : World) (A : Option Addr) (l : List ByteArray) : Prop := ∀ i (h : i < l.length), ∃ g off, A = some ⟨g, off, none⟩ ∧ g < w.heap.size ∧ w.cell? ⟨g, off + i, none⟩ = some (.string l[i])
theorem Strs.cell {W w : World} {A : Option Addr} {l : List ByteArray} (h : Strs W A l) (hb : Below W.heap.size W w) {i : Nat} (hi : i < l.length) : ∃ g off, A = some ⟨g, off, none⟩ ∧ w.cell? ⟨g, off + i, none⟩ = some (.string l[i]) := by
  obtain ⟨g, off, e, hg, hc⟩ := h i hi
  exact ⟨g, off, e, (hb.cell (p := ⟨g, off + i, none⟩) hg).trans hc⟩

theorem Strs.at_ {W : World} {A : Option Addr} {l : List ByteArray} (h : Strs W A l) {i : Nat} (hi : i < l.length) : ∃ g off t, A = some ⟨g, off, none⟩ ∧ t ∈ l ∧ Hid (∀ w, Below W.heap.size W w → w.cell? ⟨g, off + i, none⟩ = some (.string t)) := by
  obtain ⟨g, off, e, hg, hc⟩ := h i hi
  exact ⟨g, off, l[i], e, List.getElem_mem hi, Lib.hid fun w hb => (hb.cell (p := ⟨g, off + i, none⟩) hg).trans hc⟩

theorem txt_append (a b : ByteArray) : txt (a ++ b) = txt a ++ txt b := by simp [txt]
theorem size_append (a b : ByteArray) : (a ++ b).size = a.size + b.size := by
  rw [← txt_length, txt_append, List.length_append, txt_length, txt_length]
theorem txt_inj {a b : ByteArray} (h : txt a = txt b) : a = b := by
  apply ByteArray.ext
  exact Array.toList_inj.1 h
theorem txt_mk (l : List UInt8) : txt ⟨l.toArray⟩ = l := rfl
theorem txt_empty : txt ⟨#[]⟩ = [] := rfl
theorem txt_extract (a : ByteArray) (i j : Nat) : txt (a.extract i j) = ((txt a).take j).drop i := by
  unfold txt
  rw [ByteArray.data_extract, Array.toList_extract, List.extract_eq_take_drop, List.drop_take]

theorem fits_of {room base sure : Nat} {l : List UInt8} (t : ByteArray) (h : l.length + t.size ≤ room) : (⟨room, base, sure, l⟩ : ST).fits t := by
  show t.size ≤ room - l.length
  omega
theorem append_of {room base sure : Nat} {l : List UInt8} (t : ByteArray) (h : l.length + t.size ≤ room) : (⟨room, base, sure, l⟩ : ST).append t = ⟨room, base, sure, l ++ txt t⟩ := if_pos (fits_of t h)
theorem append_more {W w : World} {p : Value} {room base sure : Nat} {l : List UInt8} (h : Tape W p ⟨room, base, sure, l⟩ w) (t : ByteArray) (ht : l.length + t.size ≤ room) (hs : base + l.length + t.size ≤ 100000000) :
    Calls Try.prog 16 #[p, .string t] w fun e w' => e = .returned (.int .i64 0) ∧ Tape W p ⟨room, base, sure, l ++ txt t⟩ w' := by
  have := append_tape h t hs
  rw [if_pos (fits_of t ht), append_of t ht] at this
  exact this
end Go.Proofs.Ytikcbalofbgdlaa
