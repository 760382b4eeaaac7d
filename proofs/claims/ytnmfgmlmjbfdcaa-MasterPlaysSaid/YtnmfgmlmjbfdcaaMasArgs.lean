/-
  Arguments of the statements: rows of texts, of bytes, of numbers, in old memory.
-/
import Derived.Test.YtnmfgmlmjbfdcaaMasStage
namespace Go.Proofs.Ytnmfgmlmjbfdcaa
open Go.RowKit

/-- A row of texts in old memory. -/
def Strs (w : World) (A : Option Addr) (l : List ByteArray) : Prop := ∀ i (h : i < l.length), ∃ g off, A = some ⟨g, off, none⟩ ∧ g < w.heap.size ∧ w.cell? ⟨g, off + i, none⟩ = some (.string l[i])
theorem Strs.at_ {W : World} {A : Option Addr} {l : List ByteArray} (h : Strs W A l) {i : Nat} (hi : i < l.length) : ∃ g off t, A = some ⟨g, off, none⟩ ∧ t ∈ l ∧ Hid (∀ w, Below W.heap.size W w → w.cell? ⟨g, off + i, none⟩ = some (.string t)) := by
  obtain ⟨g, off, e, hg, hc⟩ := h i hi
  exact ⟨g, off, l[i], e, List.getElem_mem hi, Lib.hid fun w hb => (hb.cell (p := ⟨g, off + i, none⟩) hg).trans hc⟩
/-- A row of bytes. -/
def Bys (w : World) (A : Option Addr) (l : List Nat) : Prop := ∀ i (h : i < l.length), ∃ g off, A = some ⟨g, off, none⟩ ∧ g < w.heap.size ∧ l[i] < 256 ∧ w.cell? ⟨g, off + i, none⟩ = some (.int .u8 (l[i] : Int))
theorem Bys.at_ {W : World} {A : Option Addr} {l : List Nat} (h : Bys W A l) {i : Nat} (hi : i < l.length) : ∃ (g off t : Nat), A = some ⟨g, off, none⟩ ∧ t < 256 ∧ Hid (∀ w, Below W.heap.size W w → w.cell? ⟨g, off + i, none⟩ = some (.int .u8 (t : Int))) := by
  obtain ⟨g, off, e, hg, ht, hc⟩ := h i hi
  exact ⟨g, off, l[i], e, ht, Lib.hid fun w hb => (hb.cell (p := ⟨g, off + i, none⟩) hg).trans hc⟩
/-- One number of a row. -/
theorem Old.one {W : World} {A : Option Addr} {n : Nat} {keep : List Nat} (h : Old W A n keep) {k : Nat} (hk : k < n) : ∃ KA, A.map (·.add k) = some KA ∧ Old W (some KA) 1 [keep[k]'(by rw [h.len]; exact hk)] := by
  have hk2 : k < keep.length := by rw [h.len]; exact hk
  obtain ⟨g, off, rfl, hc⟩ := h.nums.at_ k hk2
  have hg := h.old (by omega) g off rfl
  refine ⟨⟨g, off + k, none⟩, by simp [Addr.add_lit], rfl, by omega, ⟨fun i hi => ?_, fun m hm => ?_⟩, fun _ g' off' e => ?_⟩
  · obtain rfl : i = 0 := by simpa using hi
    exact ⟨g, off + k, rfl, hc⟩
  · rw [List.mem_singleton] at hm
    subst hm
    exact h.nums.lt _ (List.getElem_mem hk2)
  · injection e with e
    injection e with e1 e2
    exact e1 ▸ hg
theorem slice_one {P : Program} {t : TypeId} (ht : P.underlying t = some (.slice (P.elem t))) (hs : ∀ w, (sizeOf (P.elem t)).run P w = .ok 1 w) (A : Option Addr) (n c k : Nat) (h2 : k + 1 ≤ c) (w : World) :
    (Instr.slice t (.slice A n c) (some (.int .i64 (k : Int))) (some (.int .i64 ((k : Int) + 1))) none).run P w = .ok (.slice (A.map (·.add k)) 1 (c - k)) w := by
  rw [run_slice_lh (w := w) t _ n c ht .i64 .i64 (k : Int) ((k : Int) + 1) (by omega) (by omega) (by omega), hs]
  simp only [Result.andThen, sliced, Nat.mul_one, Int.toNat_natCast, if_neg (show ¬ c = k by omega)]
  congr 2
  omega
end Go.Proofs.Ytnmfgmlmjbfdcaa
