/-
  Records as they lie; what is asked of a package that writes and reads them, over texts of so many bytes.
-/
import Derived.Test.YtlhcacancnmhcaaDoorRecTurn
import Derived.Test.YtlhcacancnmhcaaDoorRecRef
namespace Go.Proofs.YtlhcacancnmhcaaDoor
open Go.RowKit

/-- Bytes as a text. -/
def tb (l : List UInt8) : ByteArray := ⟨l.toArray⟩
theorem tb_size (l : List UInt8) : (tb l).size = l.length := by simp [tb, ByteArray.size]
theorem tb_list (l : List UInt8) : (tb l).data.toList = l := by simp [tb]
theorem tb_app (a b : List UInt8) : tb a ++ tb b = tb (a ++ b) := by
  apply ByteArray.ext
  rw [ByteArray.data_append]
  simp [tb]
theorem tb_of (s : ByteArray) : tb s.data.toList = s := by cases s; simp [tb]
theorem tb_inj {a b : List UInt8} (h : tb a = tb b) : a = b := by rw [← tb_list a, ← tb_list b, h]
theorem tb_cut (l : List UInt8) (i j : Nat) : (tb l).extract i j = tb ((l.take j).drop i) := by
  apply ByteArray.ext
  rw [ByteArray.data_extract]
  apply Array.ext'
  simp [tb, List.drop_take]

/-- A record as a value, and as cells. -/
def recV (r : Rec) : Value := .agg #[.int .u8 (r.k.toNat : Int), .string (tb r.d)]
def recC (r : Rec) : List Value := [.int .u8 (r.k.toNat : Int), .string (tb r.d)]
theorem recV_inj {r s : Rec} (h : recC r = recC s) : r = s := by
  cases r with | mk a b =>
  cases s with | mk c d =>
  unfold recC at h
  simp only [List.cons.injEq, Value.int.injEq, Value.string.injEq, and_true, true_and] at h
  rw [tb_inj h.2, UInt8.toNat.inj (by omega : a.toNat = c.toNat)]

/-- A row of records. -/
structure Recs (w : World) (A : Option Addr) (l : List Rec) : Prop where
  at_ : ∀ (i : Nat) (h : i < l.length), ∃ g off, A = some ⟨g, off, none⟩ ∧ g < w.heap.size ∧ w.cell? ⟨g, off + i * 2, none⟩ = some (.int .u8 (l[i].k.toNat : Int)) ∧ w.cell? ⟨g, off + i * 2 + 1, none⟩ = some (.string (tb l[i].d))
theorem Recs.keeps {W w : World} {A : Option Addr} {l : List Rec} (h : Recs W A l) (hb : Below W.heap.size W w) : Recs w A l := ⟨fun i hi => by
  obtain ⟨g, off, hA, hg, h1, h2⟩ := h.at_ i hi
  exact ⟨g, off, hA, Nat.lt_of_lt_of_le hg hb.size, (hb.cell (p := ⟨g, off + i * 2, none⟩) hg).trans h1, (hb.cell (p := ⟨g, off + i * 2 + 1, none⟩) hg).trans h2⟩⟩
theorem Recs.nil {w : World} {A : Option Addr} : Recs w A [] := ⟨fun _ h => absurd h (Nat.not_lt_zero _)⟩
theorem Recs.take {w : World} {A : Option Addr} {l : List Rec} (h : Recs w A l) (n : Nat) : Recs w A (l.take n) := ⟨fun i hi => by
  rw [List.length_take] at hi
  obtain ⟨g, off, h1⟩ := h.at_ i (by omega)
  refine ⟨g, off, ?_⟩
  rw [List.getElem_take]
  exact h1⟩
theorem Recs.drop {w : World} {A : Option Addr} {l : List Rec} (h : Recs w A l) (n cap : Nat) (hc : l.length ≤ cap) : Recs w (if cap = n then A else A.map (·.add (n * 2))) (l.drop n) := ⟨fun i hi => by
  rw [List.length_drop] at hi
  obtain ⟨g, off, rfl, hg, h1, h2⟩ := h.at_ (n + i) (by omega)
  rw [if_neg (by omega)]
  refine ⟨g, off + n * 2, by simp [Addr.add_lit], hg, ?_, ?_⟩
  · rw [List.getElem_drop, show off + n * 2 + i * 2 = off + (n + i) * 2 by omega]; exact h1
  · rw [List.getElem_drop, show off + n * 2 + i * 2 + 1 = off + (n + i) * 2 + 1 by omega]; exact h2⟩

/-- What a scan gives back: records in a row, how many bytes, what the rest is. -/
def ScanV (w : World) (l : List Rec) (n x : Nat) (e : Ending) (w' : World) : Prop :=
  ∃ A c, e = .returned (.tuple #[.slice A l.length c, .int .i64 (n : Int), .int .u8 (x : Int)]) ∧ l.length ≤ c ∧ (A = none → c = 0) ∧ Recs w' A l ∧ Below w.heap.size w w'
end Go.Proofs.YtlhcacancnmhcaaDoor
