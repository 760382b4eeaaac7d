/-
  Acts of an argument; what a device reads behind a write, a sync, a power loss.
-/
import Derived.Test.YtnmfgmlmjbfdcaaBlkF
import Derived.Test.YtnmfgmlmjbfdcaaBlkT
namespace Go.Proofs.Ytnmfgmlmjbfdcaa
open Go.RowKit

/-- An act. -/
structure ActV where
  what : Nat
  B : Int
  N : Int
  c : Nat
  A : Option Addr
  n : Nat
  cap : Nat
  keep : List Nat
instance : Inhabited ActV := ⟨⟨0, 0, 0, 0, none, 0, 0, []⟩⟩
def ActV.cells (x : ActV) : List Value := actCells x.what x.B x.N x.c x.A x.n x.cap

/-- A slice of numbers of an argument. -/
structure Old (W : World) (A : Option Addr) (n : Nat) (keep : List Nat) : Prop where
  len : keep.length = n
  big : n ≤ 9223372036854775807
  nums : Nums W A keep
  old : 0 < n → ∀ g off, A = some ⟨g, off, none⟩ → g < W.heap.size
structure ActV.Ok (W : World) (x : ActV) : Prop where
  c : x.c < 256
  what : x.what < 256
  B1 : -9223372036854775808 ≤ x.B
  B2 : x.B ≤ 9223372036854775807
  keep : Old W x.A x.n x.keep
/-- A slice of acts of an argument. -/
structure Acts (W : World) (A : Option Addr) (l : List ActV) : Prop where
  ok : ∀ x ∈ l, x.Ok W
  at_ : ∀ (i : Nat) (h : i < l.length), ∃ g off, A = some ⟨g, off, none⟩ ∧ g < W.heap.size ∧ ∀ j, j < 5 → W.cell? ⟨g, off + i * 5 + j, none⟩ = (l[i].cells)[j]?
theorem Acts.cells {W w : World} {A : Option Addr} {l : List ActV} (h : Acts W A l) (hb : Below W.heap.size W w) {i : Nat} (hi : i < l.length) : ∃ g off, A = some ⟨g, off, none⟩ ∧
    w.cell? ⟨g, off + i * 5, none⟩ = some (.int .u8 (l[i].what : Int)) ∧ w.cell? ⟨g, off + i * 5 + 1, none⟩ = some (.int .i64 l[i].B) ∧ w.cell? ⟨g, off + i * 5 + 2, none⟩ = some (.int .i64 l[i].N) ∧
    w.cell? ⟨g, off + i * 5 + 3, none⟩ = some (.int .u8 (l[i].c : Int)) ∧ w.cell? ⟨g, off + i * 5 + 4, none⟩ = some (.slice l[i].A l[i].n l[i].cap) := by
  obtain ⟨g, off, hA, hg, hc⟩ := h.at_ i hi
  have key : ∀ j, j < 5 → w.cell? ⟨g, off + i * 5 + j, none⟩ = (l[i].cells)[j]? := fun j hj => (hb.cell (p := ⟨g, off + i * 5 + j, none⟩) hg).trans (hc j hj)
  exact ⟨g, off, hA, key 0 (by omega), key 1 (by omega), key 2 (by omega), key 3 (by omega), key 4 (by omega)⟩
theorem Old.crash {W w : World} {A : Option Addr} {n : Nat} {keep : List Nat} {d : DV} (h : Old W A n keep) (hs : Since W d w) (c : Nat) :
    Calls Try.prog 26 #[d.ptr, .slice A n c] w fun e w' => e = .returned (.tuple #[]) ∧ Since W (d.crashed keep) w' ∧ Only d.mine w w' :=
  crash_since hs A n c keep h.len ⟨fun i hi => by
      obtain ⟨g, off, hA, hc⟩ := h.nums.at_ i hi
      exact ⟨g, off, hA, (hs.below.cell (p := ⟨g, off + i, none⟩) (h.old (by have := h.len; omega) g off hA)).trans hc⟩, h.nums.lt⟩
    (fun h0 g off hA hm => by
      have h1 := h.old h0 g off hA
      have h2 := hs.new g hm
      omega) h.big

section
variable {d : DV} {w : World}
/-- The bytes of block b, as a text. -/
def DV.block (d : DV) (b : Nat) : ByteArray := ⟨(seg d.vis (b * d.sz) d.sz).toArray⟩
theorem read_block (d : DV) (b : Nat) (hb : b < d.nb) : d.read (b : Int) = d.block b := by
  unfold DV.read
  rw [if_pos (show chk d b = 0 from if_pos (by omega))]
  rfl
theorem chk_in (d : DV) (b : Nat) (hb : b < d.nb) : chk d (b : Int) = 0 := if_pos (by omega)
theorem block_wrote (h : d.In w) {b : Nat} (hb : b < d.nb) (s : ByteArray) (p : Value) (k : Nat) : (d.wrote b s p).block k = if k = b then ⟨(pad d.sz (txt s)).toArray⟩ else d.block k := by
  have hlen : (pad d.sz (txt s)).length = d.sz := pad_length _ _
  have hfit : b * d.sz + (pad d.sz (txt s)).length ≤ d.vis.length := by rw [hlen, h.lv]; exact block_in d.sz hb
  show (⟨(seg (splice d.vis (b * d.sz) (pad d.sz (txt s))) (k * d.sz) d.sz).toArray⟩ : ByteArray) = _
  by_cases hk : k = b
  · subst hk
    rw [if_pos rfl, seg_splice_same _ _ _ hfit hlen]
  · rw [if_neg hk, seg_splice_far _ _ _ hfit _ _ (by rw [hlen]; exact blocks_far d.sz hk)]
    rfl
theorem block_synced (d : DV) (k : Nat) : d.synced.block k = d.block k := rfl
theorem crashed_clean (d : DV) (keep : List Nat) (h : d.pend = []) (k : Nat) : (d.crashed keep).block k = ⟨(seg d.dur (k * d.sz) d.sz).toArray⟩ := by
  show (⟨(seg (keepAll d.ns d.dur d.pend keep) (k * d.sz) d.sz).toArray⟩ : ByteArray) = _
  rw [h]; rfl
theorem pad_text (n : Nat) (s : ByteArray) (h : s.size ≤ n) : (⟨(pad n (txt s)).toArray⟩ : ByteArray) = s ++ (rep 0 n).extract s.size n := by
  apply ByteArray.ext
  rw [ByteArray.data_append, ByteArray.data_extract]
  apply Array.ext'
  rw [Array.toList_append, Array.toList_extract]
  unfold pad
  rw [List.take_of_length_le (by rw [txt_length]; exact h)]
  show txt s ++ _ = txt s ++ _
  congr 1
  show _ = (List.replicate n 0).extract s.size n
  rw [List.extract_eq_take_drop, List.drop_replicate, List.take_replicate, Nat.min_self]
  rfl
theorem write_answer (h : d.In w) (b : Int) (s : ByteArray) (hb : ¬ (0 ≤ b ∧ b < d.nb ∧ s.size ≤ d.sz)) :
    ∃ m : Int, m ≠ 0 ∧ Calls Try.prog 28 #[d.ptr, .int .i64 b, .string s] w fun e w' => e = .returned (.int .i64 m) ∧ w = w' := by
  by_cases h1 : 0 ≤ b ∧ b < d.nb
  · obtain ⟨k, rfl⟩ : ∃ k : Nat, b = k := ⟨b.toNat, by omega⟩
    exact ⟨3, by omega, write_long d k s w h (by omega) (by omega)⟩
  · exact ⟨2, by omega, write_bad d b s w h h1⟩
end
end Go.Proofs.Ytnmfgmlmjbfdcaa
