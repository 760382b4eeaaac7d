/-
  A device's two first blocks, and what a master makes of them: plain facts about the landed device's bytes. No program is run here.
-/
import Derived.Test.YtnmfgmlmjbfdcaaMasMix
import Derived.Test.YtnmfgmlmjbfdcaaBlkPMath
namespace Go.Proofs.Ytnmfgmlmjbfdcaa
open Go.RowKit

namespace DV
/-- A block's bytes. -/
abbrev bl (d : DV) (i : Nat) : List UInt8 := blkOf d.vis d.ns i
/-- The greatest stamp of the two. -/
def top (d : DV) : Nat := max (topP (d.bl 0)) (topP (d.bl 1))
def opened (d : DV) : MS := MS.opened (d.bl 0) (d.bl 1)
/-- The error of Put. -/
def putE (d : DV) (m : MS) (s : List UInt8) : Nat := if m.way = true then 9 else if d.ns * 56 < s.length + 4 then 3 else if 9223372036854775808 ≤ d.top then 6 else 0
def putB (d : DV) (s : List UInt8) : List UInt8 := packed (d.top + 1) s d.ns
end DV
def MS.put (m : MS) (s : List UInt8) : MS := { m with way := true, next := s }
def MS.sync (m : MS) (top : Nat) : MS := ⟨1 - m.at_, top, m.next, false, []⟩

section
variable {d : DV} {w : World}
theorem bl_length (h : d.In w) {i : Nat} (hi : i < d.nb) : (d.bl i).length = d.ns * 64 := seg_length _ _ _ (by rw [h.lv]; exact block_in (d.ns * 64) hi)
theorem bl_wrote (h : d.In w) {b : Nat} (hb : b < d.nb) (s : ByteArray) (p : Value) (hs : s.size = d.ns * 64) (k : Nat) : (d.wrote b s p).bl k = if k = b then txt s else d.bl k := by
  have hlen : (pad d.sz (txt s)).length = d.sz := pad_length _ _
  have hfit : b * d.sz + (pad d.sz (txt s)).length ≤ d.vis.length := by rw [hlen, h.lv]; exact block_in d.sz hb
  show seg (splice d.vis (b * d.sz) (pad d.sz (txt s))) (k * d.sz) d.sz = _
  by_cases hk : k = b
  · subst hk
    rw [if_pos rfl, seg_splice_same _ _ _ hfit hlen]
    exact pad_full _ _ (by rw [txt_length]; exact hs)
  · rw [if_neg hk, seg_splice_far _ _ _ hfit _ _ (by rw [hlen]; exact blocks_far d.sz hk)]
theorem bl_synced (k : Nat) : d.synced.bl k = d.bl k := rfl
theorem top_synced : d.synced.top = d.top := rfl
theorem opened_synced : d.synced.opened = d.opened := rfl
theorem top_lt : d.top < 18446744073709551616 := by
  unfold DV.top
  have := topP_lt (d.bl 0)
  have := topP_lt (d.bl 1)
  omega
theorem opened_at : d.opened.at_ ≤ 1 := best_at _ _
theorem opened_top : d.opened.v ≤ d.top := best_top _ _
theorem putB_length (s : List UInt8) : (d.putB s).length = d.ns * 64 := packed_length _ _ _
theorem putE_ok {m : MS} {s : List UInt8} (h : d.putE m s = 0) : m.way = false ∧ s.length + 4 ≤ d.ns * 56 ∧ d.top < 9223372036854775808 := by
  unfold DV.putE at h
  split at h
  · cases h
  · split at h
    · cases h
    · split at h
      · cases h
      · rename_i h1 h2 h3
        exact ⟨by simpa using h1, by omega, by omega⟩
theorem put_fits (h : d.In w) {m : MS} {s : List UInt8} (hp : d.putE m s = 0) : Fits (d.top + 1) s d.ns := by
  obtain ⟨-, h2, h3⟩ := putE_ok hp
  exact ⟨h.ns1, h.ns2, by omega, by omega, h2⟩
/-- The top behind a Put. -/
theorem top_wrote (h : d.In w) (hn : 2 ≤ d.nb) {m : MS} {s : List UInt8} (hp : d.putE m s = 0) {b : Nat} (hb : b ≤ 1) (p : Value) : (d.wrote b (tb (d.putB s)) p).top = d.top + 1 := by
  have hsz : (tb (d.putB s)).size = d.ns * 64 := by rw [tb_size, putB_length]
  have ht : topP (d.putB s) = d.top + 1 := top_packed (put_fits h hp)
  have e := bl_wrote h (show b < d.nb by omega) (tb (d.putB s)) p hsz
  have e0 := e 0
  have e1 := e 1
  rw [show txt (tb (d.putB s)) = d.putB s from tb_list _] at e0 e1
  unfold DV.top at ht ⊢
  rw [e0, e1]
  rcases (show b = 0 ∨ b = 1 by omega) with rfl | rfl
  · rw [if_pos rfl, if_neg (by decide), ht]; omega
  · rw [if_neg (by decide), if_pos rfl, ht]; omega
end
end Go.Proofs.Ytnmfgmlmjbfdcaa
