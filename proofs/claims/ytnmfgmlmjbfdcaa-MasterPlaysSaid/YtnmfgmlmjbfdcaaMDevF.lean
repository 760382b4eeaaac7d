/-
  The document's device in plain words: rows of sectors; what it has to do with the landed one.
-/
import Derived.Test.YtnmfgmlmjbfdcaaMBlkEF
import Derived.Test.YtnmfgmlmjbfdcaaMPlainM
namespace Go.Proofs.Ytnmfgmlmjbfdcaa
open Go.RowKit

theorem txt_inj {a b : ByteArray} (h : txt a = txt b) : a = b := by
  apply ByteArray.ext
  exact Array.toList_inj.1 h
theorem txt_append (a b : ByteArray) : txt (a ++ b) = txt a ++ txt b := by simp [txt]
theorem txt_mk (l : List UInt8) : txt ⟨l.toArray⟩ = l := rfl

/-- Bytes as sectors. -/
def secs (ns : Nat) (L : List UInt8) : List ByteArray := (List.range ns).map fun k => ⟨(seg L (k * 64) 64).toArray⟩
theorem secs_length (ns : Nat) (L : List UInt8) : (secs ns L).length = ns := by simp [secs]
theorem secs_get (ns : Nat) (L : List UInt8) (k : Nat) (h : k < ns) : (secs ns L)[k]'(by rw [secs_length]; exact h) = ⟨(seg L (k * 64) 64).toArray⟩ := by simp [secs]
theorem secs_take (ns : Nat) (L : List UInt8) (k : Nat) (h : k ≤ ns) : (secs ns L).take k = secs k L := by
  unfold secs
  rw [← List.map_take, List.take_range, Nat.min_eq_left h]
theorem secs_succ (L : List UInt8) (k : Nat) : secs (k + 1) L = secs k L ++ [⟨(seg L (k * 64) 64).toArray⟩] := by
  unfold secs
  rw [List.range_succ, List.map_append]; rfl
/-- Texts one behind the other. -/
def glue (l : List ByteArray) : ByteArray := l.foldl (· ++ ·) ⟨#[]⟩
theorem glue_snoc (l : List ByteArray) (x : ByteArray) : glue (l ++ [x]) = glue l ++ x := by simp [glue]
theorem glue_secs (L : List UInt8) : ∀ k, k * 64 ≤ L.length → glue (secs k L) = ⟨(L.take (k * 64)).toArray⟩
  | 0, _ => by simp [secs, glue]
  | k + 1, h => by
    rw [secs_succ, glue_snoc, glue_secs L k (by omega)]
    apply txt_inj
    rw [txt_append, txt_mk, txt_mk, txt_mk]
    unfold seg
    rw [show (k + 1) * 64 = k * 64 + 64 by omega, List.take_add]

/-- The document's device. -/
structure RS where
  ns : Nat
  sure : List (List UInt8)
  opens : List (Nat × List UInt8)
/-- The last open write of a block, or what is sure. -/
def lastOf (b : Nat) (a : List UInt8) (l : List (Nat × List UInt8)) : List UInt8 := l.foldl (fun a o => if o.1 = b then o.2 else a) a
theorem lastOf_snoc (b : Nat) (a : List UInt8) (l : List (Nat × List UInt8)) (o : Nat × List UInt8) : lastOf b a (l ++ [o]) = if o.1 = b then o.2 else lastOf b a l := by simp [lastOf]
def setAll (l : List (Nat × List UInt8)) (S : List (List UInt8)) : List (List UInt8) := l.foldl (fun S o => S.set o.1 o.2) S
theorem setAll_length (l : List (Nat × List UInt8)) : ∀ S, (setAll l S).length = S.length := by
  induction l with
  | nil => intro S; rfl
  | cons o l ih => intro S; show (setAll l (S.set o.1 o.2)).length = _; rw [ih, List.length_set]
theorem setAll_snoc (l : List (Nat × List UInt8)) (o : Nat × List UInt8) (S : List (List UInt8)) : setAll (l ++ [o]) S = (setAll l S).set o.1 o.2 := by simp [setAll]
theorem setAll_get : ∀ (l : List (Nat × List UInt8)) (S : List (List UInt8)) (b : Nat), b < S.length → (setAll l S)[b]? = some (lastOf b (S.getD b []) l)
  | [], S, b, h => by simp [setAll, lastOf, List.getElem?_eq_getElem h]
  | o :: l, S, b, h => by
    show (setAll l (S.set o.1 o.2))[b]? = some (lastOf b (if o.1 = b then o.2 else S.getD b []) l)
    rw [setAll_get l (S.set o.1 o.2) b (by simpa using h)]
    congr 2
    by_cases e : o.1 = b
    · subst e; simp [h]
    · simp [e]
/-- A block of which some sectors are the one's, some the other's. -/
def mix (ns m : Nat) (A B : List UInt8) : List UInt8 := ((List.range ns).map fun k => if m / 2 ^ (k % 64) % 2 = 1 then seg A (k * 64) 64 else seg B (k * 64) 64).flatten
theorem mix_succ (k m : Nat) (A B : List UInt8) : mix (k + 1) m A B = mix k m A B ++ (if m / 2 ^ (k % 64) % 2 = 1 then seg A (k * 64) 64 else seg B (k * 64) 64) := by
  unfold mix
  rw [List.range_succ, List.map_append, List.flatten_append]; simp
theorem seg_last (A Z : List UInt8) (o n : Nat) (h1 : A.length = o) (h2 : Z.length = n) : seg (A ++ Z) o n = Z := by
  subst h1 h2
  unfold seg
  rw [List.drop_left, List.take_length]
theorem mix_spec (ns m : Nat) (A B : List UInt8) (hA : A.length = ns * 64) (hB : B.length = ns * 64) : ∀ j, j ≤ ns → (mix j m A B).length = j * 64 ∧ ∀ k, k < j → seg (mix j m A B) (k * 64) 64 = if m / 2 ^ (k % 64) % 2 = 1 then seg A (k * 64) 64 else seg B (k * 64) 64
  | 0, _ => ⟨by simp [mix], fun k hk => by omega⟩
  | j + 1, hj => by
    obtain ⟨h1, h2⟩ := mix_spec ns m A B hA hB j (by omega)
    have hl : (if m / 2 ^ (j % 64) % 2 = 1 then seg A (j * 64) 64 else seg B (j * 64) 64).length = 64 := by
      split
      · exact seg_length _ _ _ (by omega)
      · exact seg_length _ _ _ (by omega)
    rw [mix_succ]
    refine ⟨by rw [List.length_append, h1, hl]; omega, fun k hk => ?_⟩
    by_cases e : k = j
    · subst e
      exact seg_last _ _ _ _ h1 hl
    · rw [← h2 k (by omega)]
      unfold seg
      rw [List.drop_append_of_le_length (by rw [h1]; omega), List.take_append_of_le_length (by rw [List.length_drop, h1]; omega)]
theorem mix_secs (ns m : Nat) (A B : List UInt8) (hA : A.length = ns * 64) (hB : B.length = ns * 64) (j : Nat) (hj : j ≤ ns) : secs j (mix ns m A B) = (List.range j).map fun k => if m / 2 ^ (k % 64) % 2 = 1 then ⟨(seg A (k * 64) 64).toArray⟩ else ⟨(seg B (k * 64) 64).toArray⟩ := by
  unfold secs
  apply List.map_congr_left
  intro k hk
  rw [(mix_spec ns m A B hA hB ns (Nat.le_refl _)).2 k (by have := List.mem_range.1 hk; omega)]
  split <;> rfl
theorem mix_zero (ns : Nat) (A B : List UInt8) (hA : A.length = ns * 64) (hB : B.length = ns * 64) : mix ns 0 A B = B := by
  obtain ⟨h1, h2⟩ := mix_spec ns 0 A B hA hB ns (Nat.le_refl _)
  refine eq_of_segs ns 64 h1 hB fun k hk => ?_
  rw [h2 k hk, if_neg (by simp)]
def crashOne (ns : Nat) (S : List (List UInt8)) (o : Nat × List UInt8) (m : Nat) : List (List UInt8) := S.set o.1 (mix ns m o.2 (S.getD o.1 []))
/-- All open writes, at a power loss. -/
def crashAll (ns : Nat) : List (List UInt8) → List (Nat × List UInt8) → List Nat → List (List UInt8)
  | S, [], _ => S
  | S, o :: r, ks => crashAll ns (crashOne ns S o (ks.headD 0)) r ks.tail

/-- The landed device's block b. -/
abbrev blkOf (dur : List UInt8) (ns b : Nat) : List UInt8 := seg dur (b * (ns * 64)) (ns * 64)
def opensOf (ns : Nat) (pend : List (Nat × ByteArray)) : List (Nat × List UInt8) := pend.map fun q => (q.1, pad (ns * 64) (txt q.2))

structure RelD (d : DV) (R : RS) : Prop where
  ns : R.ns = d.ns
  nb : R.sure.length = d.nb
  opens : R.opens = opensOf d.ns d.pend
  sure : ∀ b, b < d.nb → R.sure.getD b [] = blkOf d.dur d.ns b
  vis : ∀ b, b < d.nb → lastOf b (R.sure.getD b []) R.opens = blkOf d.vis d.ns b

section
variable {d : DV} {R : RS} {w : World}
theorem RelD.wrote (h : RelD d R) (hi : d.In w) (b : Nat) (s : ByteArray) (p : Value) (hb : b < d.nb) : RelD (d.wrote b s p) { R with opens := R.opens ++ [(b, pad (d.ns * 64) (txt s))] } := by
  refine ⟨h.ns, h.nb, ?_, h.sure, fun k hk => ?_⟩
  · show R.opens ++ _ = opensOf d.ns (d.pend ++ [(b, s)])
    rw [h.opens]; simp [opensOf]
  · show lastOf k (R.sure.getD k []) (R.opens ++ [(b, pad (d.ns * 64) (txt s))]) = seg (splice d.vis (b * (d.ns * 64)) (pad (d.ns * 64) (txt s))) (k * (d.ns * 64)) (d.ns * 64)
    have hfit : b * (d.ns * 64) + (pad (d.ns * 64) (txt s)).length ≤ d.vis.length := by rw [pad_length, hi.lv]; exact block_in d.sz hb
    rw [lastOf_snoc]
    by_cases e : b = k
    · subst e
      rw [if_pos rfl, seg_splice_same _ _ _ hfit (pad_length _ _)]
    · rw [if_neg e, h.vis k hk, seg_splice_far _ _ _ hfit _ _ (by rw [pad_length]; exact blocks_far (d.ns * 64) (fun e' => e e'.symm))]
theorem RelD.synced (h : RelD d R) : RelD d.synced { R with sure := setAll R.opens R.sure, opens := [] } := by
  have key : ∀ b, b < d.nb → (setAll R.opens R.sure).getD b [] = blkOf d.vis d.ns b := fun b hb => by
    rw [List.getD_eq_getElem?_getD, setAll_get _ _ _ (by rw [h.nb]; exact hb)]
    exact h.vis b hb
  refine ⟨h.ns, ?_, rfl, key, key⟩
  show (setAll R.opens R.sure).length = d.nb
  rw [setAll_length]; exact h.nb
theorem blkOf_sec (dur : List UInt8) (ns b k : Nat) (hk : k < ns) : seg (blkOf dur ns b) (k * 64) 64 = seg dur (b * (ns * 64) + k * 64) 64 := seg_seg _ _ _ _ _ (by omega)
theorem keepAll_nil (ns : Nat) (dur : List UInt8) (pend : List (Nat × ByteArray)) : keepAll ns dur pend [] = dur := by cases pend <;> rfl
theorem crashOne_rel {ns nb m : Nat} {S : List (List UInt8)} {dur : List UInt8} {p : Nat × ByteArray} (hS : ∀ b, b < nb → S.getD b [] = blkOf dur ns b) (hl : S.length = nb) (hd : dur.length = nb * (ns * 64)) (hp : p.1 < nb) (b : Nat) (hb : b < nb) :
    (crashOne ns S (p.1, pad (ns * 64) (txt p.2)) m).getD b [] = blkOf (keepOne ns dur p m) ns b := by
  have hA : (pad (ns * 64) (txt p.2)).length = ns * 64 := pad_length _ _
  have hBl : (blkOf dur ns p.1).length = ns * 64 := seg_length _ _ _ (by rw [hd]; exact block_in (ns * 64) hp)
  have hk := (keepOne_length (ns := ns) (m := m) hp hd)
  unfold crashOne
  rw [List.getD_eq_getElem?_getD]
  by_cases e : p.1 = b
  · subst e
    rw [List.getElem?_set_self (by rw [hl]; exact hp), Option.getD_some]
    show mix ns m (pad (ns * 64) (txt p.2)) (S.getD p.1 []) = _
    rw [hS p.1 hp]
    obtain ⟨h1, h2⟩ := mix_spec ns m (pad (ns * 64) (txt p.2)) (blkOf dur ns p.1) hA hBl ns (Nat.le_refl _)
    refine eq_of_segs ns 64 h1 (seg_length _ _ _ (by rw [hk]; exact block_in (ns * 64) hp)) fun k hk2 => ?_
    rw [h2 k hk2, blkOf_sec (keepOne ns dur p m) _ _ _ hk2, keepOne_seg hp hd p.1 k hk2]
    by_cases hm : m / 2 ^ (k % 64) % 2 = 1
    · rw [if_pos hm, if_pos ⟨rfl, hm⟩, seg_pad _ _ _ _ (by omega)]
    · rw [if_neg hm, if_neg (fun x => hm x.2), blkOf_sec _ _ _ _ hk2]
  · rw [List.getElem?_set_ne e, ← List.getD_eq_getElem?_getD, hS b hb]
    refine (eq_of_secs b fun k hk2 => ?_).symm
    rw [keepOne_seg hp hd b k hk2, if_neg (fun x => e x.1.symm)]
theorem crashAll_rel {ns nb : Nat} : ∀ (pend : List (Nat × ByteArray)) (keep : List Nat) (dur : List UInt8) (S : List (List UInt8)), (∀ b, b < nb → S.getD b [] = blkOf dur ns b) → S.length = nb → dur.length = nb * (ns * 64) → (∀ q ∈ pend, q.1 < nb) →
    (crashAll ns S (opensOf ns pend) keep).length = nb ∧ ∀ b, b < nb → (crashAll ns S (opensOf ns pend) keep).getD b [] = blkOf (keepAll ns dur pend keep) ns b
  | [], keep, dur, S, hS, hl, _, _ => ⟨hl, fun b hb => by rw [show keepAll ns dur [] keep = dur from rfl]; exact hS b hb⟩
  | p :: r, [], dur, S, hS, hl, hd, hp => by
    have hpp := hp p (by simp)
    have h1 : ∀ b, b < nb → (crashOne ns S (p.1, pad (ns * 64) (txt p.2)) 0).getD b [] = blkOf dur ns b := fun b hb => by
      unfold crashOne
      rw [List.getD_eq_getElem?_getD]
      by_cases e : p.1 = b
      · subst e
        rw [List.getElem?_set_self (by rw [hl]; exact hpp), Option.getD_some]
        show mix ns 0 (pad (ns * 64) (txt p.2)) (S.getD p.1 []) = _
        rw [hS p.1 hpp, mix_zero ns _ _ (pad_length _ _) (seg_length _ _ _ (by rw [hd]; exact block_in (ns * 64) hpp))]
      · rw [List.getElem?_set_ne e, ← List.getD_eq_getElem?_getD, hS b hb]
    have := crashAll_rel r [] dur (crashOne ns S (p.1, pad (ns * 64) (txt p.2)) 0) h1 (by unfold crashOne; rw [List.length_set]; exact hl) hd (fun q hq => hp q (by simp [hq]))
    rw [keepAll_nil] at this ⊢
    exact this
  | p :: r, m :: ks, dur, S, hS, hl, hd, hp => by
    have hpp := hp p (by simp)
    have := crashAll_rel r ks (keepOne ns dur p m) (crashOne ns S (p.1, pad (ns * 64) (txt p.2)) m) (fun b hb => crashOne_rel hS hl hd hpp b hb) (by unfold crashOne; rw [List.length_set]; exact hl) (keepOne_length hpp hd) (fun q hq => hp q (by simp [hq]))
    rw [keepAll_cons]
    exact this
theorem RelD.crashed (h : RelD d R) (hi : d.In w) (keep : List Nat) : RelD (d.crashed keep) { R with sure := crashAll R.ns R.sure R.opens keep, opens := [] } := by
  have key := crashAll_rel d.pend keep d.dur R.sure h.sure h.nb hi.ld (fun q hq => (hi.fits q hq).1)
  rw [← h.opens, ← h.ns] at key
  rw [h.ns] at key
  refine ⟨h.ns, ?_, rfl, ?_, ?_⟩
  · show (crashAll R.ns R.sure R.opens keep).length = d.nb; rw [h.ns]; exact key.1
  · intro b hb; show (crashAll R.ns R.sure R.opens keep).getD b [] = _; rw [h.ns]; exact key.2 b hb
  · intro b hb; show (crashAll R.ns R.sure R.opens keep).getD b [] = _; rw [h.ns]; exact key.2 b hb
/-- What is read of a block. -/
theorem RelD.read (h : RelD d R) (b : Nat) (hb : b < d.nb) : d.read (b : Int) = ⟨(lastOf b (R.sure.getD b []) R.opens).toArray⟩ := by
  rw [h.vis b hb]
  exact read_block d b hb
end
theorem rel_new {d : DV} (hv : d.vis = List.replicate (d.nb * (d.ns * 64)) 0) (hu : d.dur = List.replicate (d.nb * (d.ns * 64)) 0) (hp : d.pend = []) : RelD d ⟨d.ns, List.replicate d.nb (List.replicate (d.ns * 64) 0), []⟩ := by
  have key : ∀ b, b < d.nb → (List.replicate d.nb (List.replicate (d.ns * 64) (0 : UInt8))).getD b [] = seg (List.replicate (d.nb * (d.ns * 64)) 0) (b * (d.ns * 64)) (d.ns * 64) := fun b hb => by
    have := block_in (d.ns * 64) hb
    rw [List.getD_eq_getElem?_getD, List.getElem?_replicate, if_pos hb, Option.getD_some]
    unfold seg
    rw [List.drop_replicate, List.take_replicate]
    congr 1; omega
  refine ⟨rfl, by simp, by rw [hp]; rfl, fun b hb => ?_, fun b hb => ?_⟩
  · rw [hu]; exact key b hb
  · rw [hv]; exact key b hb
end Go.Proofs.Ytnmfgmlmjbfdcaa

/-
  A device's two first blocks, and what a master makes of them: plain facts about the landed device's bytes. No program is run here.
-/
namespace Go.Proofs.Ytnmfgmlmjbfdcaa
open Go.RowKit

namespace DV
/-- A block's bytes. -/
abbrev bl (d : DV) (i : Nat) : List UInt8 := blkOf d.vis d.ns i
/-- The greatest stamp of the two. -/
def top (d : DV) : Nat := max (topP (d.bl 0)) (topP (d.bl 1))
def opened (d : DV) : MS := MS.opened (d.bl 0) (d.bl 1)
/-- The error of Put. -/
def putE (d : DV) (m : MS) (s : List UInt8) : Nat := if m.way = true then 9 else if d.ns * 56 < s.length + 4 then 3 else if 9223372036854775808 ≤ d.top then 6 else 0
def putB (d : DV) (s : List UInt8) : List UInt8 := packed (d.top + 1) s d.ns
end DV
def MS.put (m : MS) (s : List UInt8) : MS := { m with way := true, next := s }
def MS.sync (m : MS) (top : Nat) : MS := ⟨1 - m.at_, top, m.next, false, []⟩

section
variable {d : DV} {w : World}
theorem bl_length (h : d.In w) {i : Nat} (hi : i < d.nb) : (d.bl i).length = d.ns * 64 := seg_length _ _ _ (by rw [h.lv]; exact block_in (d.ns * 64) hi)
theorem bl_wrote (h : d.In w) {b : Nat} (hb : b < d.nb) (s : ByteArray) (p : Value) (hs : s.size = d.ns * 64) (k : Nat) : (d.wrote b s p).bl k = if k = b then txt s else d.bl k := by
  have hlen : (pad d.sz (txt s)).length = d.sz := pad_length _ _
  have hfit : b * d.sz + (pad d.sz (txt s)).length ≤ d.vis.length := by rw [hlen, h.lv]; exact block_in d.sz hb
  show seg (splice d.vis (b * d.sz) (pad d.sz (txt s))) (k * d.sz) d.sz = _
  by_cases hk : k = b
  · subst hk
    rw [if_pos rfl, seg_splice_same _ _ _ hfit hlen]
    exact pad_full _ _ (by rw [txt_length]; exact hs)
  · rw [if_neg hk, seg_splice_far _ _ _ hfit _ _ (by rw [hlen]; exact blocks_far d.sz hk)]
theorem bl_synced (k : Nat) : d.synced.bl k = d.bl k := rfl
theorem top_synced : d.synced.top = d.top := rfl
theorem opened_synced : d.synced.opened = d.opened := rfl
theorem top_lt : d.top < 18446744073709551616 := by
  unfold DV.top
  have := topP_lt (d.bl 0)
  have := topP_lt (d.bl 1)
  omega
theorem opened_at : d.opened.at_ ≤ 1 := best_at _ _
theorem opened_top : d.opened.v ≤ d.top := best_top _ _
theorem putB_length (s : List UInt8) : (d.putB s).length = d.ns * 64 := packed_length _ _ _
theorem putE_ok {m : MS} {s : List UInt8} (h : d.putE m s = 0) : m.way = false ∧ s.length + 4 ≤ d.ns * 56 ∧ d.top < 9223372036854775808 := by
  unfold DV.putE at h
  split at h
  · cases h
  · split at h
    · cases h
    · split at h
      · cases h
      · rename_i h1 h2 h3
        exact ⟨by simpa using h1, by omega, by omega⟩
theorem put_fits (h : d.In w) {m : MS} {s : List UInt8} (hp : d.putE m s = 0) : Fits (d.top + 1) s d.ns := by
  obtain ⟨-, h2, h3⟩ := putE_ok hp
  exact ⟨h.ns1, h.ns2, by omega, by omega, h2⟩
/-- The top behind a Put. -/
theorem top_wrote (h : d.In w) (hn : 2 ≤ d.nb) {m : MS} {s : List UInt8} (hp : d.putE m s = 0) {b : Nat} (hb : b ≤ 1) (p : Value) : (d.wrote b (tb (d.putB s)) p).top = d.top + 1 := by
  have hsz : (tb (d.putB s)).size = d.ns * 64 := by rw [tb_size, putB_length]
  have ht : topP (d.putB s) = d.top + 1 := top_packed (put_fits h hp)
  have e := bl_wrote h (show b < d.nb by omega) (tb (d.putB s)) p hsz
  have e0 := e 0
  have e1 := e 1
  rw [show txt (tb (d.putB s)) = d.putB s from tb_list _] at e0 e1
  unfold DV.top at ht ⊢
  rw [e0, e1]
  rcases (show b = 0 ∨ b = 1 by omega) with rfl | rfl
  · rw [if_pos rfl, if_neg (by decide), ht]; omega
  · rw [if_neg (by decide), if_pos rfl, ht]; omega
end
end Go.Proofs.Ytnmfgmlmjbfdcaa

/-
  What a device holds behind a Put, a Sync, a power loss: in plain words. No program is run here.
-/
namespace Go.Proofs.Ytnmfgmlmjbfdcaa
open Go.RowKit

/-- The new text laid over the block that does not count. -/
theorem best_put {k : Nat} {s b0 b1 P : List UInt8} (hf : Fits (max (topP b0) (topP b1) + 1) s k) (hP : P = packed (max (topP b0) (topP b1) + 1) s k) :
    (if (best b0 b1).at_ = 0 then best b0 P else best P b1) = ⟨1 - (best b0 b1).at_, max (topP b0) (topP b1) + 1, s⟩ := by
  have hba := best_at b0 b1
  have hPu : unpackP P = some (max (topP b0) (topP b1) + 1, s) := by rw [hP]; exact unpack_packed hf
  rcases (show (best b0 b1).at_ = 0 ∨ (best b0 b1).at_ = 1 by omega) with ha | ha
  · rw [ha, if_pos rfl]
    have hlt : (Held.none.look 0 b0).v < max (topP b0) (topP b1) + 1 := by
      have h2 := best_top b0 []
      have h3 : best b0 [] = Held.none.look 0 b0 := by
        unfold best
        exact look_none rfl
      rw [h3] at h2
      have h4 : topP ([] : List UInt8) = 0 := rfl
      omega
    unfold best
    rw [look_some hPu, if_pos hlt]
  · rw [ha, if_neg (by decide)]
    unfold best
    rw [look_some hPu, if_pos (by show 0 < _; omega)]
    cases hu : unpackP b1 with
    | none => rw [look_none hu]
    | some q =>
      obtain ⟨v, t⟩ := q
      have := (unpack_top hu).1
      rw [look_some hu, if_neg (by show ¬ (_ + 1) < v; omega)]

section
variable {d : DV} {w : World} {m : MS} {s : List UInt8}
theorem opened_of (e : DV) (b0 b1 : List UInt8) (h0 : e.bl 0 = b0) (h1 : e.bl 1 = b1) : e.opened = MS.opened b0 b1 := by unfold DV.opened; rw [h0, h1]
theorem putB_txt (d : DV) (s : List UInt8) : txt (tb (d.putB s)) = d.putB s := tb_list _
theorem putB_size (d : DV) (s : List UInt8) : (tb (d.putB s)).size = d.ns * 64 := by rw [tb_size, putB_length]
/-- Opened behind a Put: the new text. -/
theorem opened_wrote (h : d.In w) (hn : 2 ≤ d.nb) (hp : d.putE m s = 0) (p : Value) : (d.wrote (1 - d.opened.at_) (tb (d.putB s)) p).opened = ⟨1 - d.opened.at_, d.top + 1, s, false, []⟩ := by
  have hat : d.opened.at_ ≤ 1 := opened_at
  have hb := bl_wrote h (show 1 - d.opened.at_ < d.nb by omega) (tb (d.putB s)) p (putB_size d s)
  rw [putB_txt] at hb
  have key := best_put (k := d.ns) (s := s) (b0 := d.bl 0) (b1 := d.bl 1) (put_fits h hp) (P := d.putB s) rfl
  have e0 := hb 0
  have e1 := hb 1
  have ha : d.opened.at_ = (best (d.bl 0) (d.bl 1)).at_ := rfl
  rw [← ha] at key
  rw [opened_of _ _ _ e0 e1]
  unfold MS.opened
  rcases (show d.opened.at_ = 0 ∨ d.opened.at_ = 1 by omega) with h0 | h0
  · rw [h0] at key ⊢
    rw [if_pos rfl] at key
    rw [if_neg (by decide), if_pos rfl, key]
    rfl
  · rw [h0] at key ⊢
    rw [if_neg (by decide)] at key
    rw [if_pos rfl, if_neg (by decide), key]
    rfl
/-- Nothing is open, and nothing is to be lost. -/
def Calm (d : DV) : Prop := d.pend = [] ∧ d.vis = d.dur
theorem crash_calm (keep : List Nat) : Calm (d.crashed keep) := ⟨rfl, rfl⟩
theorem crash_same (h : Calm d) (keep : List Nat) : (d.crashed keep).vis = d.vis := by
  show keepAll d.ns d.dur d.pend keep = d.vis
  rw [h.1, h.2]
  rfl
/-- A power loss behind a Put that was not synced. -/
theorem opened_lost (h : d.In w) (hc : Calm d) (hn : 2 ≤ d.nb) (hp : d.putE m s = 0) (p : Value) (keep : List Nat) :
    (((d.wrote (1 - d.opened.at_) (tb (d.putB s)) p).crashed keep).opened.s = d.opened.s ∨ ((d.wrote (1 - d.opened.at_) (tb (d.putB s)) p).crashed keep).opened.s = s) ∧ ((d.wrote (1 - d.opened.at_) (tb (d.putB s)) p).crashed keep).top ≤ d.top + 1 := by
  obtain ⟨e, he⟩ : ∃ e, (d.wrote (1 - d.opened.at_) (tb (d.putB s)) p).crashed keep = e := ⟨_, rfl⟩
  have hat : d.opened.at_ ≤ 1 := opened_at
  have hfit := put_fits h hp
  have hlen := h.ld
  have hev : e.vis = keepAll d.ns d.dur [(1 - d.opened.at_, tb (d.putB s))] keep := by
    rw [← he]
    show keepAll d.ns d.dur (d.pend ++ [(1 - d.opened.at_, tb (d.putB s))]) keep = _
    rw [hc.1]; rfl
  have hen : e.ns = d.ns := by rw [← he]; rfl
  have hpend : ∀ q ∈ [(1 - d.opened.at_, tb (d.putB s))], q.1 < d.nb := fun q hq => by
    rw [List.mem_singleton] at hq
    subst hq
    show 1 - d.opened.at_ < d.nb
    omega
  have hel : e.vis.length = d.nb * (d.ns * 64) := by rw [hev]; exact keepAll_length _ _ _ hpend h.ld
  have hother : ∀ b, b ≠ 1 - d.opened.at_ → e.bl b = d.bl b := fun b hb => by
    show seg e.vis (b * (e.ns * 64)) (e.ns * 64) = seg d.vis (b * (d.ns * 64)) (d.ns * 64)
    rw [hen, hev, hc.2]
    refine keepAll_other (n := d.nb) _ keep d.dur hpend h.ld b ?_
    simp only [List.map_cons, List.map_nil, List.mem_singleton]
    exact hb
  have hsec : ∀ i, i < d.ns → seg (e.bl (1 - d.opened.at_)) (i * 64) 64 = seg (d.putB s) (i * 64) 64 ∨ seg (e.bl (1 - d.opened.at_)) (i * 64) 64 = seg (d.bl (1 - d.opened.at_)) (i * 64) 64 := fun i hi => by
    have e1 : seg (e.bl (1 - d.opened.at_)) (i * 64) 64 = seg (keepAll d.ns d.dur [(1 - d.opened.at_, tb (d.putB s))] keep) ((1 - d.opened.at_) * (d.ns * 64) + i * 64) 64 := by
      show seg (blkOf e.vis e.ns _) _ _ = _
      rw [hen, blkOf_sec _ _ _ _ hi, hev]
    have e2 : seg (d.bl (1 - d.opened.at_)) (i * 64) 64 = seg d.dur ((1 - d.opened.at_) * (d.ns * 64) + i * 64) 64 := by
      show seg (blkOf d.vis d.ns _) _ _ = _
      rw [blkOf_sec _ _ _ _ hi, hc.2]
    rw [e1, e2]
    rcases keepAll_sec (n := d.nb) [(1 - d.opened.at_, tb (d.putB s))] keep d.dur hpend h.ld (1 - d.opened.at_) i hi with h1 | ⟨q, hq, h1, h2⟩
    · exact .inr h1
    · left
      rw [List.mem_singleton] at hq
      subst hq
      rw [h2]
      show pad 64 ((txt (tb (d.putB s))).drop (i * 64)) = _
      rw [putB_txt, ← seg_pad (d.ns * 64) _ _ _ (by omega), pad_full _ _ (putB_length s)]
  have hMl : (e.bl (1 - d.opened.at_)).length = d.ns * 64 := by
    have := seg_length e.vis ((1 - d.opened.at_) * (d.ns * 64)) (d.ns * 64) (by rw [hel]; exact block_in (d.ns * 64) (by omega))
    show (seg e.vis _ _).length = _
    rw [hen]
    exact this
  have hMtop : topP (e.bl (1 - d.opened.at_)) ≤ d.top + 1 := by
    unfold topP
    rw [hMl, show d.ns * 64 / 64 = d.ns by omega]
    refine topL_le d.ns fun i hi => ?_
    rcases hsec i hi with h1 | h1
    · rw [stamp_of_seg h1, show d.putB s = packed (d.top + 1) s d.ns from rfl, packed_stamp i hi, mval_be8 _ hfit.v1]
      exact Nat.le_refl _
    · rw [stamp_of_seg h1]
      have hbl := bl_length h (show 1 - d.opened.at_ < d.nb by omega)
      have h2 := topL_ge (b := d.bl (1 - d.opened.at_)) d.ns i hi
      have h3 : topP (d.bl (1 - d.opened.at_)) ≤ d.top := by
        unfold DV.top
        rcases (show 1 - d.opened.at_ = 0 ∨ 1 - d.opened.at_ = 1 by omega) with h4 | h4
        · rw [h4]; omega
        · rw [h4]; omega
      unfold topP at h3
      rw [hbl, show d.ns * 64 / 64 = d.ns by omega] at h3
      omega
  have hmx := best_mixed (k := d.ns) (s := s) (b0 := d.bl 0) (b1 := d.bl 1) (P := d.putB s) (M := e.bl (1 - d.opened.at_)) (bl_length h (by omega)) (bl_length h (by omega)) hfit rfl hMl
    (fun i hi => by
      have := hsec i hi
      have hbl : blkAt (d.bl 0) (d.bl 1) (1 - (best (d.bl 0) (d.bl 1)).at_) = d.bl (1 - d.opened.at_) := by
        show blkAt (d.bl 0) (d.bl 1) (1 - d.opened.at_) = _
        rcases (show 1 - d.opened.at_ = 0 ∨ 1 - d.opened.at_ = 1 by omega) with h4 | h4
        · rw [h4]; rfl
        · rw [h4]; rfl
      rw [hbl]
      exact this) _ rfl
  have hopen : (best (e.bl 0) (e.bl 1)) = (if (best (d.bl 0) (d.bl 1)).at_ = 0 then best (d.bl 0) (e.bl (1 - d.opened.at_)) else best (e.bl (1 - d.opened.at_)) (d.bl 1)) := by
    have ha : d.opened.at_ = (best (d.bl 0) (d.bl 1)).at_ := rfl
    rw [← ha]
    rcases (show d.opened.at_ = 0 ∨ d.opened.at_ = 1 by omega) with h4 | h4
    · rw [h4] at hother ⊢
      rw [if_pos rfl, hother 0 (by decide)]
    · rw [h4] at hother ⊢
      rw [if_neg (by decide), hother 1 (by decide)]
  rw [he]
  refine ⟨?_, ?_⟩
  · show (best (e.bl 0) (e.bl 1)).s = (best (d.bl 0) (d.bl 1)).s ∨ (best (e.bl 0) (e.bl 1)).s = s
    rw [hopen]
    rcases hmx with hm | hm
    · exact .inl hm.1
    · exact .inr hm.1
  · unfold DV.top at hMtop ⊢
    rcases (show d.opened.at_ = 0 ∨ d.opened.at_ = 1 by omega) with h4 | h4
    · rw [h4] at hother hMtop
      rw [hother 0 (by decide)]
      have e1 : 1 - 0 = 1 := rfl
      rw [e1] at hMtop
      omega
    · rw [h4] at hother hMtop
      rw [hother 1 (by decide)]
      have e1 : 1 - 1 = 0 := rfl
      rw [e1] at hMtop
      omega
end
end Go.Proofs.Ytnmfgmlmjbfdcaa
