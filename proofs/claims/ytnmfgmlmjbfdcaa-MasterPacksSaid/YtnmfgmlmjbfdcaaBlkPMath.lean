/-
  The document's device in plain words: rows of sectors; what it has to do with the landed one.
-/
import Derived.Test.YtnmfgmlmjbfdcaaBlkMove
namespace Go.Proofs.Ytnmfgmlmjbfdcaa
open Go.RowKit

theorem txt_inj {a b : ByteArray} (h : txt a = txt b) : a = b := by
  apply ByteArray.ext
  exact Array.toList_inj.1 h
theorem txt_append (a b : ByteArray) : txt (a ++ b) = txt a ++ txt b := by simp [txt]
theorem txt_mk (l : List UInt8) : txt ⟨l.toArray⟩ = l := rfl

/-- Bytes as sectors. -/
def secs (ns : Nat) (L : List UInt8) : List ByteArray := (List.range ns).map fun k => ⟨(seg L (k * 64) 64).toArray⟩
theorem secs_length (ns : Nat) (L : List UInt8) : (secs ns L).length = ns := by simp [secs]
theorem secs_get (ns : Nat) (L : List UInt8) (k : Nat) (h : k < ns) : (secs ns L)[k]'(by rw [secs_length]; exact h) = ⟨(seg L (k * 64) 64).toArray⟩ := by simp [secs]
theorem secs_take (ns : Nat) (L : List UInt8) (k : Nat) (h : k ≤ ns) : (secs ns L).take k = secs k L := by
  unfold secs
  rw [← List.map_take, List.take_range, Nat.min_eq_left h]
theorem secs_succ (L : List UInt8) (k : Nat) : secs (k + 1) L = secs k L ++ [⟨(seg L (k * 64) 64).toArray⟩] := by
  unfold secs
  rw [List.range_succ, List.map_append]; rfl
/-- Texts one behind the other. -/
def glue (l : List ByteArray) : ByteArray := l.foldl (· ++ ·) ⟨#[]⟩
theorem glue_snoc (l : List ByteArray) (x : ByteArray) : glue (l ++ [x]) = glue l ++ x := by simp [glue]
theorem glue_secs (L : List UInt8) : ∀ k, k * 64 ≤ L.length → glue (secs k L) = ⟨(L.take (k * 64)).toArray⟩
  | 0, _ => by simp [secs, glue]
  | k + 1, h => by
    rw [secs_succ, glue_snoc, glue_secs L k (by omega)]
    apply txt_inj
    rw [txt_append, txt_mk, txt_mk, txt_mk]
    unfold seg
    rw [show (k + 1) * 64 = k * 64 + 64 by omega, List.take_add]

/-- The document's device. -/
structure RS where
  ns : Nat
  sure : List (List UInt8)
  opens : List (Nat × List UInt8)
/-- The last open write of a block, or what is sure. -/
def lastOf (b : Nat) (a : List UInt8) (l : List (Nat × List UInt8)) : List UInt8 := l.foldl (fun a o => if o.1 = b then o.2 else a) a
theorem lastOf_snoc (b : Nat) (a : List UInt8) (l : List (Nat × List UInt8)) (o : Nat × List UInt8) : lastOf b a (l ++ [o]) = if o.1 = b then o.2 else lastOf b a l := by simp [lastOf]
def setAll (l : List (Nat × List UInt8)) (S : List (List UInt8)) : List (List UInt8) := l.foldl (fun S o => S.set o.1 o.2) S
theorem setAll_length (l : List (Nat × List UInt8)) : ∀ S, (setAll l S).length = S.length := by
  induction l with
  | nil => intro S; rfl
  | cons o l ih => intro S; show (setAll l (S.set o.1 o.2)).length = _; rw [ih, List.length_set]
theorem setAll_snoc (l : List (Nat × List UInt8)) (o : Nat × List UInt8) (S : List (List UInt8)) : setAll (l ++ [o]) S = (setAll l S).set o.1 o.2 := by simp [setAll]
theorem setAll_get : ∀ (l : List (Nat × List UInt8)) (S : List (List UInt8)) (b : Nat), b < S.length → (setAll l S)[b]? = some (lastOf b (S.getD b []) l)
  | [], S, b, h => by simp [setAll, lastOf, List.getElem?_eq_getElem h]
  | o :: l, S, b, h => by
    show (setAll l (S.set o.1 o.2))[b]? = some (lastOf b (if o.1 = b then o.2 else S.getD b []) l)
    rw [setAll_get l (S.set o.1 o.2) b (by simpa using h)]
    congr 2
    by_cases e : o.1 = b
    · subst e; simp [h]
    · simp [e]
/-- A block of which some sectors are the one's, some the other's. -/
def mix (ns m : Nat) (A B : List UInt8) : List UInt8 := ((List.range ns).map fun k => if m / 2 ^ (k % 64) % 2 = 1 then seg A (k * 64) 64 else seg B (k * 64) 64).flatten
theorem mix_succ (k m : Nat) (A B : List UInt8) : mix (k + 1) m A B = mix k m A B ++ (if m / 2 ^ (k % 64) % 2 = 1 then seg A (k * 64) 64 else seg B (k * 64) 64) := by
  unfold mix
  rw [List.range_succ, List.map_append, List.flatten_append]; simp
theorem seg_last (A Z : List UInt8) (o n : Nat) (h1 : A.length = o) (h2 : Z.length = n) : seg (A ++ Z) o n = Z := by
  subst h1 h2
  unfold seg
  rw [List.drop_left, List.take_length]
theorem mix_spec (ns m : Nat) (A B : List UInt8) (hA : A.length = ns * 64) (hB : B.length = ns * 64) : ∀ j, j ≤ ns → (mix j m A B).length = j * 64 ∧ ∀ k, k < j → seg (mix j m A B) (k * 64) 64 = if m / 2 ^ (k % 64) % 2 = 1 then seg A (k * 64) 64 else seg B (k * 64) 64
  | 0, _ => ⟨by simp [mix], fun k hk => by omega⟩
  | j + 1, hj => by
    obtain ⟨h1, h2⟩ := mix_spec ns m A B hA hB j (by omega)
    have hl : (if m / 2 ^ (j % 64) % 2 = 1 then seg A (j * 64) 64 else seg B (j * 64) 64).length = 64 := by
      split
      · exact seg_length _ _ _ (by omega)
      · exact seg_length _ _ _ (by omega)
    rw [mix_succ]
    refine ⟨by rw [List.length_append, h1, hl]; omega, fun k hk => ?_⟩
    by_cases e : k = j
    · subst e
      exact seg_last _ _ _ _ h1 hl
    · rw [← h2 k (by omega)]
      unfold seg
      rw [List.drop_append_of_le_length (by rw [h1]; omega), List.take_append_of_le_length (by rw [List.length_drop, h1]; omega)]
theorem mix_secs (ns m : Nat) (A B : List UInt8) (hA : A.length = ns * 64) (hB : B.length = ns * 64) (j : Nat) (hj : j ≤ ns) : secs j (mix ns m A B) = (List.range j).map fun k => if m / 2 ^ (k % 64) % 2 = 1 then ⟨(seg A (k * 64) 64).toArray⟩ else ⟨(seg B (k * 64) 64).toArray⟩ := by
  unfold secs
  apply List.map_congr_left
  intro k hk
  rw [(mix_spec ns m A B hA hB ns (Nat.le_refl _)).2 k (by have := List.mem_range.1 hk; omega)]
  split <;> rfl
theorem mix_zero (ns : Nat) (A B : List UInt8) (hA : A.length = ns * 64) (hB : B.length = ns * 64) : mix ns 0 A B = B := by
  obtain ⟨h1, h2⟩ := mix_spec ns 0 A B hA hB ns (Nat.le_refl _)
  refine eq_of_segs ns 64 h1 hB fun k hk => ?_
  rw [h2 k hk, if_neg (by simp)]
def crashOne (ns : Nat) (S : List (List UInt8)) (o : Nat × List UInt8) (m : Nat) : List (List UInt8) := S.set o.1 (mix ns m o.2 (S.getD o.1 []))
/-- All open writes, at a power loss. -/
def crashAll (ns : Nat) : List (List UInt8) → List (Nat × List UInt8) → List Nat → List (List UInt8)
  | S, [], _ => S
  | S, o :: r, ks => crashAll ns (crashOne ns S o (ks.headD 0)) r ks.tail

/-- The landed device's block b. -/
abbrev blkOf (dur : List UInt8) (ns b : Nat) : List UInt8 := seg dur (b * (ns * 64)) (ns * 64)
def opensOf (ns : Nat) (pend : List (Nat × ByteArray)) : List (Nat × List UInt8) := pend.map fun q => (q.1, pad (ns * 64) (txt q.2))

structure RelD (d : DV) (R : RS) : Prop where
  ns : R.ns = d.ns
  nb : R.sure.length = d.nb
  opens : R.opens = opensOf d.ns d.pend
  sure : ∀ b, b < d.nb → R.sure.getD b [] = blkOf d.dur d.ns b
  vis : ∀ b, b < d.nb → lastOf b (R.sure.getD b []) R.opens = blkOf d.vis d.ns b

section
variable {d : DV} {R : RS} {w : World}
theorem RelD.wrote (h : RelD d R) (hi : d.In w) (b : Nat) (s : ByteArray) (p : Value) (hb : b < d.nb) : RelD (d.wrote b s p) { R with opens := R.opens ++ [(b, pad (d.ns * 64) (txt s))] } := by
  refine ⟨h.ns, h.nb, ?_, h.sure, fun k hk => ?_⟩
  · show R.opens ++ _ = opensOf d.ns (d.pend ++ [(b, s)])
    rw [h.opens]; simp [opensOf]
  · show lastOf k (R.sure.getD k []) (R.opens ++ [(b, pad (d.ns * 64) (txt s))]) = seg (splice d.vis (b * (d.ns * 64)) (pad (d.ns * 64) (txt s))) (k * (d.ns * 64)) (d.ns * 64)
    have hfit : b * (d.ns * 64) + (pad (d.ns * 64) (txt s)).length ≤ d.vis.length := by rw [pad_length, hi.lv]; exact block_in d.sz hb
    rw [lastOf_snoc]
    by_cases e : b = k
    · subst e
      rw [if_pos rfl, seg_splice_same _ _ _ hfit (pad_length _ _)]
    · rw [if_neg e, h.vis k hk, seg_splice_far _ _ _ hfit _ _ (by rw [pad_length]; exact blocks_far (d.ns * 64) (fun e' => e e'.symm))]
theorem RelD.synced (h : RelD d R) : RelD d.synced { R with sure := setAll R.opens R.sure, opens := [] } := by
  have key : ∀ b, b < d.nb → (setAll R.opens R.sure).getD b [] = blkOf d.vis d.ns b := fun b hb => by
    rw [List.getD_eq_getElem?_getD, setAll_get _ _ _ (by rw [h.nb]; exact hb)]
    exact h.vis b hb
  refine ⟨h.ns, ?_, rfl, key, key⟩
  show (setAll R.opens R.sure).length = d.nb
  rw [setAll_length]; exact h.nb
theorem blkOf_sec (dur : List UInt8) (ns b k : Nat) (hk : k < ns) : seg (blkOf dur ns b) (k * 64) 64 = seg dur (b * (ns * 64) + k * 64) 64 := seg_seg _ _ _ _ _ (by omega)
theorem keepAll_nil (ns : Nat) (dur : List UInt8) (pend : List (Nat × ByteArray)) : keepAll ns dur pend [] = dur := by cases pend <;> rfl
theorem crashOne_rel {ns nb m : Nat} {S : List (List UInt8)} {dur : List UInt8} {p : Nat × ByteArray} (hS : ∀ b, b < nb → S.getD b [] = blkOf dur ns b) (hl : S.length = nb) (hd : dur.length = nb * (ns * 64)) (hp : p.1 < nb) (b : Nat) (hb : b < nb) :
    (crashOne ns S (p.1, pad (ns * 64) (txt p.2)) m).getD b [] = blkOf (keepOne ns dur p m) ns b := by
  have hA : (pad (ns * 64) (txt p.2)).length = ns * 64 := pad_length _ _
  have hBl : (blkOf dur ns p.1).length = ns * 64 := seg_length _ _ _ (by rw [hd]; exact block_in (ns * 64) hp)
  have hk := (keepOne_length (ns := ns) (m := m) hp hd)
  unfold crashOne
  rw [List.getD_eq_getElem?_getD]
  by_cases e : p.1 = b
  · subst e
    rw [List.getElem?_set_self (by rw [hl]; exact hp), Option.getD_some]
    show mix ns m (pad (ns * 64) (txt p.2)) (S.getD p.1 []) = _
    rw [hS p.1 hp]
    obtain ⟨h1, h2⟩ := mix_spec ns m (pad (ns * 64) (txt p.2)) (blkOf dur ns p.1) hA hBl ns (Nat.le_refl _)
    refine eq_of_segs ns 64 h1 (seg_length _ _ _ (by rw [hk]; exact block_in (ns * 64) hp)) fun k hk2 => ?_
    rw [h2 k hk2, blkOf_sec (keepOne ns dur p m) _ _ _ hk2, keepOne_seg hp hd p.1 k hk2]
    by_cases hm : m / 2 ^ (k % 64) % 2 = 1
    · rw [if_pos hm, if_pos ⟨rfl, hm⟩, seg_pad _ _ _ _ (by omega)]
    · rw [if_neg hm, if_neg (fun x => hm x.2), blkOf_sec _ _ _ _ hk2]
  · rw [List.getElem?_set_ne e, ← List.getD_eq_getElem?_getD, hS b hb]
    refine (eq_of_secs b fun k hk2 => ?_).symm
    rw [keepOne_seg hp hd b k hk2, if_neg (fun x => e x.1.symm)]
theorem crashAll_rel {ns nb : Nat} : ∀ (pend : List (Nat × ByteArray)) (keep : List Nat) (dur : List UInt8) (S : List (List UInt8)), (∀ b, b < nb → S.getD b [] = blkOf dur ns b) → S.length = nb → dur.length = nb * (ns * 64) → (∀ q ∈ pend, q.1 < nb) →
    (crashAll ns S (opensOf ns pend) keep).length = nb ∧ ∀ b, b < nb → (crashAll ns S (opensOf ns pend) keep).getD b [] = blkOf (keepAll ns dur pend keep) ns b
  | [], keep, dur, S, hS, hl, _, _ => ⟨hl, fun b hb => by rw [show keepAll ns dur [] keep = dur from rfl]; exact hS b hb⟩
  | p :: r, [], dur, S, hS, hl, hd, hp => by
    have hpp := hp p (by simp)
    have h1 : ∀ b, b < nb → (crashOne ns S (p.1, pad (ns * 64) (txt p.2)) 0).getD b [] = blkOf dur ns b := fun b hb => by
      unfold crashOne
      rw [List.getD_eq_getElem?_getD]
      by_cases e : p.1 = b
      · subst e
        rw [List.getElem?_set_self (by rw [hl]; exact hpp), Option.getD_some]
        show mix ns 0 (pad (ns * 64) (txt p.2)) (S.getD p.1 []) = _
        rw [hS p.1 hpp, mix_zero ns _ _ (pad_length _ _) (seg_length _ _ _ (by rw [hd]; exact block_in (ns * 64) hpp))]
      · rw [List.getElem?_set_ne e, ← List.getD_eq_getElem?_getD, hS b hb]
    have := crashAll_rel r [] dur (crashOne ns S (p.1, pad (ns * 64) (txt p.2)) 0) h1 (by unfold crashOne; rw [List.length_set]; exact hl) hd (fun q hq => hp q (by simp [hq]))
    rw [keepAll_nil] at this ⊢
    exact this
  | p :: r, m :: ks, dur, S, hS, hl, hd, hp => by
    have hpp := hp p (by simp)
    have := crashAll_rel r ks (keepOne ns dur p m) (crashOne ns S (p.1, pad (ns * 64) (txt p.2)) m) (fun b hb => crashOne_rel hS hl hd hpp b hb) (by unfold crashOne; rw [List.length_set]; exact hl) (keepOne_length hpp hd) (fun q hq => hp q (by simp [hq]))
    rw [keepAll_cons]
    exact this
theorem RelD.crashed (h : RelD d R) (hi : d.In w) (keep : List Nat) : RelD (d.crashed keep) { R with sure := crashAll R.ns R.sure R.opens keep, opens := [] } := by
  have key := crashAll_rel d.pend keep d.dur R.sure h.sure h.nb hi.ld (fun q hq => (hi.fits q hq).1)
  rw [← h.opens, ← h.ns] at key
  rw [h.ns] at key
  refine ⟨h.ns, ?_, rfl, ?_, ?_⟩
  · show (crashAll R.ns R.sure R.opens keep).length = d.nb; rw [h.ns]; exact key.1
  · intro b hb; show (crashAll R.ns R.sure R.opens keep).getD b [] = _; rw [h.ns]; exact key.2 b hb
  · intro b hb; show (crashAll R.ns R.sure R.opens keep).getD b [] = _; rw [h.ns]; exact key.2 b hb
/-- What is read of a block. -/
theorem RelD.read (h : RelD d R) (b : Nat) (hb : b < d.nb) : d.read (b : Int) = ⟨(lastOf b (R.sure.getD b []) R.opens).toArray⟩ := by
  rw [h.vis b hb]
  exact read_block d b hb
end
theorem rel_new {d : DV} (hv : d.vis = List.replicate (d.nb * (d.ns * 64)) 0) (hu : d.dur = List.replicate (d.nb * (d.ns * 64)) 0) (hp : d.pend = []) : RelD d ⟨d.ns, List.replicate d.nb (List.replicate (d.ns * 64) 0), []⟩ := by
  have key : ∀ b, b < d.nb → (List.replicate d.nb (List.replicate (d.ns * 64) (0 : UInt8))).getD b [] = seg (List.replicate (d.nb * (d.ns * 64)) 0) (b * (d.ns * 64)) (d.ns * 64) := fun b hb => by
    have := block_in (d.ns * 64) hb
    rw [List.getD_eq_getElem?_getD, List.getElem?_replicate, if_pos hb, Option.getD_some]
    unfold seg
    rw [List.drop_replicate, List.take_replicate]
    congr 1; omega
  refine ⟨rfl, by simp, by rw [hp]; rfl, fun b hb => ?_, fun b hb => ?_⟩
  · rw [hu]; exact key b hb
  · rw [hv]; exact key b hb
end Go.Proofs.Ytnmfgmlmjbfdcaa
