/-
  What a device holds behind a Put, a Sync, a power loss: in plain words. No program is run here.
-/
import Derived.Test.YtnmfgmlmjbfdcaaMasDev
namespace Go.Proofs.Ytnmfgmlmjbfdcaa
open Go.RowKit

/-- The new text laid over the block that does not count. -/
theorem best_put {k : Nat} {s b0 b1 P : List UInt8} (hf : Fits (max (topP b0) (topP b1) + 1) s k) (hP : P = packed (max (topP b0) (topP b1) + 1) s k) :
    (if (best b0 b1).at_ = 0 then best b0 P else best P b1) = ⟨1 - (best b0 b1).at_, max (topP b0) (topP b1) + 1, s⟩ := by
  have hba := best_at b0 b1
  have hPu : unpackP P = some (max (topP b0) (topP b1) + 1, s) := by rw [hP]; exact unpack_packed hf
  rcases (show (best b0 b1).at_ = 0 ∨ (best b0 b1).at_ = 1 by omega) with ha | ha
  · rw [ha, if_pos rfl]
    have hlt : (Held.none.look 0 b0).v < max (topP b0) (topP b1) + 1 := by
      have h2 := best_top b0 []
      have h3 : best b0 [] = Held.none.look 0 b0 := by
        unfold best
        exact look_none rfl
      rw [h3] at h2
      have h4 : topP ([] : List UInt8) = 0 := rfl
      omega
    unfold best
    rw [look_some hPu, if_pos hlt]
  · rw [ha, if_neg (by decide)]
    unfold best
    rw [look_some hPu, if_pos (by show 0 < _; omega)]
    cases hu : unpackP b1 with
    | none => rw [look_none hu]
    | some q =>
      obtain ⟨v, t⟩ := q
      have := (unpack_top hu).1
      rw [look_some hu, if_neg (by show ¬ (_ + 1) < v; omega)]

section
variable {d : DV} {w : World} {m : MS} {s : List UInt8}
theorem opened_of (e : DV) (b0 b1 : List UInt8) (h0 : e.bl 0 = b0) (h1 : e.bl 1 = b1) : e.opened = MS.opened b0 b1 := by unfold DV.opened; rw [h0, h1]
theorem putB_txt (d : DV) (s : List UInt8) : txt (tb (d.putB s)) = d.putB s := tb_list _
theorem putB_size (d : DV) (s : List UInt8) : (tb (d.putB s)).size = d.ns * 64 := by rw [tb_size, putB_length]
/-- Opened behind a Put: the new text. -/
theorem opened_wrote (h : d.In w) (hn : 2 ≤ d.nb) (hp : d.putE m s = 0) (p : Value) : (d.wrote (1 - d.opened.at_) (tb (d.putB s)) p).opened = ⟨1 - d.opened.at_, d.top + 1, s, false, []⟩ := by
  have hat : d.opened.at_ ≤ 1 := opened_at
  have hb := bl_wrote h (show 1 - d.opened.at_ < d.nb by omega) (tb (d.putB s)) p (putB_size d s)
  rw [putB_txt] at hb
  have key := best_put (k := d.ns) (s := s) (b0 := d.bl 0) (b1 := d.bl 1) (put_fits h hp) (P := d.putB s) rfl
  have e0 := hb 0
  have e1 := hb 1
  have ha : d.opened.at_ = (best (d.bl 0) (d.bl 1)).at_ := rfl
  rw [← ha] at key
  rw [opened_of _ _ _ e0 e1]
  unfold MS.opened
  rcases (show d.opened.at_ = 0 ∨ d.opened.at_ = 1 by omega) with h0 | h0
  · rw [h0] at key ⊢
    rw [if_pos rfl] at key
    rw [if_neg (by decide), if_pos rfl, key]
    rfl
  · rw [h0] at key ⊢
    rw [if_neg (by decide)] at key
    rw [if_pos rfl, if_neg (by decide), key]
    rfl
/-- Nothing is open, and nothing is to be lost. -/
def Calm (d : DV) : Prop := d.pend = [] ∧ d.vis = d.dur
theorem crash_calm (keep : List Nat) : Calm (d.crashed keep) := ⟨rfl, rfl⟩
theorem crash_same (h : Calm d) (keep : List Nat) : (d.crashed keep).vis = d.vis := by
  show keepAll d.ns d.dur d.pend keep = d.vis
  rw [h.1, h.2]
  rfl
/-- A power loss behind a Put that was not synced. -/
theorem opened_lost (h : d.In w) (hc : Calm d) (hn : 2 ≤ d.nb) (hp : d.putE m s = 0) (p : Value) (keep : List Nat) :
    (((d.wrote (1 - d.opened.at_) (tb (d.putB s)) p).crashed keep).opened.s = d.opened.s ∨ ((d.wrote (1 - d.opened.at_) (tb (d.putB s)) p).crashed keep).opened.s = s) ∧ ((d.wrote (1 - d.opened.at_) (tb (d.putB s)) p).crashed keep).top ≤ d.top + 1 := by
  obtain ⟨e, he⟩ : ∃ e, (d.wrote (1 - d.opened.at_) (tb (d.putB s)) p).crashed keep = e := ⟨_, rfl⟩
  have hat : d.opened.at_ ≤ 1 := opened_at
  have hfit := put_fits h hp
  have hlen := h.ld
  have hev : e.vis = keepAll d.ns d.dur [(1 - d.opened.at_, tb (d.putB s))] keep := by
    rw [← he]
    show keepAll d.ns d.dur (d.pend ++ [(1 - d.opened.at_, tb (d.putB s))]) keep = _
    rw [hc.1]; rfl
  have hen : e.ns = d.ns := by rw [← he]; rfl
  have hpend : ∀ q ∈ [(1 - d.opened.at_, tb (d.putB s))], q.1 < d.nb := fun q hq => by
    rw [List.mem_singleton] at hq
    subst hq
    show 1 - d.opened.at_ < d.nb
    omega
  have hel : e.vis.length = d.nb * (d.ns * 64) := by rw [hev]; exact keepAll_length _ _ _ hpend h.ld
  have hother : ∀ b, b ≠ 1 - d.opened.at_ → e.bl b = d.bl b := fun b hb => by
    show seg e.vis (b * (e.ns * 64)) (e.ns * 64) = seg d.vis (b * (d.ns * 64)) (d.ns * 64)
    rw [hen, hev, hc.2]
    refine keepAll_other (n := d.nb) _ keep d.dur hpend h.ld b ?_
    simp only [List.map_cons, List.map_nil, List.mem_singleton]
    exact hb
  have hsec : ∀ i, i < d.ns → seg (e.bl (1 - d.opened.at_)) (i * 64) 64 = seg (d.putB s) (i * 64) 64 ∨ seg (e.bl (1 - d.opened.at_)) (i * 64) 64 = seg (d.bl (1 - d.opened.at_)) (i * 64) 64 := fun i hi => by
    have e1 : seg (e.bl (1 - d.opened.at_)) (i * 64) 64 = seg (keepAll d.ns d.dur [(1 - d.opened.at_, tb (d.putB s))] keep) ((1 - d.opened.at_) * (d.ns * 64) + i * 64) 64 := by
      show seg (blkOf e.vis e.ns _) _ _ = _
      rw [hen, blkOf_sec _ _ _ _ hi, hev]
    have e2 : seg (d.bl (1 - d.opened.at_)) (i * 64) 64 = seg d.dur ((1 - d.opened.at_) * (d.ns * 64) + i * 64) 64 := by
      show seg (blkOf d.vis d.ns _) _ _ = _
      rw [blkOf_sec _ _ _ _ hi, hc.2]
    rw [e1, e2]
    rcases keepAll_sec (n := d.nb) [(1 - d.opened.at_, tb (d.putB s))] keep d.dur hpend h.ld (1 - d.opened.at_) i hi with h1 | ⟨q, hq, h1, h2⟩
    · exact .inr h1
    · left
      rw [List.mem_singleton] at hq
      subst hq
      rw [h2]
      show pad 64 ((txt (tb (d.putB s))).drop (i * 64)) = _
      rw [putB_txt, ← seg_pad (d.ns * 64) _ _ _ (by omega), pad_full _ _ (putB_length s)]
  have hMl : (e.bl (1 - d.opened.at_)).length = d.ns * 64 := by
    have := seg_length e.vis ((1 - d.opened.at_) * (d.ns * 64)) (d.ns * 64) (by rw [hel]; exact block_in (d.ns * 64) (by omega))
    show (seg e.vis _ _).length = _
    rw [hen]
    exact this
  have hMtop : topP (e.bl (1 - d.opened.at_)) ≤ d.top + 1 := by
    unfold topP
    rw [hMl, show d.ns * 64 / 64 = d.ns by omega]
    refine topL_le d.ns fun i hi => ?_
    rcases hsec i hi with h1 | h1
    · rw [stamp_of_seg h1, show d.putB s = packed (d.top + 1) s d.ns from rfl, packed_stamp i hi, mval_be8 _ hfit.v1]
      exact Nat.le_refl _
    · rw [stamp_of_seg h1]
      have hbl := bl_length h (show 1 - d.opened.at_ < d.nb by omega)
      have h2 := topL_ge (b := d.bl (1 - d.opened.at_)) d.ns i hi
      have h3 : topP (d.bl (1 - d.opened.at_)) ≤ d.top := by
        unfold DV.top
        rcases (show 1 - d.opened.at_ = 0 ∨ 1 - d.opened.at_ = 1 by omega) with h4 | h4
        · rw [h4]; omega
        · rw [h4]; omega
      unfold topP at h3
      rw [hbl, show d.ns * 64 / 64 = d.ns by omega] at h3
      omega
  have hmx := best_mixed (k := d.ns) (s := s) (b0 := d.bl 0) (b1 := d.bl 1) (P := d.putB s) (M := e.bl (1 - d.opened.at_)) (bl_length h (by omega)) (bl_length h (by omega)) hfit rfl hMl
    (fun i hi => by
      have := hsec i hi
      have hbl : blkAt (d.bl 0) (d.bl 1) (1 - (best (d.bl 0) (d.bl 1)).at_) = d.bl (1 - d.opened.at_) := by
        show blkAt (d.bl 0) (d.bl 1) (1 - d.opened.at_) = _
        rcases (show 1 - d.opened.at_ = 0 ∨ 1 - d.opened.at_ = 1 by omega) with h4 | h4
        · rw [h4]; rfl
        · rw [h4]; rfl
      rw [hbl]
      exact this) _ rfl
  have hopen : (best (e.bl 0) (e.bl 1)) = (if (best (d.bl 0) (d.bl 1)).at_ = 0 then best (d.bl 0) (e.bl (1 - d.opened.at_)) else best (e.bl (1 - d.opened.at_)) (d.bl 1)) := by
    have ha : d.opened.at_ = (best (d.bl 0) (d.bl 1)).at_ := rfl
    rw [← ha]
    rcases (show d.opened.at_ = 0 ∨ d.opened.at_ = 1 by omega) with h4 | h4
    · rw [h4] at hother ⊢
      rw [if_pos rfl, hother 0 (by decide)]
    · rw [h4] at hother ⊢
      rw [if_neg (by decide), hother 1 (by decide)]
  rw [he]
  refine ⟨?_, ?_⟩
  · show (best (e.bl 0) (e.bl 1)).s = (best (d.bl 0) (d.bl 1)).s ∨ (best (e.bl 0) (e.bl 1)).s = s
    rw [hopen]
    rcases hmx with hm | hm
    · exact .inl hm.1
    · exact .inr hm.1
  · unfold DV.top at hMtop ⊢
    rcases (show d.opened.at_ = 0 ∨ d.opened.at_ = 1 by omega) with h4 | h4
    · rw [h4] at hother hMtop
      rw [hother 0 (by decide)]
      have e1 : 1 - 0 = 1 := rfl
      rw [e1] at hMtop
      omega
    · rw [h4] at hother hMtop
      rw [hother 1 (by decide)]
      have e1 : 1 - 1 = 0 := rfl
      rw [e1] at hMtop
      omega
end
end Go.Proofs.Ytnmfgmlmjbfdcaa
