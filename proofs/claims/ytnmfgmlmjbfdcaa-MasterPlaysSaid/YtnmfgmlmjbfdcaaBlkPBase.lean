/-
  The document's device in memory: its own block, its row of blocks, its row of open writes; each block a row of texts that is never turned again.
-/
import Derived.Test.YtnmfgmlmjbfdcaaMDevF
import Derived.Test.YtnmfgmlmjbfdcaaBlkSeen
import Derived.Test.YtnmfgmlmjbfdcaaBlkSecMath
namespace Go.Proofs.Ytnmfgmlmjbfdcaa
open Go.RowKit

/-- A block that lies somewhere: ns sectors, of these bytes. -/
def BlkV (w : World) (ns : Nat) (v : Value) (L : List UInt8) : Prop :=
  L.length = ns * 64 ∧ ∃ g cap cs, v = .slice (some ⟨g, 0, none⟩) ns cap ∧ ns ≤ cap ∧ Row w g 9 cs (0, 0) ∧ ∀ k, k < ns → cs[k]? = some (.string ⟨(seg L (k * 64) 64).toArray⟩)

/-- Blocks of texts are let alone. -/
def NoStr (F : Nat → Prop) (w : World) : Prop := ∀ k cs m, Row w k 9 cs m → ¬ F k

section
variable {w w' : World} {ns : Nat} {v : Value} {L : List UInt8} {F : Nat → Prop}
theorem BlkV.only (h : BlkV w ns v L) (ho : Only F w w') (hF : NoStr F w) : BlkV w' ns v L := by
  obtain ⟨hl, g, cap, cs, e, hc, hr, hk⟩ := h
  exact ⟨hl, g, cap, cs, e, hc, hr.only ho (hF g cs _ hr), hk⟩
theorem BlkV.keeps (h : BlkV w ns v L) (hb : Below w.heap.size w w') : BlkV w' ns v L := h.only (Only.below hb fun _ => False) fun _ _ _ _ hf => hf
theorem BlkV.one (h : BlkV w ns v L) : v.oneCell' = true := by
  obtain ⟨hl, g, cap, cs, rfl, _⟩ := h
  rfl
theorem BlkV.lit (h : BlkV w ns v L) : ∃ g cap, v = .slice (some ⟨g, 0, none⟩) ns cap := by
  obtain ⟨hl, g, cap, cs, e, _⟩ := h
  exact ⟨g, cap, e⟩
theorem BlkV.cell (h : BlkV w ns v L) : ∃ g cap, v = .slice (some ⟨g, 0, none⟩) ns cap ∧ ns ≤ cap ∧ ∀ k, k < ns → w.cell? ⟨g, k, none⟩ = some (.string ⟨(seg L (k * 64) 64).toArray⟩) := by
  obtain ⟨hl, g, cap, cs, e, hc, hr, hk⟩ := h
  exact ⟨g, cap, e, hc, fun k hk2 => by rw [hr.cell]; exact hk k hk2⟩
theorem BlkV.of (h : w.ownsRow 0 9 1 v ns (strs (secs ns L))) (h0 : 0 < ns) (hl : L.length = ns * 64) : BlkV w ns v L := by
  obtain ⟨g, cap, cs, e, hc, _, hr, hk⟩ := owns_row h h0
  refine ⟨hl, g, cap, cs, e, hc, hr, fun k hk2 => ?_⟩
  rw [hk k (by rw [secs_length]; exact hk2), secs_get _ _ _ hk2]
end

/-- The cells of open writes. -/
def opv (l : List (Nat × Value)) : List Value := l.flatMap fun p => [.int .i64 (p.1 : Int), p.2]
theorem opv_length (l : List (Nat × Value)) : (opv l).length = l.length * 2 := by
  induction l with
  | nil => rfl
  | cons p l ih =>
    have : opv (p :: l) = .int .i64 (p.1 : Int) :: p.2 :: opv l := rfl
    rw [this, List.length_cons, List.length_cons, ih, List.length_cons]; omega
theorem opv_append (a b : List (Nat × Value)) : opv (a ++ b) = opv a ++ opv b := by simp [opv]
theorem opv_get : ∀ (l : List (Nat × Value)) (i : Nat) (h : i < l.length), (opv l)[i * 2]? = some (.int .i64 (l[i].1 : Int)) ∧ (opv l)[i * 2 + 1]? = some l[i].2
  | p :: l, 0, _ => ⟨rfl, rfl⟩
  | p :: l, i + 1, h => by
    have e : opv (p :: l) = .int .i64 (p.1 : Int) :: p.2 :: opv l := rfl
    have := opv_get l i (by simpa using h)
    rw [e]
    rw [show (i + 1) * 2 = i * 2 + 1 + 1 by omega]
    simpa using this
theorem opv_one (l : List (Nat × Value)) (h : ∀ p ∈ l, p.2.oneCell' = true) : ∀ u ∈ opv l, u.oneCell' = true := by
  intro u hu
  obtain ⟨p, hp, hu⟩ := List.mem_flatMap.1 hu
  simp at hu
  rcases hu with rfl | rfl
  · rfl
  · exact h p hp

/-- The document's device: where it lies, and what it is. -/
structure RV where
  B : Nat
  vS : Value
  vO : Value
  sv : List Value
  ov : List (Nat × Value)
  R : RS
namespace RV
def ptr (x : RV) : Value := .pointer (some ⟨x.B, 0, none⟩)
def cells (x : RV) : List Value := [.int .i64 (x.R.ns : Int), x.vS, x.vO]
def mine (x : RV) (k : Nat) : Prop := k = x.B ∨ x.vS.ownBlock = some k ∨ x.vO.ownBlock = some k
structure In (x : RV) (w : World) : Prop where
  dev : Row w x.B 98 x.cells (0, 0)
  sown : w.ownsRow 0 99 1 x.vS x.R.sure.length x.sv
  oown : w.ownsRow 0 114 2 x.vO x.R.opens.length (opv x.ov)
  ol : x.ov.length = x.R.opens.length
  sb : ∀ (b : Nat) (L : List UInt8), x.R.sure[b]? = some L → ∃ v, x.sv[b]? = some v ∧ BlkV w x.R.ns v L
  ob : ∀ (i : Nat) (o : Nat × List UInt8), x.R.opens[i]? = some o → o.1 < x.R.sure.length ∧ ∃ v, x.ov[i]? = some (o.1, v) ∧ BlkV w x.R.ns v o.2
  n1 : 1 ≤ x.R.ns
  n4 : x.R.ns ≤ 4
  b1 : 1 ≤ x.R.sure.length
  b8 : x.R.sure.length ≤ 8
section
variable {x : RV} {w w' : World} {F : Nat → Prop}
theorem ownBlock_row {e : TypeId} {sz n : Nat} {v : Value} {xs : List Value} (h : w.ownsRow 0 e sz v n xs) {k : Nat} (hk : v.ownBlock = some k) : ∃ cs, Row w k e cs (0, 0) := by
  rcases h.2 with ⟨h2, _⟩ | ⟨g, cap, cur, h2, _, hg, _⟩
  · rw [h2] at hk; cases hk
  · rw [h2] at hk
    injection hk with hk
    subst hk
    exact ⟨cur.toList, hg⟩
theorem In.mineLt (h : x.In w) : ∀ k, x.mine k → k < w.heap.size := by
  rintro k (rfl | hk | hk)
  · exact h.dev.lt
  · exact (h.sown.lt k hk).2
  · exact (h.oown.lt k hk).2
theorem In.notMine (h : x.In w) {g : Nat} {t : TypeId} {cs : List Value} {m : Nat × Nat} (hr : Row w g t cs m) (h1 : 98 ≠ t) (h2 : 99 ≠ t) (h3 : 114 ≠ t) : ¬ x.mine g := by
  rintro (e | e | e)
  · exact h.dev.ne_ hr h1 e.symm
  · obtain ⟨cs', hr'⟩ := ownBlock_row h.sown e
    exact hr'.ne_ hr h2 rfl
  · obtain ⟨cs', hr'⟩ := ownBlock_row h.oown e
    exact hr'.ne_ hr h3 rfl
theorem In.only (h : x.In w) (ho : Only F w w') (hF : ∀ k, x.mine k → ¬ F k) (hS : NoStr F w) : x.In w' :=
  { h with
    dev := h.dev.only ho (hF _ (.inl rfl))
    sown := ownsRow_only h.sown ho fun k hk => hF k (.inr (.inl hk))
    oown := ownsRow_only h.oown ho fun k hk => hF k (.inr (.inr hk))
    sb := fun b L hL => by obtain ⟨v, h1, h2⟩ := h.sb b L hL; exact ⟨v, h1, h2.only ho hS⟩
    ob := fun i o hO => by obtain ⟨h0, v, h1, h2⟩ := h.ob i o hO; exact ⟨h0, v, h1, h2.only ho hS⟩ }
theorem In.keeps (h : x.In w) (hb : Below w.heap.size w w') : x.In w' := h.only (Only.below hb fun _ => False) (fun _ _ hf => hf) fun _ _ _ _ hf => hf
theorem In.drewN (h : x.In w) (n : Nat) : x.In (w.drewN n) := h.keeps ⟨rfl, rfl, rfl, Nat.le_refl _, fun _ _ => rfl⟩
theorem In.drew (h : x.In w) : x.In w.drew := h.keeps ⟨rfl, rfl, rfl, Nat.le_refl _, fun _ _ => rfl⟩
theorem In.c0 (h : x.In w) : w.cell? ⟨x.B, 0, none⟩ = some (.int .i64 (x.R.ns : Int)) := h.dev.cell 0
theorem In.c1 (h : x.In w) : w.cell? ⟨x.B, 1, none⟩ = some x.vS := h.dev.cell 1
theorem In.c2 (h : x.In w) : w.cell? ⟨x.B, 2, none⟩ = some x.vO := h.dev.cell 2
theorem In.free (h : x.In w) (i : Nat) : w.frozen? ⟨x.B, i, none⟩ = false := h.dev.loose i
/-- The row of blocks. -/
theorem In.slot (h : x.In w) : ∃ g cap cs, x.vS = .slice (some ⟨g, 0, none⟩) x.R.sure.length cap ∧ x.R.sure.length ≤ cap ∧ cap ≤ maxLen ∧ Row w g 99 cs (0, 0) ∧ cs.length = cap ∧ cs.take x.R.sure.length = x.sv ∧
    ∀ (b : Nat) (L : List UInt8), x.R.sure[b]? = some L → ∃ v, w.cell? ⟨g, b, none⟩ = some v ∧ BlkV w x.R.ns v L := by
  rcases h.sown.2 with ⟨_, e⟩ | ⟨g, cap, cur, e, _, hg, hc, hm, hs, ht⟩
  · have := h.b1; omega
  · rw [Nat.mul_one] at ht
    refine ⟨g, cap, cur.toList, e, hc, hm, hg, by simpa using hs, ht, fun b L hL => ?_⟩
    obtain ⟨v, h1, h2⟩ := h.sb b L hL
    refine ⟨v, ?_, h2⟩
    have hb : b < x.R.sure.length := (List.getElem?_eq_some_iff.1 hL).1
    rw [Row.cell (show Row w g 99 cur.toList (0, 0) from hg), ← h1, ← ht, List.getElem?_take, if_pos hb]
/-- The row of open writes. -/
theorem In.oslot (h : x.In w) : (x.vO = .slice none 0 0 ∧ x.R.opens = []) ∨ ∃ g cap, x.vO = .slice (some ⟨g, 0, none⟩) x.R.opens.length cap ∧
    ∀ (i : Nat) (o : Nat × List UInt8), x.R.opens[i]? = some o → ∃ v, w.cell? ⟨g, i * 2, none⟩ = some (.int .i64 (o.1 : Int)) ∧ w.cell? ⟨g, i * 2 + 1, none⟩ = some v ∧ BlkV w x.R.ns v o.2 := by
  rcases h.oown.2 with ⟨h2, h3⟩ | ⟨g, cap, cur, h2, _, hg, hc, hm, hs, ht⟩
  · exact .inl ⟨h2, List.eq_nil_of_length_eq_zero h3⟩
  · refine .inr ⟨g, cap, h2, fun i o hO => ?_⟩
    obtain ⟨h0, v, h1, hB⟩ := h.ob i o hO
    have hi : i < x.ov.length := (List.getElem?_eq_some_iff.1 h1).1
    have hr : Row w g 114 cur.toList (0, 0) := hg
    have hp := opv_get x.ov i hi
    have he : x.ov[i] = (o.1, v) := (List.getElem?_eq_some_iff.1 h1).2
    rw [he] at hp
    have key : ∀ j, j < x.R.opens.length * 2 → w.cell? ⟨g, j, none⟩ = (opv x.ov)[j]? := fun j hj => by
      rw [hr.cell, ← ht, List.getElem?_take, if_pos hj]
    have hol := h.ol
    exact ⟨v, (key _ (by omega)).trans hp.1, (key _ (by omega)).trans hp.2, hB⟩
end
end RV
end Go.Proofs.Ytnmfgmlmjbfdcaa
