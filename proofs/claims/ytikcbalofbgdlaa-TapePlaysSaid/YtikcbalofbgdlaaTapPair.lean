/-
  Acts of an argument; a tape and the document's, that have come since a world; whether they are the same (is).
-/
import Derived.Test.YtikcbalofbgdlaaTapAct
namespace Go.Proofs.Ytikcbalofbgdlaa
open Go.RowKit

/-- A slice of acts of an argument. -/
structure Acts (W : World) (A : Option Addr) (l : List ActV) : Prop where
  ok : ∀ x ∈ l, x.Ok
  at_ : ∀ (i : Nat) (h : i < l.length), ∃ g off, A = some ⟨g, off, none⟩ ∧ g < W.heap.size ∧ ∀ j, j < 4 → W.cell? ⟨g, off + i * 4 + j, none⟩ = (l[i].cells)[j]?
theorem Acts.cells {W : World} {A : Option Addr} {l : List ActV} (h : Acts W A l) {i : Nat} (hi : i < l.length) : ∃ (g off : Nat) (x : ActV), A = some ⟨g, off, none⟩ ∧ x.Ok ∧ Hid (∀ w, Below W.heap.size W w →
    w.cell? ⟨g, off + i * 4, none⟩ = some (.int .u8 (x.what : Int)) ∧ w.cell? ⟨g, off + i * 4 + 1, none⟩ = some (.string x.s) ∧ w.cell? ⟨g, off + i * 4 + 2, none⟩ = some (.int .u64 (x.n : Int)) ∧ w.cell? ⟨g, off + i * 4 + 3, none⟩ = some (.int .u64 (x.m : Int))) := by
  obtain ⟨g, off, hA, hg, hc⟩ := h.at_ i hi
  refine ⟨g, off, l[i], hA, h.ok _ (List.getElem_mem hi), Lib.hid fun w hb => ?_⟩
  have key : ∀ j, j < 4 → w.cell? ⟨g, off + i * 4 + j, none⟩ = (l[i].cells)[j]? := fun j hj => (hb.cell (p := ⟨g, off + i * 4 + j, none⟩) hg).trans (hc j hj)
  exact ⟨key 0 (by omega), key 1 (by omega), key 2 (by omega), key 3 (by omega)⟩

/-- At p lies a tape that is s, at B the document's, that is u; both have come since W; neither has more than n bytes. -/
def Pair (W : World) (p : Value) (B : Nat) (n : Nat) (s u : ST) (w : World) : Prop :=
  ∃ (d : TV) (r : RT), d.ptr = p ∧ d.s = s ∧ r.st = u ∧ d.In w ∧ RIn B r w ∧ Below W.heap.size W w ∧ (∀ k, d.mine k → W.heap.size ≤ k) ∧ W.heap.size ≤ B ∧ s.fin ≤ n ∧ u.fin ≤ n

section
variable {W w : World} {p : Value} {B n : Nat} {s u : ST}
theorem Pair.since (h : Pair W p B n s u w) : Below W.heap.size W w := by obtain ⟨d, r, _, _, _, _, _, h, _⟩ := h; exact h
theorem Pair.keeps {w' : World} (h : Pair W p B n s u w) (hb : Below w.heap.size w w') : Pair W p B n s u w' := by
  obtain ⟨d, r, h1, h2, h3, h4, h5, h6, h7⟩ := h
  exact ⟨d, r, h1, h2, h3, h4.keeps hb, h5.keeps hb, h6.trans (hb.mono h6.size), h7⟩
theorem Pair.drewN (h : Pair W p B n s u w) (k : Nat) : Pair W p B n s u (w.drewN k) := h.keeps ⟨rfl, rfl, rfl, Nat.le_refl _, fun _ _ => rfl⟩
theorem Pair.ok (h : Pair W p B n s u w) : s.Ok := by obtain ⟨d, r, _, rfl, _, h, _⟩ := h; exact h.ok
theorem Pair.does (h : Pair W p B n s u w) (x : ActV) (hx : x.Ok) (hs : x.s.size ≤ 300) (hn : n ≤ 1000000) :
    Calls Try.prog 15 #[p, rptr B, x.val] w fun e w' => ∃ b, e = .returned (.bool b) ∧ (s = u → b = true) ∧ Pair W p B (n + 300) (s.act x) (u.act x) w' := by
  obtain ⟨d, r, rfl, rfl, rfl, h4, h5, h6, h7, h8, h9, h10⟩ := h
  refine (does_any d B r x w h4 h5 hx (by omega) (by omega)).mono ?_
  rintro e w' ⟨b, d', r', he, hb, e2, e3, k1, k2, k3, k4, k5⟩
  have a1 := (h4.ok.act x (by omega)).2
  have a2 := (h5.ok.ok.act x (by omega)).2
  refine ⟨b, he, hb, d', r', by unfold TV.ptr; rw [e2], e3, k3, k1, k2, ?_, fun k hk => ?_, h8, by omega, by omega⟩
  · exact h6.trans ⟨k4.os, k4.tape, k4.output, k4.size, fun k hk => k4.block k (Nat.lt_of_lt_of_le hk h6.size) (by
      rintro (e | e)
      · have := h7 k e; omega
      · omega)⟩
  · rcases k5 k hk with h | h
    · exact h7 k h
    · exact Nat.le_trans h6.size h
theorem Pair.base (h : Pair W p B n s u w) : Calls Try.prog 22 #[p] w fun e w' => e = .returned (.int .u64 (s.base : Int)) ∧ w = w' := by
  obtain ⟨d, r, rfl, rfl, rfl, h4, h5⟩ := h; exact base_any d w h4
theorem Pair.sure (h : Pair W p B n s u w) : Calls Try.prog 21 #[p] w fun e w' => e = .returned (.int .u64 (s.sure : Int)) ∧ w = w' := by
  obtain ⟨d, r, rfl, rfl, rfl, h4, h5⟩ := h; exact sure_any d w h4
theorem Pair.End (h : Pair W p B n s u w) : Calls Try.prog 20 #[p] w fun e w' => e = .returned (.int .u64 (s.fin : Int)) ∧ Pair W p B n s u w' := by
  have hh := h
  obtain ⟨d, r, rfl, rfl, rfl, h4, h5⟩ := h
  exact (End_any d w h4).mono fun e w' k => ⟨k.1, k.2 ▸ hh.drewN 1⟩
theorem Pair.room (h : Pair W p B n s u w) : Calls Try.prog 23 #[p] w fun e w' => e = .returned (.int .i64 ((s.room - s.l.length : Nat) : Int)) ∧ Pair W p B n s u w' := by
  have hh := h
  obtain ⟨d, r, rfl, rfl, rfl, h4, h5⟩ := h
  refine (room_any d w h4).mono fun e w' k => ⟨k.1, ?_⟩
  obtain ⟨m, rfl⟩ := k.2
  exact hh.drewN m
end
theorem ST.act_room (s : ST) (x : ActV) : (s.act x).room = s.room := by
  unfold ST.act
  split
  · rfl
  split
  · unfold ST.drop; split <;> rfl
  split
  · unfold ST.cut; split <;> rfl
  split
  · rfl
  split
  · rfl
  · unfold ST.append; split <;> rfl
end Go.Proofs.Ytikcbalofbgdlaa
