/-
  A fabric that has come since a world; the head.
-/
import Derived.Test.YtamanckcnhhaiaaFabClear
namespace Go.Proofs.Ytamanckcnhhaiaa
open Go.RowKit

/-- At p lies a fabric that has come since W, and has these messages. -/
def Fab (W : World) (p : Value) (l : List MB) (w : World) : Prop := ∃ d : FV, d.ptr = p ∧ d.l = l ∧ d.In w ∧ Below W.heap.size W w ∧ ∀ k, d.mine k → W.heap.size ≤ k

section
variable {W w : World} {p : Value} {l : List MB}
theorem Fab.since (h : Fab W p l w) : Below W.heap.size W w := by obtain ⟨d, _, _, _, h, _⟩ := h; exact h
theorem Fab.keeps {w' : World} (h : Fab W p l w) (hb : Below w.heap.size w w') : Fab W p l w' := by
  obtain ⟨d, rfl, rfl, hi, hw, hn⟩ := h
  exact ⟨d, rfl, rfl, hi.keeps hb, hw.trans (hb.mono hw.size), hn⟩
theorem fab_turned {d : FV} {l' : List MB} {a : Value} {e : Ending} {w' : World} (hw : Below W.heap.size W w) (hn : ∀ k, d.mine k → W.heap.size ≤ k) (h : d.Turned w l' a e w') : e = .returned a ∧ Fab W d.ptr l' w' := by
  obtain ⟨d', e1, e2, e3, h4, h5, h6⟩ := h
  refine ⟨e1, d', by unfold FV.ptr; rw [e2], e3, h4, hw.trans ⟨h5.os, h5.tape, h5.output, h5.size, fun k hk => h5.block k (Nat.lt_of_lt_of_le hk hw.size) fun hm => ?_⟩, fun k hk => ?_⟩
  · have := hn k hm; omega
  · rcases h6 k hk with h7 | h7
    · exact hn k h7
    · exact Nat.le_trans hw.size h7
theorem new_fab (hw : Below W.heap.size W w) : Calls Try.prog 5 #[] w fun e w' => ∃ A : Nat, e = .returned (.pointer (some ⟨A, 0, none⟩)) ∧ Fab W (.pointer (some ⟨A, 0, none⟩)) [] w' := by
  refine (new_any w).mono ?_
  rintro e w' ⟨d, rfl, hl, hi, hb, hn⟩
  exact ⟨d.b, rfl, d, rfl, hl, hi, hw.trans (hb.mono hw.size), fun k hk => Nat.le_trans hw.size (hn k hk)⟩
theorem send_fab (h : Fab W p l w) (f t : Int) (s : ByteArray) (hs : s.size ≤ 262144) (hL : l.length ≤ 100000) : Calls Try.prog 6 #[p, .int .i64 f, .int .i64 t, .string s] w fun e w' => e = .returned (.int .i64 (addE l ((f, t), s))) ∧ Fab W p (addL l ((f, t), s)) w' := by
  obtain ⟨d, rfl, rfl, hi, hw, hn⟩ := h
  exact (send_any d f t s w hi hs hL).mono fun e w' hh => fab_turned hw hn hh
theorem double_fab (h : Fab W p l w) (f t : Int) (j q : Nat) (m : MB) (i : Int) (hij : i = (j : Int)) (hL : l.length ≤ 100000) (hq : (qs l (f, t))[j]? = some (j, q)) (hm : l[q]? = some m) : Calls Try.prog 9 #[p, .int .i64 f, .int .i64 t, .int .i64 i] w fun e w' => e = .returned (.int .i64 (addE l m)) ∧ Fab W p (addL l m) w' := by
  subst hij
  obtain ⟨d, rfl, rfl, hi, hw, hn⟩ := h
  obtain ⟨hp, rfl⟩ := List.getElem?_eq_some_iff.1 hm
  exact (double_at d f t j q w hi hL hq hp).mono fun e w' hh => fab_turned hw hn hh
theorem take_fab (h : Fab W p l w) (f t : Int) (j q : Nat) (m : MB) (i : Int) (hij : i = (j : Int)) (hL : l.length ≤ 100000) (hq : (qs l (f, t))[j]? = some (j, q)) (hm : l[q]? = some m) : Calls Try.prog 7 #[p, .int .i64 f, .int .i64 t, .int .i64 i] w fun e w' => e = .returned (.tuple #[.string m.2, .int .i64 0]) ∧ Fab W p (l.eraseIdx q) w' := by
  subst hij
  obtain ⟨d, rfl, rfl, hi, hw, hn⟩ := h
  obtain ⟨hp, rfl⟩ := List.getElem?_eq_some_iff.1 hm
  exact (take_at d f t j q w hi hL hq hp).mono fun e w' hh => fab_turned hw hn hh
theorem take_fab_no (h : Fab W p l w) (f t at_ : Int) (hL : l.length ≤ 100000) (hq : at_ < 0 ∨ ((qu l (f, t)).length : Int) ≤ at_) : Calls Try.prog 7 #[p, .int .i64 f, .int .i64 t, .int .i64 at_] w fun e w' => e = .returned (.tuple #[.string ⟨#[]⟩, .int .i64 7]) ∧ Fab W p l w' := by
  have hh := h
  obtain ⟨d, rfl, rfl, hi, hw, hn⟩ := h
  exact (take_no d f t at_ w hi (by omega) hq).mono fun e w' hb => ⟨hb.1, hh.keeps hb.2⟩
/-- Besides, a row of its own holds the way x. -/
def FabR (W : World) (p : Value) (l : List MB) (g : Nat) (x : Int × Int) (w : World) : Prop := ∃ d : FV, d.ptr = p ∧ d.l = l ∧ d.In w ∧ Below W.heap.size W w ∧ (∀ k, d.mine k → W.heap.size ≤ k) ∧ ¬ d.mine g ∧ g < w.heap.size ∧ w.cell? ⟨g, 0, none⟩ = some (.int .i64 x.1) ∧ w.cell? ⟨g, 1, none⟩ = some (.int .i64 x.2)
theorem FabR.fab {g : Nat} {x : Int × Int} (h : FabR W p l g x w) : Fab W p l w := by
  obtain ⟨d, h1, h2, h3, h4, h5, _⟩ := h
  exact ⟨d, h1, h2, h3, h4, h5⟩
theorem FabR.cells {g : Nat} {x : Int × Int} (h : FabR W p l g x w) : w.cell? ⟨g, 0, none⟩ = some (.int .i64 x.1) ∧ w.cell? ⟨g, 1, none⟩ = some (.int .i64 x.2) := by
  obtain ⟨d, _, _, _, _, _, _, _, h1, h2⟩ := h
  exact ⟨h1, h2⟩
theorem FabR.keeps {g : Nat} {x : Int × Int} {w' : World} (h : FabR W p l g x w) (hb : Below w.heap.size w w') : FabR W p l g x w' := by
  obtain ⟨d, rfl, rfl, hi, hw, hn, hg, hl, h1, h2⟩ := h
  exact ⟨d, rfl, rfl, hi.keeps hb, hw.trans (hb.mono hw.size), hn, hg, Nat.lt_of_lt_of_le hl hb.size, (hb.cell (p := ⟨g, 0, none⟩) hl).trans h1, (hb.cell (p := ⟨g, 1, none⟩) hl).trans h2⟩
theorem ways_fab {x : MB} (h : Fab W p [x] w) : Calls Try.prog 10 #[p] w fun e w' => ∃ g c, e = .returned (.slice (some ⟨g, 0, none⟩) 1 c) ∧ FabR W p [x] g x.1 w' := by
  obtain ⟨d, rfl, hl, hi, hw, hn⟩ := h
  refine (ways_one d x w hi hl).mono ?_
  rintro e w' ⟨g, c, rfl, hg, h1, h2, hb⟩
  exact ⟨g, c, rfl, d, rfl, hl, hi.keeps hb, hw.trans (hb.mono hw.size), hn, fun hm => by have := hi.mineLt g hm; omega, World.block_lt_of_cell? _ _ h1, h1, h2⟩
theorem ways_fab_zero (h : Fab W p [] w) : Calls Try.prog 10 #[p] w fun e w' => e = .returned (.slice none 0 0) ∧ w' = w := by
  obtain ⟨d, rfl, hl, hi, hw, hn⟩ := h
  exact ways_zero d w hi hl
theorem clear_fab {s : ByteArray} {g : Nat} {x : Int × Int} (h : FabR W p [((0, 1), s)] g x w) : Calls Try.prog 11 #[p, .int .i64 1] w fun e w' => e = .returned (.tuple #[]) ∧ FabR W p [] g x w' := by
  obtain ⟨d, rfl, hl, hi, hw, hn, hg, hlt, h1, h2⟩ := h
  refine (clear_one d s w hi hl).mono fun e w' hh => ?_
  have hh2 := hh
  obtain ⟨d', e1, e2, e3, h4, h5, h6⟩ := hh
  have hbl := h5.block g hlt hg
  refine ⟨e1, d', by unfold FV.ptr; rw [e2], e3, h4, ?_, ?_, ?_, Nat.lt_of_lt_of_le hlt h5.size, (cell_same hbl 0).trans h1, (cell_same hbl 1).trans h2⟩
  · exact (fab_turned hw hn hh2).2.since
  · intro k hk
    rcases h6 k hk with h7 | h7
    · exact hn k h7
    · exact Nat.le_trans hw.size h7
  · intro hm
    rcases h6 g hm with h7 | h7
    · exact hg h7
    · omega
end

set_option maxRecDepth 100000 in
set_option maxHeartbeats 4000000 in
theorem head_any (w : World) : Calls Try.prog 4 #[] w fun e w' => e = .returned (.bool true) ∧ Below w.heap.size w w' := by
  go_enter Try.func4, Try.ntmps4
  go_wp2_with fail
  refine (new_fab (W := w) (Below.refl _ _)).mono ?_
  rintro e w1 ⟨A, rfl, h1⟩
  generalize (Value.pointer (some ⟨A, 0, none⟩)) = p at *
  have H1 := Lib.hid (show Fab w p [] w1 from h1)
  clear h1
  go_wp2_with fail
  refine (send_fab H1.out 0 1 ⟨#[97]⟩ (by decide) (by decide)).mono ?_
  rintro e w2 ⟨rfl, h2⟩
  have H2 := Lib.hid (show Fab w p [((0, 1), ⟨#[97]⟩)] w2 from h2)
  rw [show addE [] ((0, 1), ⟨#[97]⟩) = 0 from rfl]
  clear h2 H1
  go_wp2_with fail
  refine (send_fab H2.out 0 1 ⟨#[98]⟩ (by decide) (by decide)).mono ?_
  rintro e w1 ⟨rfl, h2⟩
  have H1 := Lib.hid (show Fab w p [((0, 1), ⟨#[97]⟩), ((0, 1), ⟨#[98]⟩)] w1 from h2)
  rw [show addE [((0, 1), ⟨#[97]⟩)] ((0, 1), ⟨#[98]⟩) = 0 from rfl]
  clear h2 H2
  go_wp2_with fail
  refine (double_fab H1.out 0 1 0 0 ((0, 1), ⟨#[97]⟩) _ rfl (by decide) rfl rfl).mono ?_
  rintro e w2 ⟨rfl, h2⟩
  have H2 := Lib.hid (show Fab w p [((0, 1), ⟨#[97]⟩), ((0, 1), ⟨#[98]⟩), ((0, 1), ⟨#[97]⟩)] w2 from h2)
  rw [show addE [((0, 1), ⟨#[97]⟩), ((0, 1), ⟨#[98]⟩)] ((0, 1), ⟨#[97]⟩) = 0 from rfl]
  clear h2 H1
  go_wp2_with fail
  refine (take_fab H2.out 0 1 1 1 ((0, 1), ⟨#[98]⟩) _ rfl (by decide) rfl rfl).mono ?_
  rintro e w1 ⟨rfl, h2⟩
  have H1 := Lib.hid (show Fab w p [((0, 1), ⟨#[97]⟩), ((0, 1), ⟨#[97]⟩)] w1 from h2)
  clear h2 H2
  go_wp2_with fail
  refine (take_fab H1.out 0 1 1 1 ((0, 1), ⟨#[97]⟩) _ rfl (by decide) rfl rfl).mono ?_
  rintro e w2 ⟨rfl, h2⟩
  have H2 := Lib.hid (show Fab w p [((0, 1), ⟨#[97]⟩)] w2 from h2)
  clear h2 H1
  go_wp2_with fail
  refine (take_fab_no H2.out 0 1 1 (by decide) (.inr (by decide))).mono ?_
  rintro e w1 ⟨rfl, h2⟩
  have H1 := Lib.hid h2
  clear h2 H2
  go_wp2_with fail
  refine (ways_fab H1.out).mono ?_
  rintro e w2 ⟨g, c, rfl, h2⟩
  have H2 := Lib.hid h2
  clear h2 H1
  go_wp2_with fail
  refine (clear_fab H2.out).mono ?_
  rintro e w1 ⟨rfl, h2⟩
  have H1 := Lib.hid h2
  clear h2 H2
  go_wp2_with fail
  refine (take_none 0 0 0 w1).mono ?_
  rintro e w2 ⟨rfl, hb⟩
  have H2 := Lib.hid (H1.out.keeps hb)
  obtain ⟨k0, k1⟩ := H2.out.cells
  have HE := fun wx => way_eq 0 1 (0, 1) rfl wx
  simp only at k0 k1 HE
  clear hb H1
  go_wp2_with first
    | (go_at_call 10; with_reducible refine (ways_fab_zero H2.out.fab).mono ?_; rintro e wx ⟨rfl, rfl⟩)
    | (go_at_call 6; with_reducible refine (send_none 0 0 ⟨#[]⟩ _).mono ?_; rintro e wx ⟨rfl, rfl⟩)
    | (go_at_call 9; with_reducible refine (double_none 0 0 0 _).mono ?_; rintro e w3 ⟨rfl, hb3⟩; have HB3 := Lib.hid hb3; clear hb3)
    | (go_at_call 8; with_reducible refine (count_none 0 0 _).mono ?_; rintro e wx ⟨rfl, rfl⟩)
    | (go_at_call 10; with_reducible refine (ways_none _).mono ?_; rintro e wx ⟨rfl, rfl⟩)
  go_ret
  exact ⟨rfl, H2.out.fab.since.trans (HB3.out.mono H2.out.fab.since.size)⟩
end Go.Proofs.Ytamanckcnhhaiaa
