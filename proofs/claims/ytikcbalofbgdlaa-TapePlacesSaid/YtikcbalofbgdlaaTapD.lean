/-
  A tape that has come since a world; the head; TapeNone's, TapeKeeps' and TapePlaces' walks.
-/
import Derived.Test.YtikcbalofbgdlaaTapC
namespace Go.Proofs.Ytikcbalofbgdlaa
open Go.RowKit

/-- At p lies a tape that has come since W, and is s. -/
def Tape (W : World) (p : Value) (s : ST) (w : World) : Prop := ∃ d : TV, d.ptr = p ∧ d.s = s ∧ d.In w ∧ Below W.heap.size W w ∧ ∀ k, d.mine k → W.heap.size ≤ k

section
variable {W w : World} {p : Value} {s : ST}
theorem Tape.ok (h : Tape W p s w) : s.Ok := by obtain ⟨d, _, rfl, hi, _⟩ := h; exact hi.ok
theorem Tape.since (h : Tape W p s w) : Below W.heap.size W w := by obtain ⟨d, _, _, _, h, _⟩ := h; exact h
theorem Tape.keeps {w' : World} (h : Tape W p s w) (hb : Below w.heap.size w w') : Tape W p s w' := by
  obtain ⟨d, rfl, rfl, hi, hw, hn⟩ := h
  exact ⟨d, rfl, rfl, hi.keeps hb, hw.trans (hb.mono hw.size), hn⟩
theorem Tape.drew (h : Tape W p s w) : Tape W p s w.drew := h.keeps ⟨rfl, rfl, rfl, Nat.le_refl _, fun _ _ => rfl⟩
theorem Tape.drewN (h : Tape W p s w) (n : Nat) : Tape W p s (w.drewN n) := h.keeps ⟨rfl, rfl, rfl, Nat.le_refl _, fun _ _ => rfl⟩
theorem tape_turned {d : TV} {s' : ST} {a : Value} {e : Ending} {w' : World} (hw : Below W.heap.size W w) (hn : ∀ k, d.mine k → W.heap.size ≤ k) (h : d.Turned w s' a e w') : e = .returned a ∧ Tape W d.ptr s' w' := by
  obtain ⟨d', e1, e2, e3, h4, h5, h6⟩ := h
  refine ⟨e1, d', by unfold TV.ptr; rw [e2], e3, h4, hw.trans ⟨h5.os, h5.tape, h5.output, h5.size, fun k hk => h5.block k (Nat.lt_of_lt_of_le hk hw.size) fun hm => ?_⟩, fun k hk => ?_⟩
  · have := hn k hm; omega
  · rcases h6 k hk with h7 | h7
    · exact hn k h7
    · exact Nat.le_trans hw.size h7
theorem new_tape (room : Int) (hr : room ≤ 9223372036854775807) (hw : Below W.heap.size W w) : Calls Try.prog 8 #[.int .i64 room] w fun e w' => ∃ A : Nat, e = .returned (.pointer (some ⟨A, 0, none⟩)) ∧ Tape W (.pointer (some ⟨A, 0, none⟩)) ⟨room.toNat, 0, 0, []⟩ w' := by
  refine (new_any room w hr).mono ?_
  rintro e w' ⟨d, rfl, hi, hb, hn, hs⟩
  exact ⟨d.A, rfl, d, rfl, hs, hi, hw.trans (hb.mono hw.size), fun k hk => Nat.le_trans hw.size (hn k hk)⟩
theorem append_tape (h : Tape W p s w) (t : ByteArray) (ht : s.fin + t.size ≤ 100000000) : Calls Try.prog 16 #[p, .string t] w fun e w' => e = .returned (.int .i64 (if s.fits t then 0 else 6)) ∧ Tape W p (s.append t) w' := by
  obtain ⟨d, rfl, rfl, hi, hw, hn⟩ := h
  exact (append_any d t w hi ht).mono fun e w' hh => tape_turned hw hn hh
theorem force_tape (h : Tape W p s w) : Calls Try.prog 17 #[p] w fun e w' => e = .returned (.int .i64 0) ∧ Tape W p s.force w' := by
  obtain ⟨d, rfl, rfl, hi, hw, hn⟩ := h
  exact (force_any d w hi).mono fun e w' hh => tape_turned hw hn hh
theorem drop_tape (h : Tape W p s w) (to : Nat) (k : Int) (hk : k = (to : Int)) : Calls Try.prog 24 #[p, .int .u64 k] w fun e w' => e = .returned (.int .i64 (if s.drops to then 0 else 2)) ∧ Tape W p (s.drop to) w' := by
  subst hk
  obtain ⟨d, rfl, rfl, hi, hw, hn⟩ := h
  exact (drop_any d to w hi).mono fun e w' hh => tape_turned hw hn hh
theorem cut_tape (h : Tape W p s w) (to : Nat) (k : Int) (hk : k = (to : Int)) : Calls Try.prog 25 #[p, .int .u64 k] w fun e w' => e = .returned (.int .i64 (if s.cuts to then 0 else 2)) ∧ Tape W p (s.cut to) w' := by
  subst hk
  obtain ⟨d, rfl, rfl, hi, hw, hn⟩ := h
  exact (cut_any d to w hi).mono fun e w' hh => tape_turned hw hn hh
theorem crash_tape (h : Tape W p s w) (keep : Int) (hk : keep ≤ 9223372036854775807) : Calls Try.prog 18 #[p, .int .i64 keep] w fun e w' => e = .returned (.tuple #[]) ∧ Tape W p (s.crash keep) w' := by
  obtain ⟨d, rfl, rfl, hi, hw, hn⟩ := h
  exact (crash_any d keep w hi hk).mono fun e w' hh => tape_turned hw hn hh
theorem read_tape (h : Tape W p s w) (a b : Nat) (i j : Int) (hi : i = (a : Int)) (hj : j = (b : Int)) : Calls Try.prog 19 #[p, .int .u64 i, .int .u64 j] w fun e w' => e = .returned (.tuple #[.string (s.read a b), .int .i64 (if s.reads a b then 0 else 2)]) ∧ Tape W p s w' := by
  subst hi hj
  have hh := h
  obtain ⟨d, rfl, rfl, hi, hw, hn⟩ := h
  exact (read_any d a b w hi).mono fun e w' hb => ⟨hb.1, hh.keeps hb.2⟩
theorem base_tape (h : Tape W p s w) : Calls Try.prog 22 #[p] w fun e w' => e = .returned (.int .u64 (s.base : Int)) ∧ w = w' := by
  obtain ⟨d, rfl, rfl, hi, hw, hn⟩ := h
  exact base_any d w hi
theorem sure_tape (h : Tape W p s w) : Calls Try.prog 21 #[p] w fun e w' => e = .returned (.int .u64 (s.sure : Int)) ∧ w = w' := by
  obtain ⟨d, rfl, rfl, hi, hw, hn⟩ := h
  exact sure_any d w hi
theorem End_tape (h : Tape W p s w) : Calls Try.prog 20 #[p] w fun e w' => e = .returned (.int .u64 (s.fin : Int)) ∧ Tape W p s w' := by
  have hh := h
  obtain ⟨d, rfl, rfl, hi, hw, hn⟩ := h
  exact (End_any d w hi).mono fun e w' hb => ⟨hb.1, hb.2 ▸ hh.drew⟩
theorem room_tape (h : Tape W p s w) : Calls Try.prog 23 #[p] w fun e w' => e = .returned (.int .i64 ((s.room - s.l.length : Nat) : Int)) ∧ Tape W p s w' := by
  have hh := h
  obtain ⟨d, rfl, rfl, hi, hw, hn⟩ := h
  refine (room_any d w hi).mono fun e w' hb => ⟨hb.1, ?_⟩
  obtain ⟨n, rfl⟩ := hb.2
  exact hh.keeps ⟨rfl, rfl, rfl, Nat.le_refl _, fun _ _ => rfl⟩
end

theorem act2 {a b : Prop} (h : a ∧ b) : a ∧ Hid b := ⟨h.1, Lib.hid h.2⟩

set_option maxRecDepth 100000 in
set_option maxHeartbeats 4000000 in
theorem head_any (w : World) : Calls Try.prog 12 #[] w fun e w' => e = .returned (.bool true) ∧ Below w.heap.size w w' := by
  go_enter Try.func12, Try.ntmps12
  go_wp2_with fail
  refine (new_tape (W := w) 5 (by omega) (Below.refl _ _)).mono ?_
  rintro e w1 ⟨A, rfl, h1⟩
  generalize (Value.pointer (some ⟨A, 0, none⟩)) = p at *
  have H1 := Lib.hid (show Tape w p ⟨5, 0, 0, []⟩ w1 from h1)
  clear h1
  go_wp2_with fail
  refine (append_tape H1.out ⟨#[97, 98, 99]⟩ (by decide)).mono ?_
  rintro e w2 ⟨rfl, h2⟩
  have H2 := Lib.hid (show Tape w p ⟨5, 0, 0, [97, 98, 99]⟩ w2 from h2)
  clear h2 H1
  rw [if_pos (by decide)]
  go_wp2_with fail
  refine (append_tape H2.out ⟨#[100, 101, 102]⟩ (by decide)).mono ?_
  rintro e w1 ⟨rfl, h2⟩
  have H1 := Lib.hid (show Tape w p ⟨5, 0, 0, [97, 98, 99]⟩ w1 from h2)
  clear h2 H2
  rw [if_neg (by decide)]
  go_wp2_with fail
  refine (append_tape H1.out ⟨#[100, 101]⟩ (by decide)).mono ?_
  rintro e w2 ⟨rfl, h2⟩
  have H2 := Lib.hid (show Tape w p ⟨5, 0, 0, [97, 98, 99, 100, 101]⟩ w2 from h2)
  clear h2 H1
  rw [if_pos (by decide)]
  go_wp2_with fail
  refine (room_tape H2.out).mono ?_
  rintro e w1 ⟨rfl, h2⟩
  have H1 := Lib.hid h2
  clear h2 H2
  rw [show ((((⟨5, 0, 0, [97, 98, 99, 100, 101]⟩ : ST).room - (⟨5, 0, 0, [97, 98, 99, 100, 101]⟩ : ST).l.length : Nat)) : Int) = 0 by decide]
  go_wp2_with fail
  refine (force_tape H1.out).mono ?_
  rintro e w2 ⟨rfl, h2⟩
  have H2 := Lib.hid (show Tape w p ⟨5, 0, 5, [97, 98, 99, 100, 101]⟩ w2 from h2)
  clear h2 H1
  go_wp2_with fail
  refine (drop_tape H2.out 2 _ (by decide)).mono ?_
  rintro e w1 ⟨rfl, h2⟩
  have H1 := Lib.hid (show Tape w p ⟨5, 2, 5, [99, 100, 101]⟩ w1 from h2)
  clear h2 H2
  rw [if_pos (by decide)]
  go_wp2_with fail
  refine (room_tape H1.out).mono ?_
  rintro e w2 ⟨rfl, h2⟩
  have H2 := Lib.hid h2
  clear h2 H1
  rw [show ((((⟨5, 2, 5, [99, 100, 101]⟩ : ST).room - (⟨5, 2, 5, [99, 100, 101]⟩ : ST).l.length : Nat)) : Int) = 2 by decide]
  go_wp2_with fail
  refine (append_tape H2.out ⟨#[102, 103]⟩ (by decide)).mono ?_
  rintro e w1 ⟨rfl, h2⟩
  have H1 := Lib.hid (show Tape w p ⟨5, 2, 5, [99, 100, 101, 102, 103]⟩ w1 from h2)
  clear h2 H2
  rw [if_pos (by decide)]
  go_wp2_with fail
  refine (read_tape H1.out 2 7 _ _ (by decide) (by decide)).mono ?_
  rintro e w2 ⟨rfl, h2⟩
  have H2 := Lib.hid h2
  clear h2 H1
  rw [if_pos (by decide), show (⟨5, 2, 5, [99, 100, 101, 102, 103]⟩ : ST).read 2 7 = ⟨#[99, 100, 101, 102, 103]⟩ from rfl]
  go_wp2_with fail
  refine (crash_tape H2.out 1 (by omega)).mono ?_
  rintro e w1 ⟨rfl, h2⟩
  have H1 := Lib.hid (show Tape w p ⟨5, 2, 6, [99, 100, 101, 102]⟩ w1 from h2)
  clear h2 H2
  go_wp2_with fail
  refine (read_tape H1.out 2 6 _ _ (by decide) (by decide)).mono ?_
  rintro e w2 ⟨rfl, h2⟩
  have H2 := Lib.hid h2
  clear h2 H1
  rw [if_pos (by decide), show (⟨5, 2, 6, [99, 100, 101, 102]⟩ : ST).read 2 6 = ⟨#[99, 100, 101, 102]⟩ from rfl]
  go_wp2_with fail
  refine (cut_tape H2.out 4 _ (by decide)).mono ?_
  rintro e w1 ⟨rfl, h2⟩
  have H1 := Lib.hid (show Tape w p ⟨5, 2, 4, [99, 100]⟩ w1 from h2)
  clear h2 H2
  rw [if_pos (by decide)]
  go_wp2_with fail
  refine (read_tape H1.out 1 3 _ _ (by decide) (by decide)).mono ?_
  rintro e w2 ⟨rfl, h2⟩
  have H2 := Lib.hid h2
  clear h2 H1
  rw [if_neg (by decide), show (⟨5, 2, 4, [99, 100]⟩ : ST).read 1 3 = ⟨#[]⟩ from rfl]
  go_wp2_with fail
  refine (sure_tape H2.out).mono ?_
  rintro e w1 ⟨rfl, rfl⟩
  rw [show (((⟨5, 2, 4, [99, 100]⟩ : ST).sure : Nat) : Int) = 4 from rfl]
  go_wp2_with fail
  refine (drop_tape H2.out 5 _ (by decide)).mono ?_
  rintro e w1 ⟨rfl, h2⟩
  have HB := Lib.hid h2.since
  clear h2 H2
  rw [if_neg (by decide)]
  go_wp2
  go_ret
  exact ⟨rfl, HB.out⟩
end Go.Proofs.Ytikcbalofbgdlaa
