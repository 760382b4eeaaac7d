/-
  The walk of the statements' head, over what package lsns is held to.
-/
import Derived.Test.YtkcjhkhdpafjhaaLsnsLaw
import Derived.Laws.BytesArg
import Derived.Laws.BytesString
namespace Go.Proofs.Ytkcjhkhdpafjhaa
open Go.RowKit

theorem run_text {P : Program} {T src : TypeId} {e : TypeId} (hs : P.underlying src = some (.slice e)) (he : P.underlying e = some (.int .u8)) (w : World) (A : Option Addr) (l : List UInt8) (n c : Nat) (hn : l.length = n) (hr : Reads T w A l) :
    ∀ dst, P.underlying dst = some .string → (convert src dst (.slice A n c)).run P w = .ok (.string ⟨l.toArray⟩) w := by
  subst hn
  intro dst hd
  rcases Nat.eq_zero_or_pos l.length with h0 | h0
  · obtain rfl : l = [] := List.eq_nil_of_length_eq_zero h0
    rw [run_convert_bytes_string w src dst e A _ c hs he hd]
    cases A with
    | none => simp [Conv.bytesToString]; rfl
    | some a =>
      have := run_bytesToString (P := P) w a 0 c [] (by simp [loadCells]; rfl)
      exact this
  · obtain ⟨g, off, cs, m, rfl, hrow, hc⟩ := hr h0
    have h := run_convert_bytes_arg (P := P) w src e hs he g off l.length c (l.map fun b => (b.toNat : Int)) (by simp) (fun i hi => by
      rw [hrow.cell, hc i hi, byt_get l i hi]
      simp [List.getD, List.getElem?_eq_getElem hi]) dst hd
    have e : strOfNums (l.map fun b => (b.toNat : Int)) = ⟨l.toArray⟩ := by
      unfold strOfNums
      rw [List.map_map, show ((fun n : Int => UInt8.ofNat n.toNat) ∘ fun b : UInt8 => (b.toNat : Int)) = id from funext fun b => by simp, List.map_id]
    rw [h, e]

/-- Bytes as a text. -/
theorem text_n {T : TypeId} (A : Option Addr) (l : List UInt8) (n c : Nat) (w : World) (hn : l.length = n) (hr : Reads T w A l) : (convert 44 9 (.slice A n c)).run Try.prog w = .ok (.string ⟨l.toArray⟩) w :=
  run_text Try.underlying44 Try.underlying5 w A l n c hn hr _ Try.underlying9


/-- A set that was told, taken apart. -/
theorem Got.parts {w wr : World} {y : LS} {e : Nat} {r : Ending} (h : Got w y e r wr) : ∃ A c, r = .returned (.tuple #[.agg #[.int .u64 (y.low : Int), .slice A y.ins.length c], .int .i64 (e : Int)]) ∧ LV.In wr ⟨y.low, A, y.ins.length, c, y.ins⟩ ∧ Below w.heap.size w wr := by
  obtain ⟨⟨low, A, n, c, l⟩, rfl, rfl, hi, _, hb⟩ := h
  have hl : l.length = n := hi.len
  subst hl
  exact ⟨A, c, rfl, hi, hb⟩

theorem hd_bytes : LS.putB ⟨1, [3]⟩ = [0, 0, 0, 0, 0, 0, 0, 1, 0, 1, 0, 0, 0, 0, 0, 0, 0, 3] := by decide +kernel
theorem lit_in (w : World) (low y : Nat) (hl : low < 18446744073709551616) (hy : y < 18446744073709551616) : LV.In (w.alloc (.cells #[.int .u64 (y : Int)] 22)) ⟨low, some ⟨w.heap.size, 0, none⟩, 1, 1, [y]⟩ :=
  ⟨rfl, Nat.le_refl _, fun e => by (cases e), hl, fun k hk => by have := List.mem_singleton.1 hk; omega, rn_one w y⟩

section
variable (S : LsnsC)
include S

theorem hd_add (w : World) (A : Option Addr) (n c : Nat) (h : LV.In w ⟨2, A, n, c, [5]⟩) (hn : n = 1) : Calls Try.prog 21 #[.agg #[.int .u64 2, .slice A n c], .int .u64 4] w fun r w' => ∃ A2 c2, r = .returned (.tuple #[.agg #[.int .u64 2, .slice A2 2 c2], .int .i64 0]) ∧ LV.In w' ⟨2, A2, 2, c2, [4, 5]⟩ ∧ Below w.heap.size w w' :=
  (S.add ⟨2, A, n, c, [5]⟩ 4 w h (by show n ≤ 1100; omega) (by decide)).mono fun _ _ hg => hg.parts
theorem hd_raise (w : World) (A : Option Addr) (n c : Nat) (h : LV.In w ⟨2, A, n, c, [4, 5]⟩) (hn : n = 2) : Calls Try.prog 23 #[.agg #[.int .u64 2, .slice A n c], .int .u64 4] w fun r w' => ∃ A2 c2, r = .returned (.tuple #[.agg #[.int .u64 4, .slice A2 1 c2], .int .i64 0]) ∧ LV.In w' ⟨4, A2, 1, c2, [5]⟩ ∧ Below w.heap.size w w' :=
  (S.raise ⟨2, A, n, c, [4, 5]⟩ 4 w h (by show n ≤ 1100; omega) (by decide)).mono fun _ _ hg => hg.parts
theorem hd_join (w : World) : Calls Try.prog 25 #[.agg #[.int .u64 2, .slice none 0 0], .agg #[.int .u64 3, .slice none 0 0]] w fun r w' => ∃ A2 c2, r = .returned (.tuple #[.agg #[.int .u64 0, .slice A2 0 c2], .int .i64 9]) ∧ LV.In w' ⟨0, A2, 0, c2, []⟩ ∧ Below w.heap.size w w' :=
  (S.apart ⟨2, none, 0, 0, []⟩ ⟨3, none, 0, 0, []⟩ w ⟨rfl, Nat.le_refl _, fun _ => rfl, by decide, (fun k hk => by cases hk), RN.nil⟩ ⟨rfl, Nat.le_refl _, fun _ => rfl, by decide, (fun k hk => by cases hk), RN.nil⟩ (by decide) (by decide) (by decide)).mono fun _ _ hg => hg.parts
theorem hd_most (w : World) (A : Option Addr) (n c : Nat) (h : LV.In w ⟨2, A, n, c, [4, 5]⟩) (hn : n = 2) : Calls Try.prog 16 #[.agg #[.int .u64 2, .slice A n c]] w fun r w' => r = .returned (.int .u64 5) ∧ Below w.heap.size w w' :=
  S.most ⟨2, A, n, c, [4, 5]⟩ w h (by show n ≤ 1100; omega)
theorem hd_put (w : World) (A : Option Addr) (n c : Nat) (h : LV.In w ⟨1, A, n, c, [3]⟩) (hn : n = 1) : Calls Try.prog 27 #[.agg #[.int .u64 1, .slice A n c]] w fun r w' => ∃ A2 c2, r = .returned (.tuple #[.slice A2 18 c2, .int .i64 0]) ∧ Reads 5 w' A2 [0, 0, 0, 0, 0, 0, 0, 1, 0, 1, 0, 0, 0, 0, 0, 0, 0, 3] ∧ Below w.heap.size w w' :=
  (S.put ⟨1, A, n, c, [3]⟩ w h (by show n ≤ 1100; omega)).mono fun _ _ ⟨A2, c2, hr, _, _, h1, h2⟩ => ⟨A2, c2, by rw [show LV.s ⟨1, A, n, c, [3]⟩ = ⟨1, [3]⟩ from rfl, hd_bytes] at hr; exact hr, by rw [← hd_bytes]; exact h1, h2⟩

set_option maxRecDepth 100000 in
set_option maxHeartbeats 2000000 in
theorem head_any (w : World) : Calls Try.prog 11 #[] w fun r w' => r = .returned (.bool true) ∧ Below w.heap.size w w' := by
  have HI0 := Lib.hid ((lit_in w 2 5 (by decide) (by decide)).alloc (.cells #[.int .u64 2, .slice (some ⟨w.heap.size, 0, none⟩) 1 1] 25))
  have HB0 := Lib.hid ((below_new w (.cells #[.int .u64 5] 22)).alloc (by rw [size_new]; omega) (.cells #[.int .u64 2, .slice (some ⟨w.heap.size, 0, none⟩) 1 1] 25))
  go_enter Try.func11, Try.ntmps11
  go_wp2_with fail
  refine (hd_add S _ _ _ _ HI0.out rfl).mono ?_
  rintro r w1 ⟨A1, c1, rfl, hi1, hb1⟩
  have HB1 := Lib.hid ((HB0.out.trans (hb1.mono HB0.out.size)))
  have H1 := Lib.hid (AtS.new hi1)
  have HB1' := Lib.hid (HB1.out.alloc HB1.out.size (.cells #[.int .u64 2, .slice A1 2 c1] 25))
  clear hi1 hb1 HI0 HB0 HB1
  go_wp2_with fail
  refine (hd_raise S _ _ _ _ H1.out.isIn rfl).mono ?_
  rintro r w2 ⟨A2, c2, rfl, hi2, hb2⟩
  have HB2 := Lib.hid ((HB1'.out.trans (hb2.mono HB1'.out.size)))
  have H12 := Lib.hid ((H1.out.keeps hb2).alloc (.cells #[.int .u64 4, .slice A2 1 c2] 25))
  have H2 := Lib.hid (AtS.new hi2)
  have HB2' := Lib.hid (HB2.out.alloc HB2.out.size (.cells #[.int .u64 4, .slice A2 1 c2] 25))
  clear hi2 hb2 H1 HB1' HB2
  go_wp2_with fail
  refine (hd_join S _).mono ?_
  rintro r w3 ⟨A3, c3, rfl, hi3, hb3⟩
  have HB3 := Lib.hid ((HB2'.out.trans (hb3.mono HB2'.out.size)).alloc (HB2'.out.trans (hb3.mono HB2'.out.size)).size (.cells #[.int .u64 0, .slice A3 0 c3] 25))
  have H13 := Lib.hid ((H12.out.keeps hb3).alloc (.cells #[.int .u64 0, .slice A3 0 c3] 25))
  have H23 := Lib.hid ((H2.out.keeps hb3).alloc (.cells #[.int .u64 0, .slice A3 0 c3] 25))
  clear hi3 hb3 H12 H2 HB2'
  obtain ⟨W3, hW3⟩ : ∃ W, w3.alloc (.cells #[.int .u64 0, .slice A3 0 c3] 25) = W := ⟨_, rfl⟩
  rw [hW3] at HB3 H13 H23
  have HB4 := Lib.hid ((HB3.out.alloc HB3.out.size (.cells #[.int .u64 3] 22)))
  have H14 := Lib.hid (H13.out.alloc (.cells #[.int .u64 3] 22))
  have H24 := Lib.hid (H23.out.alloc (.cells #[.int .u64 3] 22))
  have HI4 := Lib.hid (lit_in W3 1 3 (by decide) (by decide))
  clear HB3 H13 H23
  go_wp2_with fail
  refine (hd_put S _ _ _ _ HI4.out rfl).mono ?_
  rintro r w5 ⟨A5, c5, rfl, hr5, hb5⟩
  have HB5 := Lib.hid (HB4.out.trans (hb5.mono HB4.out.size))
  have H15 := Lib.hid (H14.out.keeps hb5)
  have H25 := Lib.hid (H24.out.keeps hb5)
  have hcell := H15.out.isIn.reads.cells (show 0 < 2 by decide)
  obtain ⟨g1, o1, hA1, hc1⟩ := hcell
  simp only at hA1
  subst hA1
  have k0 := hc1 0 (show 0 < 2 by decide)
  simp only [Nat.add_zero, List.getElem_cons_zero] at k0
  have c10 := H15.out.c0
  have c11 := H15.out.c1
  have c20 := H25.out.c0
  have c21 := H25.out.c1
  simp only at c10 c11 c20 c21
  have HR5 := Lib.hid hr5
  clear hb5 H14 H24 HB4 HI4 hc1 hr5 hW3
  have HM := Lib.hid (hd_most S w5 _ _ _ H15.out.isIn rfl)
  have HT := Lib.hid (fun w (hr : Reads 5 w A5 [0, 0, 0, 0, 0, 0, 0, 1, 0, 1, 0, 0, 0, 0, 0, 0, 0, 3]) => run_text (P := Try.prog) Try.underlying44 Try.underlying5 w A5 _ 18 c5 rfl hr _ Try.underlying9)
  go_wp2_with (go_at_call 16; refine HM.out.mono ?_; rintro e w6 ⟨rfl, hb6⟩; have ht := HT.out _ (HR5.out.below hb6 (Nat.le_refl _)))
  go_ret
  exact ⟨rfl, HB5.out.trans (hb6.mono HB5.out.size)⟩

end

end Go.Proofs.Ytkcjhkhdpafjhaa
