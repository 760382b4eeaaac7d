/-
  The walk of the statement LsnsAsks, over what package lsns is held to.
-/
import Derived.Test.YtkcjhkhdpafjhaaLsnsRaises
import Derived.Deep.RegionHeld
import Derived.Deep.RegionHeld3
namespace Go.Proofs.Ytkcjhkhdpafjhaa
open Go.RowKit

/-- The document's Copy, in the form of an answer. -/
theorem rgot_copy (x : LV) (w : World) (h : x.In w) (hn : x.n ≤ 1100) :
    Calls Try.prog 20 #[.agg #[.int .u64 (x.low : Int), .slice x.A x.n x.c]] w fun r w' => ∃ C : LV, r = .returned (.agg #[.int .u64 (C.low : Int), .slice C.A C.n C.c]) ∧ C.s = x.s ∧ C.In w' ∧ C.n = x.n ∧ Own w.heap.size w' C.A C.l ∧ Below w.heap.size w w' :=
  (rcopy_any x w h (by omega)).mono fun r w' ⟨v, hr, hm⟩ => by
    obtain ⟨A, c, rfl, hc, hn2, ho, hb⟩ := hm.own
    exact ⟨⟨x.low, A, x.l.length, c, x.l⟩, hr, rfl, ⟨rfl, hc, hn2, h.low, h.ins, ho.reads⟩, h.len, ho, hb⟩

theorem Keep.calls' {W wx : World} {P : Program} {f : Nat} {args : Array Value} {Q : Ending → Prop} {R : World → Ending → Prop} (hk : Keep W wx) (h : Calls P f args wx fun r w' => Q r ∧ R w' r ∧ Below wx.heap.size wx w') :
    Calls P f args wx fun r w' => Q r ∧ R w' r ∧ Keep W w' := h.mono fun _ _ ⟨e, k, hb⟩ => ⟨e, k, hk.then hb⟩

section
variable (S : LsnsC)
include S

set_option maxRecDepth 100000 in
set_option maxHeartbeats 8000000 in
theorem asks_any (x y : LV) (m : Nat) (w : World) (hx : x.In w) (hy : y.In w) (hn : x.n ≤ 9223372036854775807) (hn2 : y.n ≤ 9223372036854775807) (hm : m < 18446744073709551616) :
    Calls Try.prog 3 #[.agg #[.int .u64 (x.low : Int), .slice x.A x.n x.c], .agg #[.int .u64 (y.low : Int), .slice y.A y.n y.c], .int .u64 (m : Int)] w fun r w' => r = .returned (.bool true) ∧ Below w.heap.size w w' := by
  have HH := Lib.hid (fun w => head_any S w)
  have HG1 := Lib.hid (fun w => great_any x w hn)
  have HG2 := Lib.hid (fun w => great_any y w hn2)
  have hb0 : Below w.heap.size w ((w.alloc (.cells #[.int .u64 (x.low : Int), .slice x.A x.n x.c] 25)).alloc (.cells #[.int .u64 (y.low : Int), .slice y.A y.n y.c] 25)) := (below_new w _).alloc (by rw [size_new]; omega) _
  have HB0 := Lib.hid hb0
  have HX0 := Lib.hid ((AtS.new hx).alloc (.cells #[.int .u64 (y.low : Int), .slice y.A y.n y.c] 25))
  have hy0 := AtS.new (hy.alloc (.cells #[.int .u64 (x.low : Int), .slice x.A x.n x.c] 25))
  rw [size_new] at hy0
  have HY0 := Lib.hid hy0
  clear hb0 hy0 hx hy
  obtain ⟨gx, hgx⟩ : ∃ g, decide (1100 < x.n) = g := ⟨_, rfl⟩
  obtain ⟨gy, hgy⟩ : ∃ g, decide (1100 < y.n) = g := ⟨_, rfl⟩
  rw [hgx] at HG1
  rw [hgy] at HG2
  go_enter Try.func3, Try.ntmps3
  go_wp2_with fail
  refine (HG1.out _).mono ?_
  rintro r w1 ⟨rfl, hb1⟩
  have HB1 := Lib.hid (HB0.out.trans (hb1.mono HB0.out.size))
  have HX1 := Lib.hid (HX0.out.keeps hb1)
  have HY1 := Lib.hid (HY0.out.keeps hb1)
  clear hb1 HB0 HX0 HY0 HG1
  cases gx
  rotate_left
  · clear hgx
    go_wp2_with fail
    refine (HH.out _).mono ?_
    rintro r wh ⟨rfl, hbh⟩
    have HBH := Lib.hid (HB1.out.trans (hbh.mono HB1.out.size))
    clear hbh
    go_wp2
    go_ret
    exact ⟨rfl, HBH.out⟩
  have y0 := HY1.out.c0
  have y1 := HY1.out.c1
  go_wp2_with fail
  clear y0 y1
  refine (HG2.out _).mono ?_
  rintro r w2 ⟨rfl, hb2⟩
  have HB2 := Lib.hid (HB1.out.trans (hb2.mono HB1.out.size))
  have HX2 := Lib.hid (HX1.out.keeps hb2)
  have HY2 := Lib.hid (HY1.out.keeps hb2)
  clear hb2 HB1 HX1 HY1 HG2
  cases gy
  rotate_left
  · clear hgy
    go_wp2_with fail
    refine (HH.out _).mono ?_
    rintro r wh ⟨rfl, hbh⟩
    have HBH := Lib.hid (HB2.out.trans (hbh.mono HB2.out.size))
    clear hbh
    go_wp2
    go_ret
    exact ⟨rfl, HBH.out⟩
  have hnx : x.n ≤ 1100 := by have := of_decide_eq_false hgx; omega
  have hny : y.n ≤ 1100 := by have := of_decide_eq_false hgy; omega
  clear hgx hgy hn hn2
  go_wp2_with fail
  have HC := Lib.hid (show ∀ wx, Keep w2 wx → Keep w2 wx ∧ wx.cell? ⟨w.heap.size, 0, none⟩ = some (.int .u64 (x.low : Int)) ∧ wx.cell? ⟨w.heap.size, 1, none⟩ = some (.slice x.A x.n x.c) ∧ wx.cell? ⟨w.heap.size + 1, 0, none⟩ = some (.int .u64 (y.low : Int)) ∧ wx.cell? ⟨w.heap.size + 1, 1, none⟩ = some (.slice y.A y.n y.c) from fun wx hk =>
    ⟨hk, (HX2.out.keeps hk).c0, (HX2.out.keeps hk).c1, (HY2.out.keeps hk).c0, (HY2.out.keeps hk).c1⟩)
  obtain ⟨v1, hv1⟩ : ∃ v, x.s.right = v := ⟨_, rfl⟩
  obtain ⟨v2, hv2⟩ : ∃ v, x.s.has m = v := ⟨_, rfl⟩
  obtain ⟨v3, hv3⟩ : ∃ v, x.s.most = v := ⟨_, rfl⟩
  obtain ⟨v4, hv4⟩ : ∃ v, decide (x.s = y.s) = v := ⟨_, rfl⟩
  have kR := Lib.hid (fun wx (hk : Keep w2 wx) => hk.calls (S.right x wx (HX2.out.keeps hk).isIn hnx))
  have kRr := Lib.hid (fun wx (hk : Keep w2 wx) => hk.calls (rright_any x wx (HX2.out.keeps hk).isIn (by omega)))
  have kH := Lib.hid (fun wx (hk : Keep w2 wx) => hk.calls (S.has x m wx (HX2.out.keeps hk).isIn hnx hm))
  have kHr := Lib.hid (fun wx (hk : Keep w2 wx) => hk.calls (rhas_any x m wx (HX2.out.keeps hk).isIn (by omega)))
  have kM := Lib.hid (fun wx (hk : Keep w2 wx) => hk.calls (S.most x wx (HX2.out.keeps hk).isIn hnx))
  have kMr := Lib.hid (fun wx (hk : Keep w2 wx) => hk.calls (rmost_any x wx (HX2.out.keeps hk).isIn (by omega)))
  have kS := Lib.hid (fun wx (hk : Keep w2 wx) => hk.calls (S.same x y wx (HX2.out.keeps hk).isIn (HY2.out.keeps hk).isIn hnx hny))
  have kSr := Lib.hid (fun wx (hk : Keep w2 wx) => hk.calls (rsame_any x y wx (HX2.out.keeps hk).isIn (HY2.out.keeps hk).isIn (by omega) (by omega)))
  have kC := Lib.hid (show ∀ wx, Keep w2 wx → Calls Try.prog 20 #[.agg #[.int .u64 (x.low : Int), .slice x.A x.n x.c]] wx fun r w' => ∃ C : LV, r = .returned (.agg #[.int .u64 (C.low : Int), .slice C.A C.n C.c]) ∧ Keep w2 w' ∧ (∀ wy, Keep w2 wy → wy = w' → Calls Try.prog 18 #[.agg #[.int .u64 (x.low : Int), .slice x.A x.n x.c], .agg #[.int .u64 (C.low : Int), .slice C.A C.n C.c]] wy fun r w'' => r = .returned (.bool true) ∧ Keep w2 w'') from
    fun wx hk => (rgot_copy x wx (HX2.out.keeps hk).isIn hnx).mono fun r w' ⟨C, h1, h2, h3, h4, _, h6⟩ =>
      ⟨C, h1, hk.then h6, fun wy hky e => by
        subst e
        refine (hky.calls (S.same x C wy (HX2.out.keeps hky).isIn h3 hnx (by omega))).mono ?_
        rintro r w'' ⟨rfl, hk2⟩
        rw [decide_eq_true (show x.s = C.s from h2.symm)]
        exact ⟨rfl, hk2⟩⟩)
  have kh := Lib.hid (fun wx (hk : Keep w2 wx) => hk.calls (HH.out wx))
  rw [hv1] at kR kRr
  rw [hv2] at kH kHr
  rw [hv3] at kM kMr
  rw [hv4] at kS kSr
  clear hv1 hv2 hv3 hv4 HX2 HY2 HH
  have hk0 : Keep w2 w2.drew := (Below.refl _ w2).drew
  have hk1 : Keep w2 w2 := Below.refl _ w2
  go_region_held3 (fun wx => Keep w2 wx ∧ wx.cell? ⟨w.heap.size, 0, none⟩ = some (.int .u64 (x.low : Int)) ∧ wx.cell? ⟨w.heap.size, 1, none⟩ = some (.slice x.A x.n x.c) ∧ wx.cell? ⟨w.heap.size + 1, 0, none⟩ = some (.int .u64 (y.low : Int)) ∧ wx.cell? ⟨w.heap.size + 1, 1, none⟩ = some (.slice y.A y.n y.c)) (exact HC.out _ (by assumption))
    (first
      | (go_at_call 12; refine (kR.out _ (by assumption)).mono ?_; rintro e wa ⟨rfl, hka⟩)
      | (go_at_call 13; refine (kRr.out _ (by assumption)).mono ?_; rintro e wb ⟨rfl, hkb⟩)
      | (go_at_call 14; refine (kH.out _ (by assumption)).mono ?_; rintro e wc ⟨rfl, hkc⟩)
      | (go_at_call 15; refine (kHr.out _ (by assumption)).mono ?_; rintro e wd ⟨rfl, hkd⟩)
      | (go_at_call 16; refine (kM.out _ (by assumption)).mono ?_; rintro e we ⟨rfl, hke⟩)
      | (go_at_call 17; refine (kMr.out _ (by assumption)).mono ?_; rintro e wf ⟨rfl, hkf⟩)
      | (go_at_call 18; ((with_reducible refine (kS.out _ (by assumption)).mono ?_); rintro e wg ⟨rfl, hkg⟩))
      | (go_at_call 19; refine (kSr.out _ (by assumption)).mono ?_; rintro e wp ⟨rfl, hkp⟩)
      | (go_at_call 20; refine (kC.out _ (by assumption)).mono ?_; rintro e wq ⟨C, rfl, hkq, hsc⟩; have hSC := Lib.hid hsc; clear hsc)
      | (go_at_call 18; refine (hSC.out _ (by assumption) rfl).mono ?_; rintro e wr ⟨rfl, hkr⟩)
      | (go_at_call 11; refine (kh.out _ (by assumption)).mono ?_; rintro e wh ⟨rfl, hkh⟩))
  go_wp2_with fail
  try go_frame
  go_ret
  exact ⟨rfl, HB2.out.trans (hkh.mono HB2.out.size)⟩

end

end Go.Proofs.Ytkcjhkhdpafjhaa
