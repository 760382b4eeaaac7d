/-
  The walk of the statement LsnsRaises, over what package lsns is held to.
-/
import Derived.Test.YtkcjhkhdpafjhaaLsnsHead
namespace Go.Proofs.Ytkcjhkhdpafjhaa
open Go.RowKit

/-- A call's answer that is a right set: not great. -/
def GotS (w : World) (y : LS) (e : Nat) (r : Ending) (wr : World) : Prop :=
  ∃ Y : LV, r = .returned (.tuple #[.agg #[.int .u64 (Y.low : Int), .slice Y.A Y.n Y.c], .int .i64 (e : Int)]) ∧ Y.s = y ∧ Y.In wr ∧ Y.n ≤ 1000 ∧ Below w.heap.size w wr
theorem Got.small {w wr : World} {y : LS} {e : Nat} {r : Ending} (h : Got w y e r wr) (hy : y.right = true) : GotS w y e r wr := by
  obtain ⟨Y, hr, rfl, hi, _, hb⟩ := h
  exact ⟨Y, hr, rfl, hi, by rw [hi.len']; exact LS.right_len hy, hb⟩

theorem raise_raise (s : LS) (a b : Nat) : (s.raiseS a).raiseS b = s.raiseS (max a b) := by
  unfold LS.raiseS
  simp only [LS.mk.injEq]
  refine ⟨by omega, ?_⟩
  rw [List.filter_filter]
  apply List.filter_congr
  intro x _
  rw [Bool.eq_iff_iff]
  simp
  omega
theorem raise_add {s : LS} {a b : Nat} (h1 : s.addE b = 0) (h2 : (s.raiseS a).addE b = 0) : (s.addS b).raiseS a = (s.raiseS a).addS b := by
  obtain ⟨r1, r2⟩ := LS.add_right h1
  obtain ⟨r3, r4⟩ := LS.add_right h2
  obtain ⟨_, l1, m1⟩ := LS.add_asc r1 b
  obtain ⟨_, l2, m2⟩ := LS.add_asc r3 b
  have hl : ((s.addS b).raiseS a).low = ((s.raiseS a).addS b).low := by
    rw [l2]
    show max (s.addS b).low a = max s.low a
    rw [l1]
  have hi : ((s.addS b).raiseS a).ins = ((s.raiseS a).addS b).ins := by
    refine asc_ext ((LS.right_iff _).1 (LS.raise_right r2 a)).2 ((LS.right_iff _).1 r4).2 fun x => ?_
    rw [m2]
    show x ∈ (s.addS b).ins.filter _ ↔ x ∈ s.ins.filter _ ∨ (x = b ∧ max s.low a < b)
    rw [List.mem_filter, List.mem_filter, m1, l1, decide_eq_true_eq]
    constructor
    · rintro ⟨h | ⟨rfl, h⟩, k⟩
      · exact .inl ⟨h, k⟩
      · exact .inr ⟨rfl, k⟩
    · rintro (⟨h, k⟩ | ⟨rfl, k⟩)
      · exact ⟨.inl h, k⟩
      · exact ⟨.inr ⟨rfl, by omega⟩, k⟩
  cases h3 : (s.addS b).raiseS a
  cases h4 : (s.raiseS a).addS b
  rw [h3, h4] at hl hi
  simp only at hl hi
  rw [hl, hi]

section
variable (S : LsnsC)
include S

theorem raise_ok (x : LV) (m : Nat) (w : World) (h : x.In w) (hn : x.n ≤ 1100) (hm : m < 18446744073709551616) (hr : x.s.right = true) :
    Calls Try.prog 23 #[.agg #[.int .u64 (x.low : Int), .slice x.A x.n x.c], .int .u64 (m : Int)] w (GotS w (x.s.raiseS m) 0) :=
  (S.raise x m w h hn hm).mono fun _ _ hg => by
    have e : x.s.raiseE = 0 := by unfold LS.raiseE; rw [if_pos hr]
    have := hg.small (LS.raiseZ_right _ _)
    rw [e] at this
    exact this
theorem add_ok (x : LV) (m : Nat) (w : World) (h : x.In w) (hn : x.n ≤ 1100) (hm : m < 18446744073709551616) :
    Calls Try.prog 21 #[.agg #[.int .u64 (x.low : Int), .slice x.A x.n x.c], .int .u64 (m : Int)] w (GotS w ((x.s.addS m).orZ (x.s.addE m)) (x.s.addE m)) :=
  (S.add x m w h hn hm).mono fun _ _ hg => hg.small (LS.addZ_right _ _)
set_option maxRecDepth 100000 in
set_option maxHeartbeats 4000000 in
theorem raises_any (x : LV) (a b : Nat) (w : World) (h : x.In w) (hn : x.n ≤ 9223372036854775807) (ha : a < 18446744073709551616) (hb : b < 18446744073709551616) :
    Calls Try.prog 8 #[.agg #[.int .u64 (x.low : Int), .slice x.A x.n x.c], .int .u64 (a : Int), .int .u64 (b : Int)] w fun r w' => r = .returned (.bool true) ∧ Below w.heap.size w w' := by
  have HH := Lib.hid (fun w => head_any S w)
  have HG := Lib.hid (fun w => great_any x w hn)
  have H0 := Lib.hid (AtS.new h)
  have HB0 := Lib.hid (below_new w (.cells #[.int .u64 (x.low : Int), .slice x.A x.n x.c] 25))
  by_cases hg : 1100 < x.n
  · rw [decide_eq_true hg] at HG
    go_enter Try.func8, Try.ntmps8
    go_wp2_with fail
    refine (HG.out _).mono ?_
    rintro r w1 ⟨rfl, hb1⟩
    have HB1 := Lib.hid (HB0.out.trans (hb1.mono HB0.out.size))
    clear hb1
    go_wp2_with fail
    refine (HH.out _).mono ?_
    rintro r w2 ⟨rfl, hb2⟩
    have HB2 := Lib.hid (HB1.out.trans (hb2.mono HB1.out.size))
    clear hb2
    go_wp2
    go_ret
    exact ⟨rfl, HB2.out⟩
  · rw [decide_eq_false hg] at HG
    have hn2 : x.n ≤ 1100 := by omega
    have HRT := Lib.hid (fun w (h : x.In w) => S.right x w h hn2)
    obtain ⟨R, hR⟩ : ∃ R, x.s.right = R := ⟨_, rfl⟩
    rw [hR] at HRT
    have HR := Lib.hid hR
    clear hR hg
    go_enter Try.func8, Try.ntmps8
    go_wp2_with fail
    refine (HG.out _).mono ?_
    rintro r w1 ⟨rfl, hb1⟩
    have HB1 := Lib.hid (HB0.out.trans (hb1.mono HB0.out.size))
    have H1 := Lib.hid (H0.out.keeps hb1)
    clear hb1 H0 HB0
    have c0 := H1.out.c0
    have c1 := H1.out.c1
    go_wp2_with fail
    clear c0 c1
    refine (HRT.out _ H1.out.isIn).mono ?_
    rintro r w2 ⟨rfl, hb2⟩
    have HB2 := Lib.hid (HB1.out.trans (hb2.mono HB1.out.size))
    have H2 := Lib.hid (H1.out.keeps hb2)
    clear hb2 H1 HB1
    cases R
    · go_wp2_with fail
      refine (HH.out _).mono ?_
      rintro r w3 ⟨rfl, hb3⟩
      have HB3 := Lib.hid (HB2.out.trans (hb3.mono HB2.out.size))
      clear hb3
      go_wp2
      go_ret
      exact ⟨rfl, HB3.out⟩
    · -- x, e := Raise(l, a)
      have c0 := H2.out.c0
      have c1 := H2.out.c1
      go_wp2_with fail
      clear c0 c1
      refine (raise_ok S x a _ H2.out.isIn hn2 ha HR.out).mono ?_
      rintro r w3 ⟨X, rfl, hX, hi3, hn3, hb3⟩
      have HX := Lib.hid hX
      have HB3 := Lib.hid ((HB2.out.trans (hb3.mono HB2.out.size)).alloc (HB2.out.trans (hb3.mono HB2.out.size)).size (.cells #[.int .u64 (X.low : Int), .slice X.A X.n X.c] 25))
      have H3 := Lib.hid ((H2.out.keeps hb3).alloc (.cells #[.int .u64 (X.low : Int), .slice X.A X.n X.c] 25))
      have X3 := Lib.hid (AtS.new hi3)
      clear hb3 hi3 hX H2 HB2
      -- y, f := Raise(x, b)
      go_wp2_with fail
      refine (raise_ok S X b _ X3.out.isIn (by omega) hb (by rw [HX.out]; exact LS.raise_right HR.out a)).mono ?_
      rintro r w4 ⟨Y, rfl, hY, hi4, hn4, hb4⟩
      have HY := Lib.hid hY
      have HB4 := Lib.hid ((HB3.out.trans (hb4.mono HB3.out.size)).alloc (HB3.out.trans (hb4.mono HB3.out.size)).size (.cells #[.int .u64 (Y.low : Int), .slice Y.A Y.n Y.c] 25))
      have H4 := Lib.hid ((H3.out.keeps hb4).alloc (.cells #[.int .u64 (Y.low : Int), .slice Y.A Y.n Y.c] 25))
      have X4 := Lib.hid ((X3.out.keeps hb4).alloc (.cells #[.int .u64 (Y.low : Int), .slice Y.A Y.n Y.c] 25))
      have Y4 := Lib.hid (AtS.new hi4)
      clear hb4 hi4 hY H3 X3 HB3
      have c0 := H4.out.c0
      have c1 := H4.out.c1
      obtain ⟨W4, hW4⟩ : ∃ W, w4.alloc (.cells #[.int .u64 (Y.low : Int), .slice Y.A Y.n Y.c] 25) = W := ⟨_, rfl⟩
      rw [hW4] at HB4 H4 X4 Y4 c0 c1
      go_wp2_with fail
      clear c0 c1 hW4
      all_goals
        refine (raise_ok S x _ _ H4.out.isIn hn2 (by assumption) HR.out).mono ?_
        rintro r w5 ⟨Z, rfl, hZ, hi5, hn5, hb5⟩
        have HZ := Lib.hid (show Z.s = x.s.raiseS (max a b) by rw [hZ]; congr 1; omega)
        have HB5 := Lib.hid ((HB4.out.trans (hb5.mono HB4.out.size)).alloc (HB4.out.trans (hb5.mono HB4.out.size)).size (.cells #[.int .u64 (Z.low : Int), .slice Z.A Z.n Z.c] 25))
        have H5 := Lib.hid ((H4.out.keeps hb5).alloc (.cells #[.int .u64 (Z.low : Int), .slice Z.A Z.n Z.c] 25))
        have X5 := Lib.hid ((X4.out.keeps hb5).alloc (.cells #[.int .u64 (Z.low : Int), .slice Z.A Z.n Z.c] 25))
        have Y5 := Lib.hid ((Y4.out.keeps hb5).alloc (.cells #[.int .u64 (Z.low : Int), .slice Z.A Z.n Z.c] 25))
        have Z5 := Lib.hid (AtS.new hi5)
        clear hb5 hi5 hZ H4 X4 Y4 HB4
        have y0 := Y5.out.c0
        have y1 := Y5.out.c1
        obtain ⟨W5, hW5⟩ : ∃ W, w5.alloc (.cells #[.int .u64 (Z.low : Int), .slice Z.A Z.n Z.c] 25) = W := ⟨_, rfl⟩
        rw [hW5] at HB5 H5 X5 Y5 Z5 y0 y1
        have z0 := Z5.out.c0
        have z1 := Z5.out.c1
        go_wp2_with fail
        clear y0 y1 z0 z1 hW5
        refine (S.same Y Z _ Y5.out.isIn Z5.out.isIn (by omega) (by omega)).mono ?_
        rintro r w6 ⟨rfl, hb6⟩
        rw [decide_eq_true (show Y.s = Z.s by rw [HY.out, HX.out, HZ.out]; exact raise_raise _ _ _)]
        have HB6 := Lib.hid (HB5.out.trans (hb6.mono HB5.out.size))
        have H6 := Lib.hid (H5.out.keeps hb6)
        have X6 := Lib.hid (X5.out.keeps hb6)
        clear hb6 H5 X5 Y5 Z5 HB5 HY HZ
        -- p, e := Add(l, b)
        have c0 := H6.out.c0
        have c1 := H6.out.c1
        go_wp2_with fail
        clear c0 c1
        refine (add_ok S x b _ H6.out.isIn hn2 hb).mono ?_
        rintro r w7 ⟨P, rfl, hP, hi7, hn7, hb7⟩
        have HP := Lib.hid hP
        have HB7 := Lib.hid ((HB6.out.trans (hb7.mono HB6.out.size)).alloc (HB6.out.trans (hb7.mono HB6.out.size)).size (.cells #[.int .u64 (P.low : Int), .slice P.A P.n P.c] 25))
        have H7 := Lib.hid ((H6.out.keeps hb7).alloc (.cells #[.int .u64 (P.low : Int), .slice P.A P.n P.c] 25))
        have X7 := Lib.hid ((X6.out.keeps hb7).alloc (.cells #[.int .u64 (P.low : Int), .slice P.A P.n P.c] 25))
        have P7 := Lib.hid (AtS.new hi7)
        clear hb7 hi7 hP H6 X6 HB6
        -- q, f := Raise(p, a)
        go_wp2_with fail
        refine (raise_ok S P a _ P7.out.isIn (by omega) ha (by rw [HP.out]; exact LS.addZ_right _ _)).mono ?_
        rintro r w8 ⟨Q, rfl, hQ, hi8, hn8, hb8⟩
        have HQ := Lib.hid hQ
        have HB8 := Lib.hid ((HB7.out.trans (hb8.mono HB7.out.size)).alloc (HB7.out.trans (hb8.mono HB7.out.size)).size (.cells #[.int .u64 (Q.low : Int), .slice Q.A Q.n Q.c] 25))
        have X8 := Lib.hid ((X7.out.keeps hb8).alloc (.cells #[.int .u64 (Q.low : Int), .slice Q.A Q.n Q.c] 25))
        have Q8 := Lib.hid (AtS.new hi8)
        clear hb8 hi8 hQ H7 X7 P7 HB7
        have x0 := X8.out.c0
        have x1 := X8.out.c1
        obtain ⟨W8, hW8⟩ : ∃ W, w8.alloc (.cells #[.int .u64 (Q.low : Int), .slice Q.A Q.n Q.c] 25) = W := ⟨_, rfl⟩
        rw [hW8] at HB8 X8 Q8 x0 x1
        -- r, g := Add(x, b)
        go_wp2_with fail
        clear x0 x1 hW8
        refine (add_ok S X b _ X8.out.isIn (by omega) hb).mono ?_
        rintro r w9 ⟨T, rfl, hT, hi9, hn9, hb9⟩
        have HT := Lib.hid hT
        have HB9 := Lib.hid ((HB8.out.trans (hb9.mono HB8.out.size)).alloc (HB8.out.trans (hb9.mono HB8.out.size)).size (.cells #[.int .u64 (T.low : Int), .slice T.A T.n T.c] 25))
        have Q9 := Lib.hid ((Q8.out.keeps hb9).alloc (.cells #[.int .u64 (T.low : Int), .slice T.A T.n T.c] 25))
        have T9 := Lib.hid (AtS.new hi9)
        clear hb9 hi9 hT X8 Q8 HB8
        have q0 := Q9.out.c0
        have q1 := Q9.out.c1
        obtain ⟨W9, hW9⟩ : ∃ W, w9.alloc (.cells #[.int .u64 (T.low : Int), .slice T.A T.n T.c] 25) = W := ⟨_, rfl⟩
        rw [hW9] at HB9 Q9 T9 q0 q1
        have t0 := T9.out.c0
        have t1 := T9.out.c1
        rw [HX.out] at HT
        obtain ⟨E, hE⟩ : ∃ E, x.s.addE b = E := ⟨_, rfl⟩
        obtain ⟨G, hG⟩ : ∃ G, X.s.addE b = G := ⟨_, rfl⟩
        rw [hE, hG]
        have HE := Lib.hid hE
        have HGG := Lib.hid (show (x.s.raiseS a).addE b = G by rw [← HX.out]; exact hG)
        clear hE hG
        by_cases e1 : E = 0
        · subst e1
          by_cases e2 : G = 0
          · subst e2
            have HQT := Lib.hid (show Q.s = T.s by
              rw [HQ.out, HP.out, HT.out, HE.out, HGG.out]
              exact raise_add HE.out HGG.out)
            have HSM := Lib.hid (S.same Q T _ Q9.out.isIn T9.out.isIn (by omega) (by omega))
            rw [decide_eq_true HQT.out] at HSM
            go_wp2_with (first
              | (go_at_call 18; ((with_reducible refine HSM.out.mono ?_); rintro e w10 ⟨rfl, hb10⟩))
              | (go_at_call 11; ((with_reducible refine (HH.out _).mono ?_); rintro e w11 ⟨rfl, hb11⟩)))
            go_ret
            have h10 := HB9.out.trans (hb10.mono HB9.out.size)
            exact ⟨rfl, h10.trans (hb11.mono h10.size)⟩
          · have e3 : ¬ ((G : Int) = 0) := by omega
            go_wp2_with (go_at_call 11; ((with_reducible refine (HH.out _).mono ?_); rintro e w11 ⟨rfl, hb11⟩))
            go_ret
            exact ⟨rfl, HB9.out.trans (hb11.mono HB9.out.size)⟩
        · have e3 : ¬ ((E : Int) = 0) := by omega
          go_wp2_with (go_at_call 11; ((with_reducible refine (HH.out _).mono ?_); rintro e w11 ⟨rfl, hb11⟩))
          go_ret
          exact ⟨rfl, HB9.out.trans (hb11.mono HB9.out.size)⟩

end

end Go.Proofs.Ytkcjhkhdpafjhaa
