/-
  The walk of the statement LsnsMembers, over what package lsns is held to.
-/
import Derived.Test.YtkcjhkhdpafjhaaLsnsAsks
import Derived.Test.YtkcjhkhdpafjhaaLsnsJoins
import Derived.Test.YtkcjhkhdpafjhaaDraw
import Derived.Deep.DeepCutAuto
namespace Go.Proofs.Ytkcjhkhdpafjhaa
open Go.RowKit

section
variable (J : LsnsJ) (S : LsnsC)
include S J

set_option maxRecDepth 100000 in
set_option maxHeartbeats 60000000 in
theorem members_any (x y : LV) (n m : Nat) (w : World) (hx : x.In w) (hy : y.In w) (hn : x.n ≤ 9223372036854775807) (hn2 : y.n ≤ 9223372036854775807) (h1 : n < 18446744073709551616) (hm : m < 18446744073709551616) :
    Calls Try.prog 5 #[.agg #[.int .u64 (x.low : Int), .slice x.A x.n x.c, .int .u64 (y.low : Int), .slice y.A y.n y.c, .int .u64 (n : Int), .int .u64 (m : Int)]] w fun r w' => r = .returned (.bool true) ∧ Below w.heap.size w w' := by
  have HH := Lib.hid (fun w => head_any S w)
  have HG1 := Lib.hid (fun w => great_any x w hn)
  have HG2 := Lib.hid (fun w => great_any y w hn2)
  have HXI := Lib.hid hx
  have HYI := Lib.hid hy
  clear hx hy
  go_enter Try.func5, Try.ntmps5
  go_upto_region 1 with fail
  have HR := Lib.hid (Row.new w 41 [.int .u64 (x.low : Int), .slice x.A x.n x.c, .int .u64 (y.low : Int), .slice y.A y.n y.c, .int .u64 (n : Int), .int .u64 (m : Int)] (0, 0))
  have HB := Lib.hid (below_new w (.cells #[.int .u64 (x.low : Int), .slice x.A x.n x.c, .int .u64 (y.low : Int), .slice y.A y.n y.c, .int .u64 (n : Int), .int .u64 (m : Int)] 41))
  obtain ⟨W, hW⟩ : ∃ W, w.alloc (.cells #[.int .u64 (x.low : Int), .slice x.A x.n x.c, .int .u64 (y.low : Int), .slice y.A y.n y.c, .int .u64 (n : Int), .int .u64 (m : Int)] 41) = W := ⟨_, rfl⟩
  try rw [hW]
  have hWr : Row W w.heap.size 41 [.int .u64 (x.low : Int), .slice x.A x.n x.c, .int .u64 (y.low : Int), .slice y.A y.n y.c, .int .u64 (n : Int), .int .u64 (m : Int)] (0, 0) := by rw [← hW]; exact HR.out
  have HR := Lib.hid hWr
  have HB := Lib.hid (show Below w.heap.size w W by rw [← hW]; exact HB.out)
  clear hW hWr
  try go_frame
  go_cut [3, 4, 5, 6] (fun s3 s4 s5 s6 wx => ∃ g3 g4, s3 = .pointer (some ⟨g3, 0, none⟩) ∧ s4 = .pointer (some ⟨g4, 0, none⟩) ∧ s5 = .int .u64 (n : Int) ∧ s6 = .int .u64 (m : Int) ∧ LiesS wx g3 x.low x.A x.n x.c ∧ LiesS wx g4 y.low y.A y.n y.c ∧ w.heap.size ≤ g3 ∧ w.heap.size ≤ g4 ∧ g3 ≠ g4 ∧ Keep W wx)
  case first =>
    have HC := Lib.hid (show ∀ wx, Keep W wx → Keep W wx ∧ wx.cell? ⟨w.heap.size, 0, none⟩ = some (.int .u64 (x.low : Int)) ∧ wx.cell? ⟨w.heap.size, 1, none⟩ = some (.slice x.A x.n x.c) ∧ wx.cell? ⟨w.heap.size, 2, none⟩ = some (.int .u64 (y.low : Int)) ∧ wx.cell? ⟨w.heap.size, 3, none⟩ = some (.slice y.A y.n y.c) ∧ wx.cell? ⟨w.heap.size, 4, none⟩ = some (.int .u64 (n : Int)) ∧ wx.cell? ⟨w.heap.size, 5, none⟩ = some (.int .u64 (m : Int)) from fun wx hk => by
      have hr := Row.below HR.out hk HR.out.lt
      exact ⟨hk, by rw [hr.cell]; rfl, by rw [hr.cell]; rfl, by rw [hr.cell]; rfl, by rw [hr.cell]; rfl, by rw [hr.cell]; rfl, by rw [hr.cell]; rfl⟩)
    have hk1 : Keep W W := Below.refl _ W
    have hk0 : Keep W W.drew := (Below.refl _ W).drew
    obtain ⟨_, c0, c1, c2, c3, c4, c5⟩ := HC.out _ hk1
    have a0 : ∀ o, (W.alloc o).cell? ⟨w.heap.size, 0, none⟩ = some (.int .u64 (x.low : Int)) := fun o => (HC.out _ (hk1.alloc o)).2.1
    have b0 : ∀ o p, ((W.alloc o).alloc p).cell? ⟨w.heap.size, 0, none⟩ = some (.int .u64 (x.low : Int)) := fun o p => (HC.out _ ((hk1.alloc o).alloc p)).2.1
    have a1 : ∀ o, (W.alloc o).cell? ⟨w.heap.size, 1, none⟩ = some (.slice x.A x.n x.c) := fun o => (HC.out _ (hk1.alloc o)).2.2.1
    have b1 : ∀ o p, ((W.alloc o).alloc p).cell? ⟨w.heap.size, 1, none⟩ = some (.slice x.A x.n x.c) := fun o p => (HC.out _ ((hk1.alloc o).alloc p)).2.2.1
    have a2 : ∀ o, (W.alloc o).cell? ⟨w.heap.size, 2, none⟩ = some (.int .u64 (y.low : Int)) := fun o => (HC.out _ (hk1.alloc o)).2.2.2.1
    have b2 : ∀ o p, ((W.alloc o).alloc p).cell? ⟨w.heap.size, 2, none⟩ = some (.int .u64 (y.low : Int)) := fun o p => (HC.out _ ((hk1.alloc o).alloc p)).2.2.2.1
    have a3 : ∀ o, (W.alloc o).cell? ⟨w.heap.size, 3, none⟩ = some (.slice y.A y.n y.c) := fun o => (HC.out _ (hk1.alloc o)).2.2.2.2.1
    have b3 : ∀ o p, ((W.alloc o).alloc p).cell? ⟨w.heap.size, 3, none⟩ = some (.slice y.A y.n y.c) := fun o p => (HC.out _ ((hk1.alloc o).alloc p)).2.2.2.2.1
    have a4 : ∀ o, (W.alloc o).cell? ⟨w.heap.size, 4, none⟩ = some (.int .u64 (n : Int)) := fun o => (HC.out _ (hk1.alloc o)).2.2.2.2.2.1
    have b4 : ∀ o p, ((W.alloc o).alloc p).cell? ⟨w.heap.size, 4, none⟩ = some (.int .u64 (n : Int)) := fun o p => (HC.out _ ((hk1.alloc o).alloc p)).2.2.2.2.2.1
    have a5 : ∀ o, (W.alloc o).cell? ⟨w.heap.size, 5, none⟩ = some (.int .u64 (m : Int)) := fun o => (HC.out _ (hk1.alloc o)).2.2.2.2.2.2
    have b5 : ∀ o p, ((W.alloc o).alloc p).cell? ⟨w.heap.size, 5, none⟩ = some (.int .u64 (m : Int)) := fun o p => (HC.out _ ((hk1.alloc o).alloc p)).2.2.2.2.2.2
    go_region
    all_goals go_wp2_with fail
    all_goals go_meet
    all_goals first
      | exact ⟨_, _, rfl, rfl, rfl, rfl, Row.alloc (LiesS.new W x.low x.A x.n x.c) _, (by have := LiesS.new (W.alloc (.cells #[.int .u64 (x.low : Int), .slice x.A x.n x.c] 25)) y.low y.A y.n y.c; rwa [size_new] at this), HB.out.size, Nat.le_succ_of_le HB.out.size, Nat.ne_of_lt (Nat.lt_succ_self _), (Keep.alloc (Keep.alloc (Keep.refl W) _) _).drew⟩
      | exact ⟨_, _, rfl, rfl, rfl, rfl, (by have := LiesS.new (W.alloc (.cells #[.int .u64 (y.low : Int), .slice y.A y.n y.c] 25)) x.low x.A x.n x.c; rwa [size_new] at this), Row.alloc (LiesS.new W y.low y.A y.n y.c) _, Nat.le_succ_of_le HB.out.size, HB.out.size, (Nat.ne_of_lt (Nat.lt_succ_self _)).symm, (Keep.alloc (Keep.alloc (Keep.refl W) _) _).drew⟩
  case rest =>
    obtain ⟨g3, g4, rfl, rfl, rfl, rfl, l1, l2, hu3, hu4, hne, hk⟩ := hcut
    rename World => w0
    have hb := HB.out.trans (hk.mono HB.out.size)
    have HA0 := Lib.hid (show AtS w0 g3 x from ⟨l1, HXI.out.keeps hb⟩)
    have HY0 := Lib.hid (show AtS w0 g4 y from ⟨l2, HYI.out.keeps hb⟩)
    have HB0 := Lib.hid hb
    have HXI' := HXI
    have HYI' := HYI
    clear l1 l2 hk hb HR HB
    obtain ⟨gA, hgA⟩ : ∃ g, decide (1100 < x.n) = g := ⟨_, rfl⟩
    rw [hgA] at HG1
    obtain ⟨gY, hgY⟩ : ∃ g, decide (1100 < y.n) = g := ⟨_, rfl⟩
    rw [hgY] at HG2
    have a0 := HA0.out.c0
    have a1 := HA0.out.c1
    go_wp2_with fail
    clear a0 a1
    refine (HG1.out _).mono ?_
    rintro r w1 ⟨rfl, hb1⟩
    have HB1 := Lib.hid (HB0.out.trans (hb1.mono HB0.out.size))
    have HA1 := Lib.hid (HA0.out.keeps hb1)
    have HY1 := Lib.hid (HY0.out.keeps hb1)
    clear hb1
    clear HA0 HY0 HB0
    cases gA
    rotate_left
    · clear hgA
      go_wp2_with fail
      refine (HH.out _).mono ?_
      rintro r wh ⟨rfl, hbh⟩
      have HBH := Lib.hid (HB1.out.trans (hbh.mono HB1.out.size))
      clear hbh
      go_wp2
      go_ret
      exact ⟨rfl, HBH.out⟩
    have y0 := HY1.out.c0
    have y1 := HY1.out.c1
    go_wp2_with fail
    clear y0 y1
    refine (HG2.out _).mono ?_
    rintro r w2 ⟨rfl, hb2⟩
    have HB2 := Lib.hid (HB1.out.trans (hb2.mono HB1.out.size))
    have HA2 := Lib.hid (HA1.out.keeps hb2)
    have HY2 := Lib.hid (HY1.out.keeps hb2)
    clear hb2
    clear HA1 HY1 HB1
    cases gY
    rotate_left
    · clear hgY
      go_wp2_with fail
      refine (HH.out _).mono ?_
      rintro r wh ⟨rfl, hbh⟩
      have HBH := Lib.hid (HB2.out.trans (hbh.mono HB2.out.size))
      clear hbh
      go_wp2
      go_ret
      exact ⟨rfl, HBH.out⟩
    have hnA : x.n ≤ 1100 := by have := of_decide_eq_false hgA; omega
    have hnY : y.n ≤ 1100 := by have := of_decide_eq_false hgY; omega
    clear hgA hgY HG1 HG2 HXI HYI hn hn2
    obtain ⟨RA, hRA⟩ : ∃ R, x.s.right = R := ⟨_, rfl⟩
    have a0 := HA2.out.c0
    have a1 := HA2.out.c1
    go_wp2_with fail
    clear a0 a1
    refine (S.right x _ HA2.out.isIn hnA).mono ?_
    rintro r w3 ⟨rfl, hb3⟩
    have HB3 := Lib.hid (HB2.out.trans (hb3.mono HB2.out.size))
    have HA3 := Lib.hid (HA2.out.keeps hb3)
    have HY3 := Lib.hid (HY2.out.keeps hb3)
    clear hb3
    clear HA2 HY2 HB2
    rw [hRA]
    cases RA
    · clear hRA
      go_wp2_with fail
      refine (HH.out _).mono ?_
      rintro r wh ⟨rfl, hbh⟩
      have HBH := Lib.hid (HB3.out.trans (hbh.mono HB3.out.size))
      clear hbh
      go_wp2
      go_ret
      exact ⟨rfl, HBH.out⟩
    have HRA := Lib.hid hRA
    clear hRA
    have a0 := HA3.out.c0
    have a1 := HA3.out.c1
    go_wp2_with fail
    clear a0 a1
    refine (add_ok S x n _ HA3.out.isIn hnA h1).mono ?_
    rintro r w4 ⟨P, rfl, hP, hi, hnP, hb4⟩
    have HSP := Lib.hid hP
    have HB4 := Lib.hid ((HB3.out.trans (hb4.mono HB3.out.size)).alloc (HB3.out.trans (hb4.mono HB3.out.size)).size (.cells #[.int .u64 (P.low : Int), .slice P.A P.n P.c] 25))
    have HA4 := Lib.hid ((HA3.out.keeps hb4).alloc (.cells #[.int .u64 (P.low : Int), .slice P.A P.n P.c] 25))
    have HY4 := Lib.hid ((HY3.out.keeps hb4).alloc (.cells #[.int .u64 (P.low : Int), .slice P.A P.n P.c] 25))
    have HP4 := Lib.hid (AtS.new hi)
    clear hi hP hb4
    clear HA3 HY3 HB3
    obtain ⟨W4, hW4⟩ : ∃ W, w4.alloc (.cells #[.int .u64 (P.low : Int), .slice P.A P.n P.c] 25) = W := ⟨_, rfl⟩
    rw [hW4] at HB4 HA4 HY4 HP4
    obtain ⟨E, hE⟩ : ∃ E, x.s.addE n = E := ⟨_, rfl⟩
    have HE := Lib.hid hE
    rw [hE]
    rw [hE] at HSP
    clear hE
    have hE6 : E = 0 ∨ E = 6 := by rw [← HE.out]; unfold LS.addE; rw [if_pos HRA.out]; split; exact .inl rfl; exact .inr rfl
    go_upto_region 5 with fail
    clear hW4
    try go_frame
    go_cut [65] (fun s wx => s = .bool false ∧ Keep W4 wx)
    case first =>
      have HC := Lib.hid (show ∀ wx, Keep W4 wx → Keep W4 wx ∧ wx.cell? ⟨g3, 0, none⟩ = some (.int .u64 (x.low : Int)) ∧ wx.cell? ⟨g3, 1, none⟩ = some (.slice x.A x.n x.c) ∧ wx.cell? ⟨w4.heap.size, 0, none⟩ = some (.int .u64 (P.low : Int)) ∧ wx.cell? ⟨w4.heap.size, 1, none⟩ = some (.slice P.A P.n P.c) from fun wx hk => ⟨hk, (HA4.out.keeps hk).c0, (HA4.out.keeps hk).c1, (HP4.out.keeps hk).c0, (HP4.out.keeps hk).c1⟩)
      obtain ⟨hp, hhp⟩ : ∃ v, P.s.has m = v := ⟨_, rfl⟩
      obtain ⟨ha, hha⟩ : ∃ v, x.s.has m = v := ⟨_, rfl⟩
      have kR := Lib.hid (fun wx (hk : Keep W4 wx) => hk.calls (S.right P wx (HP4.out.keeps hk).isIn (by omega)))
      have kHP := Lib.hid (fun wx (hk : Keep W4 wx) => hk.calls (S.has P m wx (HP4.out.keeps hk).isIn (by omega) hm))
      have kHA := Lib.hid (fun wx (hk : Keep W4 wx) => hk.calls (S.has x m wx (HA4.out.keeps hk).isIn hnA hm))
      rw [show P.s.right = true by rw [HSP.out, ← HE.out]; exact LS.addZ_right _ _] at kR
      rw [hhp] at kHP
      rw [hha] at kHA
      have hk0 : Keep W4 W4.drew := (Keep.refl _).drew
      have hk1 : Keep W4 W4 := Keep.refl _
      rcases hE6 with rfl | rfl
      · have hmem := LS.add_has HE.out m
        rw [show x.s.addS n = P.s from HSP.out.symm, hhp, hha] at hmem
        clear hhp hha
        obtain ⟨_, c0, c1, p0, p1⟩ := HC.out _ hk0
        obtain ⟨_, c0', c1', p0', p1'⟩ := HC.out _ hk1
        cases ha
        · by_cases hmn : m = n
          · subst hmn
            rw [decide_eq_true rfl] at hmem
            obtain rfl : hp = true := hmem
            refine wp_region_noPanic ?_
            refine wp_region_sch (fun wx => Keep W4 wx ∧ wx.cell? ⟨g3, 0, none⟩ = some (.int .u64 (x.low : Int)) ∧ wx.cell? ⟨g3, 1, none⟩ = some (.slice x.A x.n x.c) ∧ wx.cell? ⟨w4.heap.size, 0, none⟩ = some (.int .u64 (P.low : Int)) ∧ wx.cell? ⟨w4.heap.size, 1, none⟩ = some (.slice P.A P.n P.c)) (fun i => [4, 9, 12].contains i)
              (.takes [0, 1, 2, 3] (.run 4 (.takes [5, 6, 7, 8, 10, 11] (.run 9 (.run 12 (.takes [13, 14, 15, 16, 17, 18, 19, 20, 21, 22, 23, 24, 25, 26, 27, 28] .done)))))) (by kernel_rfl) (fun _ _ _ _ _ h => h) (by kernel_rfl) ?_
            have hHeld := HC.out _ hk0
            iterate 4 (
              refine sch_takes_cons ?_
              first
                | (refine sch_take (v := ?_) rfl (by assumption) (by rfl) ?_ ?_; rotate_left; (focus (intro wy hSy; (try dsimp only at hSy); go_simp; (try with_reducible rfl))))
                | (refine sch_pass rfl (by assumption) (by rfl) ?_)
              simp only [Act.put, List.setIfInBounds_toArray, List.set_cons_zero, List.set_cons_succ])
            refine sch_takes_nil ?_
            refine sch_run rfl (fun K hK => ?_)
            go_simp
            refine (kR.out _ hk0).mono ?_
            rintro e va ⟨rfl, hkva⟩
            have hHeld := HC.out _ hkva
            try dsimp only
            refine hK.out _ _ (fun _ => hHeld) ?_
            clear hK K
            try simp only [Act.put, List.setIfInBounds_toArray, List.set_cons_zero, List.set_cons_succ]
            iterate 6 (
              refine sch_takes_cons ?_
              first
                | (refine sch_take (v := ?_) rfl (by assumption) (by rfl) ?_ ?_; rotate_left; (focus (intro wy hSy; (try dsimp only at hSy); go_simp; (try with_reducible rfl))))
                | (refine sch_pass rfl (by assumption) (by rfl) ?_)
              simp only [Act.put, List.setIfInBounds_toArray, List.set_cons_zero, List.set_cons_succ])
            refine sch_takes_nil ?_
            refine sch_run rfl (fun K hK => ?_)
            go_simp
            refine (kHP.out _ hkva).mono ?_
            rintro e vb ⟨rfl, hkvb⟩
            have hHeld := HC.out _ hkvb
            try dsimp only
            refine hK.out _ _ (fun _ => hHeld) ?_
            clear hK K
            try simp only [Act.put, List.setIfInBounds_toArray, List.set_cons_zero, List.set_cons_succ]
            refine sch_run rfl (fun K hK => ?_)
            go_simp
            refine (kHA.out _ hkvb).mono ?_
            rintro e vc ⟨rfl, hkvc⟩
            have hHeld := HC.out _ hkvc
            try dsimp only
            refine hK.out _ _ (fun _ => hHeld) ?_
            clear hK K
            try simp only [Act.put, List.setIfInBounds_toArray, List.set_cons_zero, List.set_cons_succ]
            iterate 16 (
              refine sch_takes_cons ?_
              first
                | (refine sch_take (v := ?_) rfl (by assumption) (by rfl) ?_ ?_; rotate_left; (focus (intro wy hSy; (try dsimp only at hSy); go_simp; (try with_reducible rfl))))
                | (refine sch_pass rfl (by assumption) (by rfl) ?_)
              simp only [Act.put, List.setIfInBounds_toArray, List.set_cons_zero, List.set_cons_succ])
            refine sch_takes_nil ?_
            refine sch_done ?_
            refine NoPanic.normal ?_
            all_goals go_wp2_with fail
            all_goals go_meet
            all_goals exact ⟨rfl, by assumption⟩
          · have hmn2 : ¬ ((m : Int) = (n : Int)) := by omega
            rw [decide_eq_false hmn] at hmem
            obtain rfl : hp = false := hmem
            have hmn3 : ((m : Int) == (n : Int)) = false := by rw [beq_eq_false_iff_ne]; exact hmn2
            refine wp_region_noPanic ?_
            refine wp_region_sch (fun wx => Keep W4 wx ∧ wx.cell? ⟨g3, 0, none⟩ = some (.int .u64 (x.low : Int)) ∧ wx.cell? ⟨g3, 1, none⟩ = some (.slice x.A x.n x.c) ∧ wx.cell? ⟨w4.heap.size, 0, none⟩ = some (.int .u64 (P.low : Int)) ∧ wx.cell? ⟨w4.heap.size, 1, none⟩ = some (.slice P.A P.n P.c)) (fun i => [4, 9, 12].contains i)
              (.takes [0, 1, 2, 3] (.run 4 (.takes [5, 6, 7, 8, 10, 11] (.run 9 (.run 12 (.takes [13, 14, 15, 16, 17, 18, 19, 20, 21, 22, 23, 24, 25, 26, 27, 28] .done)))))) (by kernel_rfl) (fun _ _ _ _ _ h => h) (by kernel_rfl) ?_
            have hHeld := HC.out _ hk0
            iterate 4 (
              refine sch_takes_cons ?_
              first
                | (refine sch_take (v := ?_) rfl (by assumption) (by rfl) ?_ ?_; rotate_left; (focus (intro wy hSy; (try dsimp only at hSy); go_simp; (try with_reducible rfl))))
                | (refine sch_pass rfl (by assumption) (by rfl) ?_)
              simp only [Act.put, List.setIfInBounds_toArray, List.set_cons_zero, List.set_cons_succ])
            refine sch_takes_nil ?_
            refine sch_run rfl (fun K hK => ?_)
            go_simp
            refine (kR.out _ hk0).mono ?_
            rintro e va ⟨rfl, hkva⟩
            have hHeld := HC.out _ hkva
            try dsimp only
            refine hK.out _ _ (fun _ => hHeld) ?_
            clear hK K
            try simp only [Act.put, List.setIfInBounds_toArray, List.set_cons_zero, List.set_cons_succ]
            iterate 6 (
              refine sch_takes_cons ?_
              first
                | (refine sch_take (v := ?_) rfl (by assumption) (by rfl) ?_ ?_; rotate_left; (focus (intro wy hSy; (try dsimp only at hSy); go_simp; (try with_reducible rfl))))
                | (refine sch_pass rfl (by assumption) (by rfl) ?_)
              simp only [Act.put, List.setIfInBounds_toArray, List.set_cons_zero, List.set_cons_succ])
            refine sch_takes_nil ?_
            refine sch_run rfl (fun K hK => ?_)
            go_simp
            refine (kHP.out _ hkva).mono ?_
            rintro e vb ⟨rfl, hkvb⟩
            have hHeld := HC.out _ hkvb
            try dsimp only
            refine hK.out _ _ (fun _ => hHeld) ?_
            clear hK K
            try simp only [Act.put, List.setIfInBounds_toArray, List.set_cons_zero, List.set_cons_succ]
            refine sch_run rfl (fun K hK => ?_)
            go_simp
            refine (kHA.out _ hkvb).mono ?_
            rintro e vc ⟨rfl, hkvc⟩
            have hHeld := HC.out _ hkvc
            try dsimp only
            refine hK.out _ _ (fun _ => hHeld) ?_
            clear hK K
            try simp only [Act.put, List.setIfInBounds_toArray, List.set_cons_zero, List.set_cons_succ]
            iterate 16 (
              refine sch_takes_cons ?_
              first
                | (refine sch_take (v := ?_) rfl (by assumption) (by rfl) ?_ ?_; rotate_left; (focus (intro wy hSy; (try dsimp only at hSy); go_simp; (try with_reducible rfl))))
                | (refine sch_pass rfl (by assumption) (by rfl) ?_)
              simp only [Act.put, List.setIfInBounds_toArray, List.set_cons_zero, List.set_cons_succ])
            refine sch_takes_nil ?_
            refine sch_done ?_
            refine NoPanic.normal ?_
            all_goals go_wp2_with fail
            all_goals go_meet
            all_goals exact ⟨rfl, by assumption⟩
        · rw [Bool.true_or] at hmem
          subst hmem
          refine wp_region_noPanic ?_
          refine wp_region_sch (fun wx => Keep W4 wx ∧ wx.cell? ⟨g3, 0, none⟩ = some (.int .u64 (x.low : Int)) ∧ wx.cell? ⟨g3, 1, none⟩ = some (.slice x.A x.n x.c) ∧ wx.cell? ⟨w4.heap.size, 0, none⟩ = some (.int .u64 (P.low : Int)) ∧ wx.cell? ⟨w4.heap.size, 1, none⟩ = some (.slice P.A P.n P.c)) (fun i => [4, 9, 12].contains i)
            (.takes [0, 1, 2, 3] (.run 4 (.takes [5, 6, 7, 8, 10, 11] (.run 9 (.run 12 (.takes [13, 14, 15, 16, 17, 18, 19, 20, 21, 22, 23, 24, 25, 26, 27, 28] .done)))))) (by kernel_rfl) (fun _ _ _ _ _ h => h) (by kernel_rfl) ?_
          have hHeld := HC.out _ hk0
          iterate 4 (
            refine sch_takes_cons ?_
            first
              | (refine sch_take (v := ?_) rfl (by assumption) (by rfl) ?_ ?_; rotate_left; (focus (intro wy hSy; (try dsimp only at hSy); go_simp; (try with_reducible rfl))))
              | (refine sch_pass rfl (by assumption) (by rfl) ?_)
            simp only [Act.put, List.setIfInBounds_toArray, List.set_cons_zero, List.set_cons_succ])
          refine sch_takes_nil ?_
          refine sch_run rfl (fun K hK => ?_)
          go_simp
          refine (kR.out _ hk0).mono ?_
          rintro e va ⟨rfl, hkva⟩
          have hHeld := HC.out _ hkva
          try dsimp only
          refine hK.out _ _ (fun _ => hHeld) ?_
          clear hK K
          try simp only [Act.put, List.setIfInBounds_toArray, List.set_cons_zero, List.set_cons_succ]
          iterate 6 (
            refine sch_takes_cons ?_
            first
              | (refine sch_take (v := ?_) rfl (by assumption) (by rfl) ?_ ?_; rotate_left; (focus (intro wy hSy; (try dsimp only at hSy); go_simp; (try with_reducible rfl))))
              | (refine sch_pass rfl (by assumption) (by rfl) ?_)
            simp only [Act.put, List.setIfInBounds_toArray, List.set_cons_zero, List.set_cons_succ])
          refine sch_takes_nil ?_
          refine sch_run rfl (fun K hK => ?_)
          go_simp
          refine (kHP.out _ hkva).mono ?_
          rintro e vb ⟨rfl, hkvb⟩
          have hHeld := HC.out _ hkvb
          try dsimp only
          refine hK.out _ _ (fun _ => hHeld) ?_
          clear hK K
          try simp only [Act.put, List.setIfInBounds_toArray, List.set_cons_zero, List.set_cons_succ]
          refine sch_run rfl (fun K hK => ?_)
          go_simp
          refine (kHA.out _ hkvb).mono ?_
          rintro e vc ⟨rfl, hkvc⟩
          have hHeld := HC.out _ hkvc
          try dsimp only
          refine hK.out _ _ (fun _ => hHeld) ?_
          clear hK K
          try simp only [Act.put, List.setIfInBounds_toArray, List.set_cons_zero, List.set_cons_succ]
          iterate 16 (
            refine sch_takes_cons ?_
            first
              | (refine sch_take (v := ?_) rfl (by assumption) (by rfl) ?_ ?_; rotate_left; (focus (intro wy hSy; (try dsimp only at hSy); go_simp; (try with_reducible rfl))))
              | (refine sch_pass rfl (by assumption) (by rfl) ?_)
            simp only [Act.put, List.setIfInBounds_toArray, List.set_cons_zero, List.set_cons_succ])
          refine sch_takes_nil ?_
          refine sch_done ?_
          refine NoPanic.normal ?_
          all_goals go_wp2_with fail
          all_goals go_meet
          all_goals exact ⟨rfl, by assumption⟩
      · clear hhp hha kR kHP kHA HC
        go_wp2_with (go_quiet (fail))
        all_goals go_meet
        all_goals exact ⟨rfl, (Keep.refl _).drewN _⟩
    case rest =>
      obtain ⟨rfl, hk⟩ := hcut
      rename World => wq
      have HB5 := Lib.hid (HB4.out.trans (hk.mono HB4.out.size))
      have HA5 := Lib.hid (HA4.out.keeps hk)
      have HY5 := Lib.hid (HY4.out.keeps hk)
      clear hk HP4 HSP HE hE6
      clear HA4 HY4 HB4
      have a0 := HA5.out.c0
      have a1 := HA5.out.c1
      go_wp2_with fail
      clear a0 a1
      refine (raise_ok S x n _ HA5.out.isIn hnA h1 HRA.out).mono ?_
      rintro r w6 ⟨R, rfl, hR, hi, hnR, hb6⟩
      have HSR := Lib.hid hR
      have HB6 := Lib.hid ((HB5.out.trans (hb6.mono HB5.out.size)).alloc (HB5.out.trans (hb6.mono HB5.out.size)).size (.cells #[.int .u64 (R.low : Int), .slice R.A R.n R.c] 25))
      have HA6 := Lib.hid ((HA5.out.keeps hb6).alloc (.cells #[.int .u64 (R.low : Int), .slice R.A R.n R.c] 25))
      have HY6 := Lib.hid ((HY5.out.keeps hb6).alloc (.cells #[.int .u64 (R.low : Int), .slice R.A R.n R.c] 25))
      have HR6 := Lib.hid (AtS.new hi)
      clear hi hR hb6
      clear HA5 HY5 HB5
      obtain ⟨W6, hW6⟩ : ∃ W, w6.alloc (.cells #[.int .u64 (R.low : Int), .slice R.A R.n R.c] 25) = W := ⟨_, rfl⟩
      rw [hW6] at HB6 HA6 HY6 HR6
      go_upto_region 8 with fail
      clear hW6
      try go_frame
      go_cut [92] (fun s wx => s = .bool false ∧ Keep W6 wx)
      case first =>
        have HC := Lib.hid (show ∀ wx, Keep W6 wx → Keep W6 wx ∧ wx.cell? ⟨g3, 0, none⟩ = some (.int .u64 (x.low : Int)) ∧ wx.cell? ⟨g3, 1, none⟩ = some (.slice x.A x.n x.c) ∧ wx.cell? ⟨w6.heap.size, 0, none⟩ = some (.int .u64 (R.low : Int)) ∧ wx.cell? ⟨w6.heap.size, 1, none⟩ = some (.slice R.A R.n R.c) from fun wx hk => ⟨hk, (HA6.out.keeps hk).c0, (HA6.out.keeps hk).c1, (HR6.out.keeps hk).c0, (HR6.out.keeps hk).c1⟩)
        obtain ⟨hr, hhr⟩ : ∃ v, R.s.has m = v := ⟨_, rfl⟩
        obtain ⟨ha, hha⟩ : ∃ v, x.s.has m = v := ⟨_, rfl⟩
        have kR := Lib.hid (fun wx (hk : Keep W6 wx) => hk.calls (S.right R wx (HR6.out.keeps hk).isIn (by omega)))
        have kHR := Lib.hid (fun wx (hk : Keep W6 wx) => hk.calls (S.has R m wx (HR6.out.keeps hk).isIn (by omega) hm))
        have kHA := Lib.hid (fun wx (hk : Keep W6 wx) => hk.calls (S.has x m wx (HA6.out.keeps hk).isIn hnA hm))
        rw [show R.s.right = true by rw [HSR.out]; exact LS.raise_right HRA.out n] at kR
        have hmem := LS.raise_has HRA.out n m
        rw [← HSR.out, hhr, hha] at hmem
        rw [hhr] at kHR
        rw [hha] at kHA
        clear hhr hha
        have hk0 : Keep W6 W6.drew := (Keep.refl _).drew
        have hk1 : Keep W6 W6 := Keep.refl _
        cases ha
        · by_cases hmn : m ≤ n
          · rw [decide_eq_true hmn] at hmem
            obtain rfl : hr = true := hmem
            have hmn2 : decide ((m : Int) ≤ (n : Int)) = true := decide_eq_true (by omega)
            obtain ⟨_, c0, c1, p0, p1⟩ := HC.out _ hk0
            obtain ⟨_, c0', c1', p0', p1'⟩ := HC.out _ hk1
            refine wp_region_noPanic ?_
            refine wp_region_sch (fun wx => Keep W6 wx ∧ wx.cell? ⟨g3, 0, none⟩ = some (.int .u64 (x.low : Int)) ∧ wx.cell? ⟨g3, 1, none⟩ = some (.slice x.A x.n x.c) ∧ wx.cell? ⟨w6.heap.size, 0, none⟩ = some (.int .u64 (R.low : Int)) ∧ wx.cell? ⟨w6.heap.size, 1, none⟩ = some (.slice R.A R.n R.c)) (fun i => [4, 10, 13].contains i)
              (.takes [0, 1, 2, 3] (.run 4 (.takes [5, 6, 7, 8, 9, 11, 12] (.run 10 (.run 13 (.takes [14, 15, 16, 17, 18, 19, 20] .done)))))) (by kernel_rfl) (fun _ _ _ _ _ h => h) (by kernel_rfl) ?_
            have hHeld := HC.out _ hk0
            iterate 4 (
              refine sch_takes_cons ?_
              first
                | (refine sch_take (v := ?_) rfl (by assumption) (by rfl) ?_ ?_; rotate_left; (focus (intro wy hSy; (try dsimp only at hSy); go_simp; (try with_reducible rfl))))
                | (refine sch_pass rfl (by assumption) (by rfl) ?_)
              simp only [Act.put, List.setIfInBounds_toArray, List.set_cons_zero, List.set_cons_succ])
            refine sch_takes_nil ?_
            refine sch_run rfl (fun K hK => ?_)
            go_simp
            refine (kR.out _ hk0).mono ?_
            rintro e va ⟨rfl, hkva⟩
            have hHeld := HC.out _ hkva
            try dsimp only
            refine hK.out _ _ (fun _ => hHeld) ?_
            clear hK K
            try simp only [Act.put, List.setIfInBounds_toArray, List.set_cons_zero, List.set_cons_succ]
            iterate 7 (
              refine sch_takes_cons ?_
              first
                | (refine sch_take (v := ?_) rfl (by assumption) (by rfl) ?_ ?_; rotate_left; (focus (intro wy hSy; (try dsimp only at hSy); go_simp; (try with_reducible rfl))))
                | (refine sch_pass rfl (by assumption) (by rfl) ?_)
              simp only [Act.put, List.setIfInBounds_toArray, List.set_cons_zero, List.set_cons_succ])
            refine sch_takes_nil ?_
            refine sch_run rfl (fun K hK => ?_)
            go_simp
            refine (kHR.out _ hkva).mono ?_
            rintro e vb ⟨rfl, hkvb⟩
            have hHeld := HC.out _ hkvb
            try dsimp only
            refine hK.out _ _ (fun _ => hHeld) ?_
            clear hK K
            try simp only [Act.put, List.setIfInBounds_toArray, List.set_cons_zero, List.set_cons_succ]
            refine sch_run rfl (fun K hK => ?_)
            go_simp
            refine (kHA.out _ hkvb).mono ?_
            rintro e vc ⟨rfl, hkvc⟩
            have hHeld := HC.out _ hkvc
            try dsimp only
            refine hK.out _ _ (fun _ => hHeld) ?_
            clear hK K
            try simp only [Act.put, List.setIfInBounds_toArray, List.set_cons_zero, List.set_cons_succ]
            iterate 7 (
              refine sch_takes_cons ?_
              first
                | (refine sch_take (v := ?_) rfl (by assumption) (by rfl) ?_ ?_; rotate_left; (focus (intro wy hSy; (try dsimp only at hSy); go_simp; (try with_reducible rfl))))
                | (refine sch_pass rfl (by assumption) (by rfl) ?_)
              simp only [Act.put, List.setIfInBounds_toArray, List.set_cons_zero, List.set_cons_succ])
            refine sch_takes_nil ?_
            refine sch_done ?_
            refine NoPanic.normal ?_
            all_goals go_wp2_with fail
            all_goals go_meet
            all_goals exact ⟨rfl, by assumption⟩
          · have hmn2 : decide ((m : Int) ≤ (n : Int)) = false := decide_eq_false (by omega)
            rw [decide_eq_false hmn] at hmem
            obtain rfl : hr = false := hmem
            obtain ⟨_, c0, c1, p0, p1⟩ := HC.out _ hk0
            obtain ⟨_, c0', c1', p0', p1'⟩ := HC.out _ hk1
            refine wp_region_noPanic ?_
            refine wp_region_sch (fun wx => Keep W6 wx ∧ wx.cell? ⟨g3, 0, none⟩ = some (.int .u64 (x.low : Int)) ∧ wx.cell? ⟨g3, 1, none⟩ = some (.slice x.A x.n x.c) ∧ wx.cell? ⟨w6.heap.size, 0, none⟩ = some (.int .u64 (R.low : Int)) ∧ wx.cell? ⟨w6.heap.size, 1, none⟩ = some (.slice R.A R.n R.c)) (fun i => [4, 10, 13].contains i)
              (.takes [0, 1, 2, 3] (.run 4 (.takes [5, 6, 7, 8, 9, 11, 12] (.run 10 (.run 13 (.takes [14, 15, 16, 17, 18, 19, 20] .done)))))) (by kernel_rfl) (fun _ _ _ _ _ h => h) (by kernel_rfl) ?_
            have hHeld := HC.out _ hk0
            iterate 4 (
              refine sch_takes_cons ?_
              first
                | (refine sch_take (v := ?_) rfl (by assumption) (by rfl) ?_ ?_; rotate_left; (focus (intro wy hSy; (try dsimp only at hSy); go_simp; (try with_reducible rfl))))
                | (refine sch_pass rfl (by assumption) (by rfl) ?_)
              simp only [Act.put, List.setIfInBounds_toArray, List.set_cons_zero, List.set_cons_succ])
            refine sch_takes_nil ?_
            refine sch_run rfl (fun K hK => ?_)
            go_simp
            refine (kR.out _ hk0).mono ?_
            rintro e va ⟨rfl, hkva⟩
            have hHeld := HC.out _ hkva
            try dsimp only
            refine hK.out _ _ (fun _ => hHeld) ?_
            clear hK K
            try simp only [Act.put, List.setIfInBounds_toArray, List.set_cons_zero, List.set_cons_succ]
            iterate 7 (
              refine sch_takes_cons ?_
              first
                | (refine sch_take (v := ?_) rfl (by assumption) (by rfl) ?_ ?_; rotate_left; (focus (intro wy hSy; (try dsimp only at hSy); go_simp; (try with_reducible rfl))))
                | (refine sch_pass rfl (by assumption) (by rfl) ?_)
              simp only [Act.put, List.setIfInBounds_toArray, List.set_cons_zero, List.set_cons_succ])
            refine sch_takes_nil ?_
            refine sch_run rfl (fun K hK => ?_)
            go_simp
            refine (kHR.out _ hkva).mono ?_
            rintro e vb ⟨rfl, hkvb⟩
            have hHeld := HC.out _ hkvb
            try dsimp only
            refine hK.out _ _ (fun _ => hHeld) ?_
            clear hK K
            try simp only [Act.put, List.setIfInBounds_toArray, List.set_cons_zero, List.set_cons_succ]
            refine sch_run rfl (fun K hK => ?_)
            go_simp
            refine (kHA.out _ hkvb).mono ?_
            rintro e vc ⟨rfl, hkvc⟩
            have hHeld := HC.out _ hkvc
            try dsimp only
            refine hK.out _ _ (fun _ => hHeld) ?_
            clear hK K
            try simp only [Act.put, List.setIfInBounds_toArray, List.set_cons_zero, List.set_cons_succ]
            iterate 7 (
              refine sch_takes_cons ?_
              first
                | (refine sch_take (v := ?_) rfl (by assumption) (by rfl) ?_ ?_; rotate_left; (focus (intro wy hSy; (try dsimp only at hSy); go_simp; (try with_reducible rfl))))
                | (refine sch_pass rfl (by assumption) (by rfl) ?_)
              simp only [Act.put, List.setIfInBounds_toArray, List.set_cons_zero, List.set_cons_succ])
            refine sch_takes_nil ?_
            refine sch_done ?_
            refine NoPanic.normal ?_
            all_goals go_wp2_with fail
            all_goals go_meet
            all_goals exact ⟨rfl, by assumption⟩
        · rw [Bool.true_or] at hmem
          subst hmem
          obtain ⟨_, c0, c1, p0, p1⟩ := HC.out _ hk0
          obtain ⟨_, c0', c1', p0', p1'⟩ := HC.out _ hk1
          refine wp_region_noPanic ?_
          refine wp_region_sch (fun wx => Keep W6 wx ∧ wx.cell? ⟨g3, 0, none⟩ = some (.int .u64 (x.low : Int)) ∧ wx.cell? ⟨g3, 1, none⟩ = some (.slice x.A x.n x.c) ∧ wx.cell? ⟨w6.heap.size, 0, none⟩ = some (.int .u64 (R.low : Int)) ∧ wx.cell? ⟨w6.heap.size, 1, none⟩ = some (.slice R.A R.n R.c)) (fun i => [4, 10, 13].contains i)
            (.takes [0, 1, 2, 3] (.run 4 (.takes [5, 6, 7, 8, 9, 11, 12] (.run 10 (.run 13 (.takes [14, 15, 16, 17, 18, 19, 20] .done)))))) (by kernel_rfl) (fun _ _ _ _ _ h => h) (by kernel_rfl) ?_
          have hHeld := HC.out _ hk0
          iterate 4 (
            refine sch_takes_cons ?_
            first
              | (refine sch_take (v := ?_) rfl (by assumption) (by rfl) ?_ ?_; rotate_left; (focus (intro wy hSy; (try dsimp only at hSy); go_simp; (try with_reducible rfl))))
              | (refine sch_pass rfl (by assumption) (by rfl) ?_)
            simp only [Act.put, List.setIfInBounds_toArray, List.set_cons_zero, List.set_cons_succ])
          refine sch_takes_nil ?_
          refine sch_run rfl (fun K hK => ?_)
          go_simp
          refine (kR.out _ hk0).mono ?_
          rintro e va ⟨rfl, hkva⟩
          have hHeld := HC.out _ hkva
          try dsimp only
          refine hK.out _ _ (fun _ => hHeld) ?_
          clear hK K
          try simp only [Act.put, List.setIfInBounds_toArray, List.set_cons_zero, List.set_cons_succ]
          iterate 7 (
            refine sch_takes_cons ?_
            first
              | (refine sch_take (v := ?_) rfl (by assumption) (by rfl) ?_ ?_; rotate_left; (focus (intro wy hSy; (try dsimp only at hSy); go_simp; (try with_reducible rfl))))
              | (refine sch_pass rfl (by assumption) (by rfl) ?_)
            simp only [Act.put, List.setIfInBounds_toArray, List.set_cons_zero, List.set_cons_succ])
          refine sch_takes_nil ?_
          refine sch_run rfl (fun K hK => ?_)
          go_simp
          refine (kHR.out _ hkva).mono ?_
          rintro e vb ⟨rfl, hkvb⟩
          have hHeld := HC.out _ hkvb
          try dsimp only
          refine hK.out _ _ (fun _ => hHeld) ?_
          clear hK K
          try simp only [Act.put, List.setIfInBounds_toArray, List.set_cons_zero, List.set_cons_succ]
          refine sch_run rfl (fun K hK => ?_)
          go_simp
          refine (kHA.out _ hkvb).mono ?_
          rintro e vc ⟨rfl, hkvc⟩
          have hHeld := HC.out _ hkvc
          try dsimp only
          refine hK.out _ _ (fun _ => hHeld) ?_
          clear hK K
          try simp only [Act.put, List.setIfInBounds_toArray, List.set_cons_zero, List.set_cons_succ]
          iterate 7 (
            refine sch_takes_cons ?_
            first
              | (refine sch_take (v := ?_) rfl (by assumption) (by rfl) ?_ ?_; rotate_left; (focus (intro wy hSy; (try dsimp only at hSy); go_simp; (try with_reducible rfl))))
              | (refine sch_pass rfl (by assumption) (by rfl) ?_)
            simp only [Act.put, List.setIfInBounds_toArray, List.set_cons_zero, List.set_cons_succ])
          refine sch_takes_nil ?_
          refine sch_done ?_
          refine NoPanic.normal ?_
          all_goals go_wp2_with fail
          all_goals go_meet
          all_goals exact ⟨rfl, by assumption⟩
      case rest =>
        obtain ⟨rfl, hk⟩ := hcut
        rename World => wp
        have HB7 := Lib.hid (HB6.out.trans (hk.mono HB6.out.size))
        have HA7 := Lib.hid (HA6.out.keeps hk)
        have HY7 := Lib.hid (HY6.out.keeps hk)
        clear hk HR6 HSR
        clear HA6 HY6 HB6
        have c0 := HA7.out.c0
        have d0 := HY7.out.c0
        have fd := Row.loose HY7.out.lies 0
        obtain ⟨Z, hZ⟩ : ∃ Z, y.with x.low = Z := ⟨_, rfl⟩
        have hnZ : Z.n ≤ 1100 := by rw [← hZ]; exact hnY
        have HZL := Lib.hid (show Z.low = x.low by rw [← hZ]; rfl)
        have hb' : Below w.heap.size w (wp.setCell ⟨g4, 0, none⟩ (.int .u64 (x.low : Int))) := HB7.out.setCell hu4 _
        have HB8 := Lib.hid hb'
        have HA8 := Lib.hid (show AtS (wp.setCell ⟨g4, 0, none⟩ (.int .u64 (x.low : Int))) g3 x from ⟨Row.far HA7.out.lies hne _, HXI'.out.keeps hb'⟩)
        have HZ8 := Lib.hid (show AtS (wp.setCell ⟨g4, 0, none⟩ (.int .u64 (x.low : Int))) g4 Z from by rw [← hZ]; exact ⟨Row.put HY7.out.lies 0 _, ⟨HYI'.out.len, HYI'.out.cap, HYI'.out.nil, HXI'.out.low, HYI'.out.ins, HYI'.out.reads.keeps hb'⟩⟩)
        clear hb'
        clear HA7 HY7 HB7
        obtain ⟨V, hV⟩ : ∃ V, wp.setCell ⟨g4, 0, none⟩ (.int .u64 (x.low : Int)) = V := ⟨_, rfl⟩
        rw [hV] at HB8 HA8 HZ8
        obtain ⟨RZ, hRZ⟩ : ∃ R, Z.s.right = R := ⟨_, rfl⟩
        have z0 := HZ8.out.c0
        have z1 := HZ8.out.c1
        go_wp2_with fail
        clear z0 z1
        clear c0 d0 fd hZ hV
        refine (S.right Z _ HZ8.out.isIn hnZ).mono ?_
        rintro r w9 ⟨rfl, hb9⟩
        have HB9 := Lib.hid (HB8.out.trans (hb9.mono HB8.out.size))
        have HA9 := Lib.hid (HA8.out.keeps hb9)
        have HZ9 := Lib.hid (HZ8.out.keeps hb9)
        clear hb9
        clear HA8 HZ8 HB8
        rw [hRZ]
        cases RZ
        · clear hRZ
          go_wp2_with fail
          refine (HH.out _).mono ?_
          rintro r wh ⟨rfl, hbh⟩
          have HBH := Lib.hid (HB9.out.trans (hbh.mono HB9.out.size))
          clear hbh
          go_wp2
          go_ret
          exact ⟨rfl, HBH.out⟩
        have HRZ := Lib.hid hRZ
        clear hRZ
        have a0 := HA9.out.c0
        have a1 := HA9.out.c1
        have z0 := HZ9.out.c0
        have z1 := HZ9.out.c1
        go_wp2_with fail
        clear a0 a1 z0 z1
        refine (join_ok J x Z _ HA9.out.isIn HZ9.out.isIn hnA hnZ).mono ?_
        rintro r w10 ⟨T, rfl, hT, hi, hnT, hb10⟩
        have HST := Lib.hid hT
        have HB10 := Lib.hid ((HB9.out.trans (hb10.mono HB9.out.size)).alloc (HB9.out.trans (hb10.mono HB9.out.size)).size (.cells #[.int .u64 (T.low : Int), .slice T.A T.n T.c] 25))
        have HA10 := Lib.hid ((HA9.out.keeps hb10).alloc (.cells #[.int .u64 (T.low : Int), .slice T.A T.n T.c] 25))
        have HZ10 := Lib.hid ((HZ9.out.keeps hb10).alloc (.cells #[.int .u64 (T.low : Int), .slice T.A T.n T.c] 25))
        have HT10 := Lib.hid (AtS.new hi)
        clear hi hT hb10
        clear HA9 HZ9 HB9
        obtain ⟨W10, hW10⟩ : ∃ W, w10.alloc (.cells #[.int .u64 (T.low : Int), .slice T.A T.n T.c] 25) = W := ⟨_, rfl⟩
        rw [hW10] at HB10 HA10 HZ10 HT10
        obtain ⟨F, hF⟩ : ∃ F, x.s.joinE Z.s = F := ⟨_, rfl⟩
        have HF := Lib.hid hF
        rw [hF]
        rw [hF] at HST
        clear hF
        have hF6 : F = 0 ∨ (F = 6 ∧ 1000 < x.n + Z.n) := by
          rw [← HF.out]; unfold LS.joinE; rw [HRA.out, HRZ.out, if_pos (show x.s.low = Z.s.low from HZL.out.symm)]
          simp only [Bool.and_self, if_true]
          split
          · exact .inl rfl
          · rename_i hlen
            have h3 := len_joinL x.l Z.l
            have h4 : ¬ (joinL x.l Z.l).length ≤ 1000 := hlen
            have h5 := HA10.out.isIn.len
            have h6 := HZ10.out.isIn.len
            exact .inr ⟨rfl, by omega⟩
        rcases hF6 with rfl | ⟨rfl, hsum⟩
        rotate_left
        · have c1 := HA10.out.c1
          have z1 := HZ10.out.c1
          have hs1 : IntKind.i64.wrap ((x.n : Int) + (Z.n : Int)) = (x.n : Int) + (Z.n : Int) := by rw [IntKind.wrap_i64]; omega
          have hs2 : (1000 : Int) < (x.n : Int) + (Z.n : Int) := by omega
          have hs3 : decide ((1000 : Int) < (x.n : Int) + (Z.n : Int)) = true := decide_eq_true hs2
          go_wp2_with fail
          refine (HH.out _).mono ?_
          rintro r wh ⟨rfl, hbh⟩
          have HBH := Lib.hid (HB10.out.trans (hbh.mono HB10.out.size))
          clear hbh
          go_wp2
          go_ret
          exact ⟨rfl, HBH.out⟩
        have HSTT := Lib.hid (show T.s = x.s.joinS Z.s from HST.out)
        go_upto_region 16 with fail
        clear hW10
        try go_frame
        have HC := Lib.hid (show ∀ wx, Keep W10 wx → Keep W10 wx ∧ wx.cell? ⟨g3, 0, none⟩ = some (.int .u64 (x.low : Int)) ∧ wx.cell? ⟨g3, 1, none⟩ = some (.slice x.A x.n x.c) ∧ wx.cell? ⟨g4, 0, none⟩ = some (.int .u64 (Z.low : Int)) ∧ wx.cell? ⟨g4, 1, none⟩ = some (.slice Z.A Z.n Z.c) ∧ wx.cell? ⟨w10.heap.size, 0, none⟩ = some (.int .u64 (T.low : Int)) ∧ wx.cell? ⟨w10.heap.size, 1, none⟩ = some (.slice T.A T.n T.c) from fun wx hk => ⟨hk, (HA10.out.keeps hk).c0, (HA10.out.keeps hk).c1, (HZ10.out.keeps hk).c0, (HZ10.out.keeps hk).c1, (HT10.out.keeps hk).c0, (HT10.out.keeps hk).c1⟩)
        obtain ⟨ht, hht⟩ : ∃ v, T.s.has m = v := ⟨_, rfl⟩
        obtain ⟨ha, hha⟩ : ∃ v, x.s.has m = v := ⟨_, rfl⟩
        obtain ⟨hz, hhz⟩ : ∃ v, Z.s.has m = v := ⟨_, rfl⟩
        obtain ⟨mt, hmt⟩ : ∃ v, T.s.most = v := ⟨_, rfl⟩
        obtain ⟨ma, hma⟩ : ∃ v, x.s.most = v := ⟨_, rfl⟩
        obtain ⟨mz, hmz⟩ : ∃ v, Z.s.most = v := ⟨_, rfl⟩
        have kRT := Lib.hid (fun wx (hk : Keep W10 wx) => hk.calls (S.right T wx (HT10.out.keeps hk).isIn (by omega)))
        rw [show T.s.right = true by rw [HSTT.out]; exact (LS.join_right HF.out).2.2.2] at kRT
        have kHT := Lib.hid (fun wx (hk : Keep W10 wx) => hk.calls (S.has T m wx (HT10.out.keeps hk).isIn (by omega) hm))
        rw [hht] at kHT
        have kHA := Lib.hid (fun wx (hk : Keep W10 wx) => hk.calls (S.has x m wx (HA10.out.keeps hk).isIn hnA hm))
        rw [hha] at kHA
        have kHZ := Lib.hid (fun wx (hk : Keep W10 wx) => hk.calls (S.has Z m wx (HZ10.out.keeps hk).isIn hnZ hm))
        rw [hhz] at kHZ
        have kMT := Lib.hid (fun wx (hk : Keep W10 wx) => hk.calls (S.most T wx (HT10.out.keeps hk).isIn (by omega)))
        rw [hmt] at kMT
        have kMA := Lib.hid (fun wx (hk : Keep W10 wx) => hk.calls (S.most x wx (HA10.out.keeps hk).isIn hnA))
        rw [hma] at kMA
        have kMZ := Lib.hid (fun wx (hk : Keep W10 wx) => hk.calls (S.most Z wx (HZ10.out.keeps hk).isIn hnZ))
        rw [hmz] at kMZ
        have hmem := LS.join_has HF.out m
        rw [← HSTT.out, hht, hha, hhz] at hmem
        have hmost := LS.join_most HF.out
        rw [← HSTT.out, hmt, hma, hmz] at hmost
        clear hht hha hhz hmt hma hmz
        have kh := Lib.hid (fun wx (hk : Keep W10 wx) => hk.calls (HH.out wx))
        have hk0 : Keep W10 W10.drew := (Keep.refl _).drew
        have hk1 : Keep W10 W10 := Keep.refl _
        rcases Nat.lt_or_ge ma mz with hmm | hmm
        · obtain rfl : mz = mt := by omega
          clear hmost
          have hmx : (ma : Int) < (mz : Int) := by omega
          have hmx2 : ¬ ((mz : Int) < (ma : Int)) := by omega
          cases ha
          · cases hz
            · obtain rfl : ht = false := hmem
              obtain ⟨_, c0, c1, z0, z1, t0, t1⟩ := HC.out _ hk0
              obtain ⟨_, c0', c1', z0', z1', t0', t1'⟩ := HC.out _ hk1
              refine wp_region_noPanic ?_
              refine wp_region_sch (fun wx => Keep W10 wx ∧ wx.cell? ⟨g3, 0, none⟩ = some (.int .u64 (x.low : Int)) ∧ wx.cell? ⟨g3, 1, none⟩ = some (.slice x.A x.n x.c) ∧ wx.cell? ⟨g4, 0, none⟩ = some (.int .u64 (Z.low : Int)) ∧ wx.cell? ⟨g4, 1, none⟩ = some (.slice Z.A Z.n Z.c) ∧ wx.cell? ⟨w10.heap.size, 0, none⟩ = some (.int .u64 (T.low : Int)) ∧ wx.cell? ⟨w10.heap.size, 1, none⟩ = some (.slice T.A T.n T.c)) (fun i => [4, 9, 12, 16, 22, 24, 26, 27, 31].contains i)
                (.takes [0, 1, 2, 3] (.run 4 (.takes [5, 6, 7, 8, 10, 11] (.run 9 (.run 12 (.takes [13, 14, 15] (.run 16 (.takes [17, 18, 19, 20, 21, 23, 25] (.run 22 (.run 24 (.run 26 (.run 27 (.takes [28, 29, 30] (.run 31 (.takes [32, 33] .done))))))))))))))) (by kernel_rfl) (fun _ _ _ _ _ h => h) (by kernel_rfl) ?_
              have hHeld := HC.out _ hk0
              iterate 4 (
                refine sch_takes_cons ?_
                first
                  | (refine sch_take (v := ?_) rfl (by assumption) (by rfl) ?_ ?_; rotate_left; (focus (intro wy hSy; (try dsimp only at hSy); go_simp; (try with_reducible rfl))))
                  | (refine sch_pass rfl (by assumption) (by rfl) ?_)
                simp only [Act.put, List.setIfInBounds_toArray, List.set_cons_zero, List.set_cons_succ])
              refine sch_takes_nil ?_
              refine sch_run rfl (fun K hK => ?_)
              go_simp
              refine (kRT.out _ hk0).mono ?_
              rintro e va ⟨rfl, hkva⟩
              have hHeld := HC.out _ hkva
              try dsimp only
              refine hK.out _ _ (fun _ => hHeld) ?_
              clear hK K
              try simp only [Act.put, List.setIfInBounds_toArray, List.set_cons_zero, List.set_cons_succ]
              iterate 6 (
                refine sch_takes_cons ?_
                first
                  | (refine sch_take (v := ?_) rfl (by assumption) (by rfl) ?_ ?_; rotate_left; (focus (intro wy hSy; (try dsimp only at hSy); go_simp; (try with_reducible rfl))))
                  | (refine sch_pass rfl (by assumption) (by rfl) ?_)
                simp only [Act.put, List.setIfInBounds_toArray, List.set_cons_zero, List.set_cons_succ])
              refine sch_takes_nil ?_
              refine sch_run rfl (fun K hK => ?_)
              go_simp
              refine (kHT.out _ hkva).mono ?_
              rintro e vb ⟨rfl, hkvb⟩
              have hHeld := HC.out _ hkvb
              try dsimp only
              refine hK.out _ _ (fun _ => hHeld) ?_
              clear hK K
              try simp only [Act.put, List.setIfInBounds_toArray, List.set_cons_zero, List.set_cons_succ]
              refine sch_run rfl (fun K hK => ?_)
              go_simp
              refine (kHA.out _ hkvb).mono ?_
              rintro e vc ⟨rfl, hkvc⟩
              have hHeld := HC.out _ hkvc
              try dsimp only
              refine hK.out _ _ (fun _ => hHeld) ?_
              clear hK K
              try simp only [Act.put, List.setIfInBounds_toArray, List.set_cons_zero, List.set_cons_succ]
              iterate 3 (
                refine sch_takes_cons ?_
                first
                  | (refine sch_take (v := ?_) rfl (by assumption) (by rfl) ?_ ?_; rotate_left; (focus (intro wy hSy; (try dsimp only at hSy); go_simp; (try with_reducible rfl))))
                  | (refine sch_pass rfl (by assumption) (by rfl) ?_)
                simp only [Act.put, List.setIfInBounds_toArray, List.set_cons_zero, List.set_cons_succ])
              refine sch_takes_nil ?_
              refine sch_run rfl (fun K hK => ?_)
              go_simp
              refine (kHZ.out _ hkvc).mono ?_
              rintro e vd ⟨rfl, hkvd⟩
              have hHeld := HC.out _ hkvd
              try dsimp only
              refine hK.out _ _ (fun _ => hHeld) ?_
              clear hK K
              try simp only [Act.put, List.setIfInBounds_toArray, List.set_cons_zero, List.set_cons_succ]
              iterate 7 (
                refine sch_takes_cons ?_
                first
                  | (refine sch_take (v := ?_) rfl (by assumption) (by rfl) ?_ ?_; rotate_left; (focus (intro wy hSy; (try dsimp only at hSy); go_simp; (try with_reducible rfl))))
                  | (refine sch_pass rfl (by assumption) (by rfl) ?_)
                simp only [Act.put, List.setIfInBounds_toArray, List.set_cons_zero, List.set_cons_succ])
              refine sch_takes_nil ?_
              refine sch_run rfl (fun K hK => ?_)
              go_simp
              refine (kMT.out _ hkvd).mono ?_
              rintro e ve ⟨rfl, hkve⟩
              have hHeld := HC.out _ hkve
              try dsimp only
              refine hK.out _ _ (fun _ => hHeld) ?_
              clear hK K
              try simp only [Act.put, List.setIfInBounds_toArray, List.set_cons_zero, List.set_cons_succ]
              refine sch_run rfl (fun K hK => ?_)
              go_simp
              refine (kMA.out _ hkve).mono ?_
              rintro e vf ⟨rfl, hkvf⟩
              have hHeld := HC.out _ hkvf
              try dsimp only
              refine hK.out _ _ (fun _ => hHeld) ?_
              clear hK K
              try simp only [Act.put, List.setIfInBounds_toArray, List.set_cons_zero, List.set_cons_succ]
              refine sch_run rfl (fun K hK => ?_)
              go_simp
              refine (kMZ.out _ hkvf).mono ?_
              rintro e vg ⟨rfl, hkvg⟩
              have hHeld := HC.out _ hkvg
              try dsimp only
              refine hK.out _ _ (fun _ => hHeld) ?_
              clear hK K
              try simp only [Act.put, List.setIfInBounds_toArray, List.set_cons_zero, List.set_cons_succ]
              refine sch_run rfl (fun K hK => ?_)
              go_simp
              refine hK.out _ _ (fun _ => hHeld) ?_
              clear hK K
              try simp only [Act.put, List.setIfInBounds_toArray, List.set_cons_zero, List.set_cons_succ]
              iterate 3 (
                refine sch_takes_cons ?_
                first
                  | (refine sch_take (v := ?_) rfl (by assumption) (by rfl) ?_ ?_; rotate_left; (focus (intro wy hSy; (try dsimp only at hSy); go_simp; (try with_reducible rfl))))
                  | (refine sch_pass rfl (by assumption) (by rfl) ?_)
                simp only [Act.put, List.setIfInBounds_toArray, List.set_cons_zero, List.set_cons_succ])
              refine sch_takes_nil ?_
              refine sch_run rfl (fun K hK => ?_)
              go_simp
              refine (kh.out _ hkvg).mono ?_
              rintro e vh ⟨rfl, hkvh⟩
              have hHeld := HC.out _ hkvh
              try dsimp only
              refine hK.out _ _ (fun _ => hHeld) ?_
              clear hK K
              try simp only [Act.put, List.setIfInBounds_toArray, List.set_cons_zero, List.set_cons_succ]
              iterate 2 (
                refine sch_takes_cons ?_
                first
                  | (refine sch_take (v := ?_) rfl (by assumption) (by rfl) ?_ ?_; rotate_left; (focus (intro wy hSy; (try dsimp only at hSy); go_simp; (try with_reducible rfl))))
                  | (refine sch_pass rfl (by assumption) (by rfl) ?_)
                simp only [Act.put, List.setIfInBounds_toArray, List.set_cons_zero, List.set_cons_succ])
              refine sch_takes_nil ?_
              refine sch_done ?_
              refine NoPanic.normal ?_
              all_goals go_wp2_with fail
              all_goals try go_frame
              all_goals go_ret
              all_goals exact ⟨rfl, HB10.out.trans (hkvh.mono HB10.out.size)⟩
            · obtain rfl : ht = true := hmem
              obtain ⟨_, c0, c1, z0, z1, t0, t1⟩ := HC.out _ hk0
              obtain ⟨_, c0', c1', z0', z1', t0', t1'⟩ := HC.out _ hk1
              refine wp_region_noPanic ?_
              refine wp_region_sch (fun wx => Keep W10 wx ∧ wx.cell? ⟨g3, 0, none⟩ = some (.int .u64 (x.low : Int)) ∧ wx.cell? ⟨g3, 1, none⟩ = some (.slice x.A x.n x.c) ∧ wx.cell? ⟨g4, 0, none⟩ = some (.int .u64 (Z.low : Int)) ∧ wx.cell? ⟨g4, 1, none⟩ = some (.slice Z.A Z.n Z.c) ∧ wx.cell? ⟨w10.heap.size, 0, none⟩ = some (.int .u64 (T.low : Int)) ∧ wx.cell? ⟨w10.heap.size, 1, none⟩ = some (.slice T.A T.n T.c)) (fun i => [4, 9, 12, 16, 22, 24, 26, 27, 31].contains i)
                (.takes [0, 1, 2, 3] (.run 4 (.takes [5, 6, 7, 8, 10, 11] (.run 9 (.run 12 (.takes [13, 14, 15] (.run 16 (.takes [17, 18, 19, 20, 21, 23, 25] (.run 22 (.run 24 (.run 26 (.run 27 (.takes [28, 29, 30] (.run 31 (.takes [32, 33] .done))))))))))))))) (by kernel_rfl) (fun _ _ _ _ _ h => h) (by kernel_rfl) ?_
              have hHeld := HC.out _ hk0
              iterate 4 (
                refine sch_takes_cons ?_
                first
                  | (refine sch_take (v := ?_) rfl (by assumption) (by rfl) ?_ ?_; rotate_left; (focus (intro wy hSy; (try dsimp only at hSy); go_simp; (try with_reducible rfl))))
                  | (refine sch_pass rfl (by assumption) (by rfl) ?_)
                simp only [Act.put, List.setIfInBounds_toArray, List.set_cons_zero, List.set_cons_succ])
              refine sch_takes_nil ?_
              refine sch_run rfl (fun K hK => ?_)
              go_simp
              refine (kRT.out _ hk0).mono ?_
              rintro e va ⟨rfl, hkva⟩
              have hHeld := HC.out _ hkva
              try dsimp only
              refine hK.out _ _ (fun _ => hHeld) ?_
              clear hK K
              try simp only [Act.put, List.setIfInBounds_toArray, List.set_cons_zero, List.set_cons_succ]
              iterate 6 (
                refine sch_takes_cons ?_
                first
                  | (refine sch_take (v := ?_) rfl (by assumption) (by rfl) ?_ ?_; rotate_left; (focus (intro wy hSy; (try dsimp only at hSy); go_simp; (try with_reducible rfl))))
                  | (refine sch_pass rfl (by assumption) (by rfl) ?_)
                simp only [Act.put, List.setIfInBounds_toArray, List.set_cons_zero, List.set_cons_succ])
              refine sch_takes_nil ?_
              refine sch_run rfl (fun K hK => ?_)
              go_simp
              refine (kHT.out _ hkva).mono ?_
              rintro e vb ⟨rfl, hkvb⟩
              have hHeld := HC.out _ hkvb
              try dsimp only
              refine hK.out _ _ (fun _ => hHeld) ?_
              clear hK K
              try simp only [Act.put, List.setIfInBounds_toArray, List.set_cons_zero, List.set_cons_succ]
              refine sch_run rfl (fun K hK => ?_)
              go_simp
              refine (kHA.out _ hkvb).mono ?_
              rintro e vc ⟨rfl, hkvc⟩
              have hHeld := HC.out _ hkvc
              try dsimp only
              refine hK.out _ _ (fun _ => hHeld) ?_
              clear hK K
              try simp only [Act.put, List.setIfInBounds_toArray, List.set_cons_zero, List.set_cons_succ]
              iterate 3 (
                refine sch_takes_cons ?_
                first
                  | (refine sch_take (v := ?_) rfl (by assumption) (by rfl) ?_ ?_; rotate_left; (focus (intro wy hSy; (try dsimp only at hSy); go_simp; (try with_reducible rfl))))
                  | (refine sch_pass rfl (by assumption) (by rfl) ?_)
                simp only [Act.put, List.setIfInBounds_toArray, List.set_cons_zero, List.set_cons_succ])
              refine sch_takes_nil ?_
              refine sch_run rfl (fun K hK => ?_)
              go_simp
              refine (kHZ.out _ hkvc).mono ?_
              rintro e vd ⟨rfl, hkvd⟩
              have hHeld := HC.out _ hkvd
              try dsimp only
              refine hK.out _ _ (fun _ => hHeld) ?_
              clear hK K
              try simp only [Act.put, List.setIfInBounds_toArray, List.set_cons_zero, List.set_cons_succ]
              iterate 7 (
                refine sch_takes_cons ?_
                first
                  | (refine sch_take (v := ?_) rfl (by assumption) (by rfl) ?_ ?_; rotate_left; (focus (intro wy hSy; (try dsimp only at hSy); go_simp; (try with_reducible rfl))))
                  | (refine sch_pass rfl (by assumption) (by rfl) ?_)
                simp only [Act.put, List.setIfInBounds_toArray, List.set_cons_zero, List.set_cons_succ])
              refine sch_takes_nil ?_
              refine sch_run rfl (fun K hK => ?_)
              go_simp
              refine (kMT.out _ hkvd).mono ?_
              rintro e ve ⟨rfl, hkve⟩
              have hHeld := HC.out _ hkve
              try dsimp only
              refine hK.out _ _ (fun _ => hHeld) ?_
              clear hK K
              try simp only [Act.put, List.setIfInBounds_toArray, List.set_cons_zero, List.set_cons_succ]
              refine sch_run rfl (fun K hK => ?_)
              go_simp
              refine (kMA.out _ hkve).mono ?_
              rintro e vf ⟨rfl, hkvf⟩
              have hHeld := HC.out _ hkvf
              try dsimp only
              refine hK.out _ _ (fun _ => hHeld) ?_
              clear hK K
              try simp only [Act.put, List.setIfInBounds_toArray, List.set_cons_zero, List.set_cons_succ]
              refine sch_run rfl (fun K hK => ?_)
              go_simp
              refine (kMZ.out _ hkvf).mono ?_
              rintro e vg ⟨rfl, hkvg⟩
              have hHeld := HC.out _ hkvg
              try dsimp only
              refine hK.out _ _ (fun _ => hHeld) ?_
              clear hK K
              try simp only [Act.put, List.setIfInBounds_toArray, List.set_cons_zero, List.set_cons_succ]
              refine sch_run rfl (fun K hK => ?_)
              go_simp
              refine hK.out _ _ (fun _ => hHeld) ?_
              clear hK K
              try simp only [Act.put, List.setIfInBounds_toArray, List.set_cons_zero, List.set_cons_succ]
              iterate 3 (
                refine sch_takes_cons ?_
                first
                  | (refine sch_take (v := ?_) rfl (by assumption) (by rfl) ?_ ?_; rotate_left; (focus (intro wy hSy; (try dsimp only at hSy); go_simp; (try with_reducible rfl))))
                  | (refine sch_pass rfl (by assumption) (by rfl) ?_)
                simp only [Act.put, List.setIfInBounds_toArray, List.set_cons_zero, List.set_cons_succ])
              refine sch_takes_nil ?_
              refine sch_run rfl (fun K hK => ?_)
              go_simp
              refine (kh.out _ hkvg).mono ?_
              rintro e vh ⟨rfl, hkvh⟩
              have hHeld := HC.out _ hkvh
              try dsimp only
              refine hK.out _ _ (fun _ => hHeld) ?_
              clear hK K
              try simp only [Act.put, List.setIfInBounds_toArray, List.set_cons_zero, List.set_cons_succ]
              iterate 2 (
                refine sch_takes_cons ?_
                first
                  | (refine sch_take (v := ?_) rfl (by assumption) (by rfl) ?_ ?_; rotate_left; (focus (intro wy hSy; (try dsimp only at hSy); go_simp; (try with_reducible rfl))))
                  | (refine sch_pass rfl (by assumption) (by rfl) ?_)
                simp only [Act.put, List.setIfInBounds_toArray, List.set_cons_zero, List.set_cons_succ])
              refine sch_takes_nil ?_
              refine sch_done ?_
              refine NoPanic.normal ?_
              all_goals go_wp2_with fail
              all_goals try go_frame
              all_goals go_ret
              all_goals exact ⟨rfl, HB10.out.trans (hkvh.mono HB10.out.size)⟩
          · obtain rfl : ht = true := by rw [Bool.true_or] at hmem; exact hmem
            clear hmem
            obtain ⟨_, c0, c1, z0, z1, t0, t1⟩ := HC.out _ hk0
            obtain ⟨_, c0', c1', z0', z1', t0', t1'⟩ := HC.out _ hk1
            refine wp_region_noPanic ?_
            refine wp_region_sch (fun wx => Keep W10 wx ∧ wx.cell? ⟨g3, 0, none⟩ = some (.int .u64 (x.low : Int)) ∧ wx.cell? ⟨g3, 1, none⟩ = some (.slice x.A x.n x.c) ∧ wx.cell? ⟨g4, 0, none⟩ = some (.int .u64 (Z.low : Int)) ∧ wx.cell? ⟨g4, 1, none⟩ = some (.slice Z.A Z.n Z.c) ∧ wx.cell? ⟨w10.heap.size, 0, none⟩ = some (.int .u64 (T.low : Int)) ∧ wx.cell? ⟨w10.heap.size, 1, none⟩ = some (.slice T.A T.n T.c)) (fun i => [4, 9, 12, 16, 22, 24, 26, 27, 31].contains i)
              (.takes [0, 1, 2, 3] (.run 4 (.takes [5, 6, 7, 8, 10, 11] (.run 9 (.run 12 (.takes [13, 14, 15] (.run 16 (.takes [17, 18, 19, 20, 21, 23, 25] (.run 22 (.run 24 (.run 26 (.run 27 (.takes [28, 29, 30] (.run 31 (.takes [32, 33] .done))))))))))))))) (by kernel_rfl) (fun _ _ _ _ _ h => h) (by kernel_rfl) ?_
            have hHeld := HC.out _ hk0
            iterate 4 (
              refine sch_takes_cons ?_
              first
                | (refine sch_take (v := ?_) rfl (by assumption) (by rfl) ?_ ?_; rotate_left; (focus (intro wy hSy; (try dsimp only at hSy); go_simp; (try with_reducible rfl))))
                | (refine sch_pass rfl (by assumption) (by rfl) ?_)
              simp only [Act.put, List.setIfInBounds_toArray, List.set_cons_zero, List.set_cons_succ])
            refine sch_takes_nil ?_
            refine sch_run rfl (fun K hK => ?_)
            go_simp
            refine (kRT.out _ hk0).mono ?_
            rintro e va ⟨rfl, hkva⟩
            have hHeld := HC.out _ hkva
            try dsimp only
            refine hK.out _ _ (fun _ => hHeld) ?_
            clear hK K
            try simp only [Act.put, List.setIfInBounds_toArray, List.set_cons_zero, List.set_cons_succ]
            iterate 6 (
              refine sch_takes_cons ?_
              first
                | (refine sch_take (v := ?_) rfl (by assumption) (by rfl) ?_ ?_; rotate_left; (focus (intro wy hSy; (try dsimp only at hSy); go_simp; (try with_reducible rfl))))
                | (refine sch_pass rfl (by assumption) (by rfl) ?_)
              simp only [Act.put, List.setIfInBounds_toArray, List.set_cons_zero, List.set_cons_succ])
            refine sch_takes_nil ?_
            refine sch_run rfl (fun K hK => ?_)
            go_simp
            refine (kHT.out _ hkva).mono ?_
            rintro e vb ⟨rfl, hkvb⟩
            have hHeld := HC.out _ hkvb
            try dsimp only
            refine hK.out _ _ (fun _ => hHeld) ?_
            clear hK K
            try simp only [Act.put, List.setIfInBounds_toArray, List.set_cons_zero, List.set_cons_succ]
            refine sch_run rfl (fun K hK => ?_)
            go_simp
            refine (kHA.out _ hkvb).mono ?_
            rintro e vc ⟨rfl, hkvc⟩
            have hHeld := HC.out _ hkvc
            try dsimp only
            refine hK.out _ _ (fun _ => hHeld) ?_
            clear hK K
            try simp only [Act.put, List.setIfInBounds_toArray, List.set_cons_zero, List.set_cons_succ]
            iterate 3 (
              refine sch_takes_cons ?_
              first
                | (refine sch_take (v := ?_) rfl (by assumption) (by rfl) ?_ ?_; rotate_left; (focus (intro wy hSy; (try dsimp only at hSy); go_simp; (try with_reducible rfl))))
                | (refine sch_pass rfl (by assumption) (by rfl) ?_)
              simp only [Act.put, List.setIfInBounds_toArray, List.set_cons_zero, List.set_cons_succ])
            refine sch_takes_nil ?_
            refine sch_run rfl (fun K hK => ?_)
            go_simp
            refine hK.out _ _ (fun _ => hHeld) ?_
            clear hK K
            try simp only [Act.put, List.setIfInBounds_toArray, List.set_cons_zero, List.set_cons_succ]
            iterate 7 (
              refine sch_takes_cons ?_
              first
                | (refine sch_take (v := ?_) rfl (by assumption) (by rfl) ?_ ?_; rotate_left; (focus (intro wy hSy; (try dsimp only at hSy); go_simp; (try with_reducible rfl))))
                | (refine sch_pass rfl (by assumption) (by rfl) ?_)
              simp only [Act.put, List.setIfInBounds_toArray, List.set_cons_zero, List.set_cons_succ])
            refine sch_takes_nil ?_
            refine sch_run rfl (fun K hK => ?_)
            go_simp
            refine (kMT.out _ hkvc).mono ?_
            rintro e ve ⟨rfl, hkve⟩
            have hHeld := HC.out _ hkve
            try dsimp only
            refine hK.out _ _ (fun _ => hHeld) ?_
            clear hK K
            try simp only [Act.put, List.setIfInBounds_toArray, List.set_cons_zero, List.set_cons_succ]
            refine sch_run rfl (fun K hK => ?_)
            go_simp
            refine (kMA.out _ hkve).mono ?_
            rintro e vf ⟨rfl, hkvf⟩
            have hHeld := HC.out _ hkvf
            try dsimp only
            refine hK.out _ _ (fun _ => hHeld) ?_
            clear hK K
            try simp only [Act.put, List.setIfInBounds_toArray, List.set_cons_zero, List.set_cons_succ]
            refine sch_run rfl (fun K hK => ?_)
            go_simp
            refine (kMZ.out _ hkvf).mono ?_
            rintro e vg ⟨rfl, hkvg⟩
            have hHeld := HC.out _ hkvg
            try dsimp only
            refine hK.out _ _ (fun _ => hHeld) ?_
            clear hK K
            try simp only [Act.put, List.setIfInBounds_toArray, List.set_cons_zero, List.set_cons_succ]
            refine sch_run rfl (fun K hK => ?_)
            go_simp
            refine hK.out _ _ (fun _ => hHeld) ?_
            clear hK K
            try simp only [Act.put, List.setIfInBounds_toArray, List.set_cons_zero, List.set_cons_succ]
            iterate 3 (
              refine sch_takes_cons ?_
              first
                | (refine sch_take (v := ?_) rfl (by assumption) (by rfl) ?_ ?_; rotate_left; (focus (intro wy hSy; (try dsimp only at hSy); go_simp; (try with_reducible rfl))))
                | (refine sch_pass rfl (by assumption) (by rfl) ?_)
              simp only [Act.put, List.setIfInBounds_toArray, List.set_cons_zero, List.set_cons_succ])
            refine sch_takes_nil ?_
            refine sch_run rfl (fun K hK => ?_)
            go_simp
            refine (kh.out _ hkvg).mono ?_
            rintro e vh ⟨rfl, hkvh⟩
            have hHeld := HC.out _ hkvh
            try dsimp only
            refine hK.out _ _ (fun _ => hHeld) ?_
            clear hK K
            try simp only [Act.put, List.setIfInBounds_toArray, List.set_cons_zero, List.set_cons_succ]
            iterate 2 (
              refine sch_takes_cons ?_
              first
                | (refine sch_take (v := ?_) rfl (by assumption) (by rfl) ?_ ?_; rotate_left; (focus (intro wy hSy; (try dsimp only at hSy); go_simp; (try with_reducible rfl))))
                | (refine sch_pass rfl (by assumption) (by rfl) ?_)
              simp only [Act.put, List.setIfInBounds_toArray, List.set_cons_zero, List.set_cons_succ])
            refine sch_takes_nil ?_
            refine sch_done ?_
            refine NoPanic.normal ?_
            all_goals go_wp2_with fail
            all_goals try go_frame
            all_goals go_ret
            all_goals exact ⟨rfl, HB10.out.trans (hkvh.mono HB10.out.size)⟩
        · obtain rfl : ma = mt := by omega
          clear hmost
          have hmx : ¬ ((ma : Int) < (mz : Int)) := by omega
          have hmx2 : (mz : Int) ≤ (ma : Int) := by omega
          cases ha
          · cases hz
            · obtain rfl : ht = false := hmem
              obtain ⟨_, c0, c1, z0, z1, t0, t1⟩ := HC.out _ hk0
              obtain ⟨_, c0', c1', z0', z1', t0', t1'⟩ := HC.out _ hk1
              refine wp_region_noPanic ?_
              refine wp_region_sch (fun wx => Keep W10 wx ∧ wx.cell? ⟨g3, 0, none⟩ = some (.int .u64 (x.low : Int)) ∧ wx.cell? ⟨g3, 1, none⟩ = some (.slice x.A x.n x.c) ∧ wx.cell? ⟨g4, 0, none⟩ = some (.int .u64 (Z.low : Int)) ∧ wx.cell? ⟨g4, 1, none⟩ = some (.slice Z.A Z.n Z.c) ∧ wx.cell? ⟨w10.heap.size, 0, none⟩ = some (.int .u64 (T.low : Int)) ∧ wx.cell? ⟨w10.heap.size, 1, none⟩ = some (.slice T.A T.n T.c)) (fun i => [4, 9, 12, 16, 22, 24, 26, 27, 31].contains i)
                (.takes [0, 1, 2, 3] (.run 4 (.takes [5, 6, 7, 8, 10, 11] (.run 9 (.run 12 (.takes [13, 14, 15] (.run 16 (.takes [17, 18, 19, 20, 21, 23, 25] (.run 22 (.run 24 (.run 26 (.run 27 (.takes [28, 29, 30] (.run 31 (.takes [32, 33] .done))))))))))))))) (by kernel_rfl) (fun _ _ _ _ _ h => h) (by kernel_rfl) ?_
              have hHeld := HC.out _ hk0
              iterate 4 (
                refine sch_takes_cons ?_
                first
                  | (refine sch_take (v := ?_) rfl (by assumption) (by rfl) ?_ ?_; rotate_left; (focus (intro wy hSy; (try dsimp only at hSy); go_simp; (try with_reducible rfl))))
                  | (refine sch_pass rfl (by assumption) (by rfl) ?_)
                simp only [Act.put, List.setIfInBounds_toArray, List.set_cons_zero, List.set_cons_succ])
              refine sch_takes_nil ?_
              refine sch_run rfl (fun K hK => ?_)
              go_simp
              refine (kRT.out _ hk0).mono ?_
              rintro e va ⟨rfl, hkva⟩
              have hHeld := HC.out _ hkva
              try dsimp only
              refine hK.out _ _ (fun _ => hHeld) ?_
              clear hK K
              try simp only [Act.put, List.setIfInBounds_toArray, List.set_cons_zero, List.set_cons_succ]
              iterate 6 (
                refine sch_takes_cons ?_
                first
                  | (refine sch_take (v := ?_) rfl (by assumption) (by rfl) ?_ ?_; rotate_left; (focus (intro wy hSy; (try dsimp only at hSy); go_simp; (try with_reducible rfl))))
                  | (refine sch_pass rfl (by assumption) (by rfl) ?_)
                simp only [Act.put, List.setIfInBounds_toArray, List.set_cons_zero, List.set_cons_succ])
              refine sch_takes_nil ?_
              refine sch_run rfl (fun K hK => ?_)
              go_simp
              refine (kHT.out _ hkva).mono ?_
              rintro e vb ⟨rfl, hkvb⟩
              have hHeld := HC.out _ hkvb
              try dsimp only
              refine hK.out _ _ (fun _ => hHeld) ?_
              clear hK K
              try simp only [Act.put, List.setIfInBounds_toArray, List.set_cons_zero, List.set_cons_succ]
              refine sch_run rfl (fun K hK => ?_)
              go_simp
              refine (kHA.out _ hkvb).mono ?_
              rintro e vc ⟨rfl, hkvc⟩
              have hHeld := HC.out _ hkvc
              try dsimp only
              refine hK.out _ _ (fun _ => hHeld) ?_
              clear hK K
              try simp only [Act.put, List.setIfInBounds_toArray, List.set_cons_zero, List.set_cons_succ]
              iterate 3 (
                refine sch_takes_cons ?_
                first
                  | (refine sch_take (v := ?_) rfl (by assumption) (by rfl) ?_ ?_; rotate_left; (focus (intro wy hSy; (try dsimp only at hSy); go_simp; (try with_reducible rfl))))
                  | (refine sch_pass rfl (by assumption) (by rfl) ?_)
                simp only [Act.put, List.setIfInBounds_toArray, List.set_cons_zero, List.set_cons_succ])
              refine sch_takes_nil ?_
              refine sch_run rfl (fun K hK => ?_)
              go_simp
              refine (kHZ.out _ hkvc).mono ?_
              rintro e vd ⟨rfl, hkvd⟩
              have hHeld := HC.out _ hkvd
              try dsimp only
              refine hK.out _ _ (fun _ => hHeld) ?_
              clear hK K
              try simp only [Act.put, List.setIfInBounds_toArray, List.set_cons_zero, List.set_cons_succ]
              iterate 7 (
                refine sch_takes_cons ?_
                first
                  | (refine sch_take (v := ?_) rfl (by assumption) (by rfl) ?_ ?_; rotate_left; (focus (intro wy hSy; (try dsimp only at hSy); go_simp; (try with_reducible rfl))))
                  | (refine sch_pass rfl (by assumption) (by rfl) ?_)
                simp only [Act.put, List.setIfInBounds_toArray, List.set_cons_zero, List.set_cons_succ])
              refine sch_takes_nil ?_
              refine sch_run rfl (fun K hK => ?_)
              go_simp
              refine (kMT.out _ hkvd).mono ?_
              rintro e ve ⟨rfl, hkve⟩
              have hHeld := HC.out _ hkve
              try dsimp only
              refine hK.out _ _ (fun _ => hHeld) ?_
              clear hK K
              try simp only [Act.put, List.setIfInBounds_toArray, List.set_cons_zero, List.set_cons_succ]
              refine sch_run rfl (fun K hK => ?_)
              go_simp
              refine (kMA.out _ hkve).mono ?_
              rintro e vf ⟨rfl, hkvf⟩
              have hHeld := HC.out _ hkvf
              try dsimp only
              refine hK.out _ _ (fun _ => hHeld) ?_
              clear hK K
              try simp only [Act.put, List.setIfInBounds_toArray, List.set_cons_zero, List.set_cons_succ]
              refine sch_run rfl (fun K hK => ?_)
              go_simp
              refine (kMZ.out _ hkvf).mono ?_
              rintro e vg ⟨rfl, hkvg⟩
              have hHeld := HC.out _ hkvg
              try dsimp only
              refine hK.out _ _ (fun _ => hHeld) ?_
              clear hK K
              try simp only [Act.put, List.setIfInBounds_toArray, List.set_cons_zero, List.set_cons_succ]
              refine sch_run rfl (fun K hK => ?_)
              go_simp
              refine hK.out _ _ (fun _ => hHeld) ?_
              clear hK K
              try simp only [Act.put, List.setIfInBounds_toArray, List.set_cons_zero, List.set_cons_succ]
              iterate 3 (
                refine sch_takes_cons ?_
                first
                  | (refine sch_take (v := ?_) rfl (by assumption) (by rfl) ?_ ?_; rotate_left; (focus (intro wy hSy; (try dsimp only at hSy); go_simp; (try with_reducible rfl))))
                  | (refine sch_pass rfl (by assumption) (by rfl) ?_)
                simp only [Act.put, List.setIfInBounds_toArray, List.set_cons_zero, List.set_cons_succ])
              refine sch_takes_nil ?_
              refine sch_run rfl (fun K hK => ?_)
              go_simp
              refine (kh.out _ hkvg).mono ?_
              rintro e vh ⟨rfl, hkvh⟩
              have hHeld := HC.out _ hkvh
              try dsimp only
              refine hK.out _ _ (fun _ => hHeld) ?_
              clear hK K
              try simp only [Act.put, List.setIfInBounds_toArray, List.set_cons_zero, List.set_cons_succ]
              iterate 2 (
                refine sch_takes_cons ?_
                first
                  | (refine sch_take (v := ?_) rfl (by assumption) (by rfl) ?_ ?_; rotate_left; (focus (intro wy hSy; (try dsimp only at hSy); go_simp; (try with_reducible rfl))))
                  | (refine sch_pass rfl (by assumption) (by rfl) ?_)
                simp only [Act.put, List.setIfInBounds_toArray, List.set_cons_zero, List.set_cons_succ])
              refine sch_takes_nil ?_
              refine sch_done ?_
              refine NoPanic.normal ?_
              all_goals go_wp2_with fail
              all_goals try go_frame
              all_goals go_ret
              all_goals exact ⟨rfl, HB10.out.trans (hkvh.mono HB10.out.size)⟩
            · obtain rfl : ht = true := hmem
              obtain ⟨_, c0, c1, z0, z1, t0, t1⟩ := HC.out _ hk0
              obtain ⟨_, c0', c1', z0', z1', t0', t1'⟩ := HC.out _ hk1
              refine wp_region_noPanic ?_
              refine wp_region_sch (fun wx => Keep W10 wx ∧ wx.cell? ⟨g3, 0, none⟩ = some (.int .u64 (x.low : Int)) ∧ wx.cell? ⟨g3, 1, none⟩ = some (.slice x.A x.n x.c) ∧ wx.cell? ⟨g4, 0, none⟩ = some (.int .u64 (Z.low : Int)) ∧ wx.cell? ⟨g4, 1, none⟩ = some (.slice Z.A Z.n Z.c) ∧ wx.cell? ⟨w10.heap.size, 0, none⟩ = some (.int .u64 (T.low : Int)) ∧ wx.cell? ⟨w10.heap.size, 1, none⟩ = some (.slice T.A T.n T.c)) (fun i => [4, 9, 12, 16, 22, 24, 26, 27, 31].contains i)
                (.takes [0, 1, 2, 3] (.run 4 (.takes [5, 6, 7, 8, 10, 11] (.run 9 (.run 12 (.takes [13, 14, 15] (.run 16 (.takes [17, 18, 19, 20, 21, 23, 25] (.run 22 (.run 24 (.run 26 (.run 27 (.takes [28, 29, 30] (.run 31 (.takes [32, 33] .done))))))))))))))) (by kernel_rfl) (fun _ _ _ _ _ h => h) (by kernel_rfl) ?_
              have hHeld := HC.out _ hk0
              iterate 4 (
                refine sch_takes_cons ?_
                first
                  | (refine sch_take (v := ?_) rfl (by assumption) (by rfl) ?_ ?_; rotate_left; (focus (intro wy hSy; (try dsimp only at hSy); go_simp; (try with_reducible rfl))))
                  | (refine sch_pass rfl (by assumption) (by rfl) ?_)
                simp only [Act.put, List.setIfInBounds_toArray, List.set_cons_zero, List.set_cons_succ])
              refine sch_takes_nil ?_
              refine sch_run rfl (fun K hK => ?_)
              go_simp
              refine (kRT.out _ hk0).mono ?_
              rintro e va ⟨rfl, hkva⟩
              have hHeld := HC.out _ hkva
              try dsimp only
              refine hK.out _ _ (fun _ => hHeld) ?_
              clear hK K
              try simp only [Act.put, List.setIfInBounds_toArray, List.set_cons_zero, List.set_cons_succ]
              iterate 6 (
                refine sch_takes_cons ?_
                first
                  | (refine sch_take (v := ?_) rfl (by assumption) (by rfl) ?_ ?_; rotate_left; (focus (intro wy hSy; (try dsimp only at hSy); go_simp; (try with_reducible rfl))))
                  | (refine sch_pass rfl (by assumption) (by rfl) ?_)
                simp only [Act.put, List.setIfInBounds_toArray, List.set_cons_zero, List.set_cons_succ])
              refine sch_takes_nil ?_
              refine sch_run rfl (fun K hK => ?_)
              go_simp
              refine (kHT.out _ hkva).mono ?_
              rintro e vb ⟨rfl, hkvb⟩
              have hHeld := HC.out _ hkvb
              try dsimp only
              refine hK.out _ _ (fun _ => hHeld) ?_
              clear hK K
              try simp only [Act.put, List.setIfInBounds_toArray, List.set_cons_zero, List.set_cons_succ]
              refine sch_run rfl (fun K hK => ?_)
              go_simp
              refine (kHA.out _ hkvb).mono ?_
              rintro e vc ⟨rfl, hkvc⟩
              have hHeld := HC.out _ hkvc
              try dsimp only
              refine hK.out _ _ (fun _ => hHeld) ?_
              clear hK K
              try simp only [Act.put, List.setIfInBounds_toArray, List.set_cons_zero, List.set_cons_succ]
              iterate 3 (
                refine sch_takes_cons ?_
                first
                  | (refine sch_take (v := ?_) rfl (by assumption) (by rfl) ?_ ?_; rotate_left; (focus (intro wy hSy; (try dsimp only at hSy); go_simp; (try with_reducible rfl))))
                  | (refine sch_pass rfl (by assumption) (by rfl) ?_)
                simp only [Act.put, List.setIfInBounds_toArray, List.set_cons_zero, List.set_cons_succ])
              refine sch_takes_nil ?_
              refine sch_run rfl (fun K hK => ?_)
              go_simp
              refine (kHZ.out _ hkvc).mono ?_
              rintro e vd ⟨rfl, hkvd⟩
              have hHeld := HC.out _ hkvd
              try dsimp only
              refine hK.out _ _ (fun _ => hHeld) ?_
              clear hK K
              try simp only [Act.put, List.setIfInBounds_toArray, List.set_cons_zero, List.set_cons_succ]
              iterate 7 (
                refine sch_takes_cons ?_
                first
                  | (refine sch_take (v := ?_) rfl (by assumption) (by rfl) ?_ ?_; rotate_left; (focus (intro wy hSy; (try dsimp only at hSy); go_simp; (try with_reducible rfl))))
                  | (refine sch_pass rfl (by assumption) (by rfl) ?_)
                simp only [Act.put, List.setIfInBounds_toArray, List.set_cons_zero, List.set_cons_succ])
              refine sch_takes_nil ?_
              refine sch_run rfl (fun K hK => ?_)
              go_simp
              refine (kMT.out _ hkvd).mono ?_
              rintro e ve ⟨rfl, hkve⟩
              have hHeld := HC.out _ hkve
              try dsimp only
              refine hK.out _ _ (fun _ => hHeld) ?_
              clear hK K
              try simp only [Act.put, List.setIfInBounds_toArray, List.set_cons_zero, List.set_cons_succ]
              refine sch_run rfl (fun K hK => ?_)
              go_simp
              refine (kMA.out _ hkve).mono ?_
              rintro e vf ⟨rfl, hkvf⟩
              have hHeld := HC.out _ hkvf
              try dsimp only
              refine hK.out _ _ (fun _ => hHeld) ?_
              clear hK K
              try simp only [Act.put, List.setIfInBounds_toArray, List.set_cons_zero, List.set_cons_succ]
              refine sch_run rfl (fun K hK => ?_)
              go_simp
              refine (kMZ.out _ hkvf).mono ?_
              rintro e vg ⟨rfl, hkvg⟩
              have hHeld := HC.out _ hkvg
              try dsimp only
              refine hK.out _ _ (fun _ => hHeld) ?_
              clear hK K
              try simp only [Act.put, List.setIfInBounds_toArray, List.set_cons_zero, List.set_cons_succ]
              refine sch_run rfl (fun K hK => ?_)
              go_simp
              refine hK.out _ _ (fun _ => hHeld) ?_
              clear hK K
              try simp only [Act.put, List.setIfInBounds_toArray, List.set_cons_zero, List.set_cons_succ]
              iterate 3 (
                refine sch_takes_cons ?_
                first
                  | (refine sch_take (v := ?_) rfl (by assumption) (by rfl) ?_ ?_; rotate_left; (focus (intro wy hSy; (try dsimp only at hSy); go_simp; (try with_reducible rfl))))
                  | (refine sch_pass rfl (by assumption) (by rfl) ?_)
                simp only [Act.put, List.setIfInBounds_toArray, List.set_cons_zero, List.set_cons_succ])
              refine sch_takes_nil ?_
              refine sch_run rfl (fun K hK => ?_)
              go_simp
              refine (kh.out _ hkvg).mono ?_
              rintro e vh ⟨rfl, hkvh⟩
              have hHeld := HC.out _ hkvh
              try dsimp only
              refine hK.out _ _ (fun _ => hHeld) ?_
              clear hK K
              try simp only [Act.put, List.setIfInBounds_toArray, List.set_cons_zero, List.set_cons_succ]
              iterate 2 (
                refine sch_takes_cons ?_
                first
                  | (refine sch_take (v := ?_) rfl (by assumption) (by rfl) ?_ ?_; rotate_left; (focus (intro wy hSy; (try dsimp only at hSy); go_simp; (try with_reducible rfl))))
                  | (refine sch_pass rfl (by assumption) (by rfl) ?_)
                simp only [Act.put, List.setIfInBounds_toArray, List.set_cons_zero, List.set_cons_succ])
              refine sch_takes_nil ?_
              refine sch_done ?_
              refine NoPanic.normal ?_
              all_goals go_wp2_with fail
              all_goals try go_frame
              all_goals go_ret
              all_goals exact ⟨rfl, HB10.out.trans (hkvh.mono HB10.out.size)⟩
          · obtain rfl : ht = true := by rw [Bool.true_or] at hmem; exact hmem
            clear hmem
            obtain ⟨_, c0, c1, z0, z1, t0, t1⟩ := HC.out _ hk0
            obtain ⟨_, c0', c1', z0', z1', t0', t1'⟩ := HC.out _ hk1
            refine wp_region_noPanic ?_
            refine wp_region_sch (fun wx => Keep W10 wx ∧ wx.cell? ⟨g3, 0, none⟩ = some (.int .u64 (x.low : Int)) ∧ wx.cell? ⟨g3, 1, none⟩ = some (.slice x.A x.n x.c) ∧ wx.cell? ⟨g4, 0, none⟩ = some (.int .u64 (Z.low : Int)) ∧ wx.cell? ⟨g4, 1, none⟩ = some (.slice Z.A Z.n Z.c) ∧ wx.cell? ⟨w10.heap.size, 0, none⟩ = some (.int .u64 (T.low : Int)) ∧ wx.cell? ⟨w10.heap.size, 1, none⟩ = some (.slice T.A T.n T.c)) (fun i => [4, 9, 12, 16, 22, 24, 26, 27, 31].contains i)
              (.takes [0, 1, 2, 3] (.run 4 (.takes [5, 6, 7, 8, 10, 11] (.run 9 (.run 12 (.takes [13, 14, 15] (.run 16 (.takes [17, 18, 19, 20, 21, 23, 25] (.run 22 (.run 24 (.run 26 (.run 27 (.takes [28, 29, 30] (.run 31 (.takes [32, 33] .done))))))))))))))) (by kernel_rfl) (fun _ _ _ _ _ h => h) (by kernel_rfl) ?_
            have hHeld := HC.out _ hk0
            iterate 4 (
              refine sch_takes_cons ?_
              first
                | (refine sch_take (v := ?_) rfl (by assumption) (by rfl) ?_ ?_; rotate_left; (focus (intro wy hSy; (try dsimp only at hSy); go_simp; (try with_reducible rfl))))
                | (refine sch_pass rfl (by assumption) (by rfl) ?_)
              simp only [Act.put, List.setIfInBounds_toArray, List.set_cons_zero, List.set_cons_succ])
            refine sch_takes_nil ?_
            refine sch_run rfl (fun K hK => ?_)
            go_simp
            refine (kRT.out _ hk0).mono ?_
            rintro e va ⟨rfl, hkva⟩
            have hHeld := HC.out _ hkva
            try dsimp only
            refine hK.out _ _ (fun _ => hHeld) ?_
            clear hK K
            try simp only [Act.put, List.setIfInBounds_toArray, List.set_cons_zero, List.set_cons_succ]
            iterate 6 (
              refine sch_takes_cons ?_
              first
                | (refine sch_take (v := ?_) rfl (by assumption) (by rfl) ?_ ?_; rotate_left; (focus (intro wy hSy; (try dsimp only at hSy); go_simp; (try with_reducible rfl))))
                | (refine sch_pass rfl (by assumption) (by rfl) ?_)
              simp only [Act.put, List.setIfInBounds_toArray, List.set_cons_zero, List.set_cons_succ])
            refine sch_takes_nil ?_
            refine sch_run rfl (fun K hK => ?_)
            go_simp
            refine (kHT.out _ hkva).mono ?_
            rintro e vb ⟨rfl, hkvb⟩
            have hHeld := HC.out _ hkvb
            try dsimp only
            refine hK.out _ _ (fun _ => hHeld) ?_
            clear hK K
            try simp only [Act.put, List.setIfInBounds_toArray, List.set_cons_zero, List.set_cons_succ]
            refine sch_run rfl (fun K hK => ?_)
            go_simp
            refine (kHA.out _ hkvb).mono ?_
            rintro e vc ⟨rfl, hkvc⟩
            have hHeld := HC.out _ hkvc
            try dsimp only
            refine hK.out _ _ (fun _ => hHeld) ?_
            clear hK K
            try simp only [Act.put, List.setIfInBounds_toArray, List.set_cons_zero, List.set_cons_succ]
            iterate 3 (
              refine sch_takes_cons ?_
              first
                | (refine sch_take (v := ?_) rfl (by assumption) (by rfl) ?_ ?_; rotate_left; (focus (intro wy hSy; (try dsimp only at hSy); go_simp; (try with_reducible rfl))))
                | (refine sch_pass rfl (by assumption) (by rfl) ?_)
              simp only [Act.put, List.setIfInBounds_toArray, List.set_cons_zero, List.set_cons_succ])
            refine sch_takes_nil ?_
            refine sch_run rfl (fun K hK => ?_)
            go_simp
            refine hK.out _ _ (fun _ => hHeld) ?_
            clear hK K
            try simp only [Act.put, List.setIfInBounds_toArray, List.set_cons_zero, List.set_cons_succ]
            iterate 7 (
              refine sch_takes_cons ?_
              first
                | (refine sch_take (v := ?_) rfl (by assumption) (by rfl) ?_ ?_; rotate_left; (focus (intro wy hSy; (try dsimp only at hSy); go_simp; (try with_reducible rfl))))
                | (refine sch_pass rfl (by assumption) (by rfl) ?_)
              simp only [Act.put, List.setIfInBounds_toArray, List.set_cons_zero, List.set_cons_succ])
            refine sch_takes_nil ?_
            refine sch_run rfl (fun K hK => ?_)
            go_simp
            refine (kMT.out _ hkvc).mono ?_
            rintro e ve ⟨rfl, hkve⟩
            have hHeld := HC.out _ hkve
            try dsimp only
            refine hK.out _ _ (fun _ => hHeld) ?_
            clear hK K
            try simp only [Act.put, List.setIfInBounds_toArray, List.set_cons_zero, List.set_cons_succ]
            refine sch_run rfl (fun K hK => ?_)
            go_simp
            refine (kMA.out _ hkve).mono ?_
            rintro e vf ⟨rfl, hkvf⟩
            have hHeld := HC.out _ hkvf
            try dsimp only
            refine hK.out _ _ (fun _ => hHeld) ?_
            clear hK K
            try simp only [Act.put, List.setIfInBounds_toArray, List.set_cons_zero, List.set_cons_succ]
            refine sch_run rfl (fun K hK => ?_)
            go_simp
            refine (kMZ.out _ hkvf).mono ?_
            rintro e vg ⟨rfl, hkvg⟩
            have hHeld := HC.out _ hkvg
            try dsimp only
            refine hK.out _ _ (fun _ => hHeld) ?_
            clear hK K
            try simp only [Act.put, List.setIfInBounds_toArray, List.set_cons_zero, List.set_cons_succ]
            refine sch_run rfl (fun K hK => ?_)
            go_simp
            refine hK.out _ _ (fun _ => hHeld) ?_
            clear hK K
            try simp only [Act.put, List.setIfInBounds_toArray, List.set_cons_zero, List.set_cons_succ]
            iterate 3 (
              refine sch_takes_cons ?_
              first
                | (refine sch_take (v := ?_) rfl (by assumption) (by rfl) ?_ ?_; rotate_left; (focus (intro wy hSy; (try dsimp only at hSy); go_simp; (try with_reducible rfl))))
                | (refine sch_pass rfl (by assumption) (by rfl) ?_)
              simp only [Act.put, List.setIfInBounds_toArray, List.set_cons_zero, List.set_cons_succ])
            refine sch_takes_nil ?_
            refine sch_run rfl (fun K hK => ?_)
            go_simp
            refine (kh.out _ hkvg).mono ?_
            rintro e vh ⟨rfl, hkvh⟩
            have hHeld := HC.out _ hkvh
            try dsimp only
            refine hK.out _ _ (fun _ => hHeld) ?_
            clear hK K
            try simp only [Act.put, List.setIfInBounds_toArray, List.set_cons_zero, List.set_cons_succ]
            iterate 2 (
              refine sch_takes_cons ?_
              first
                | (refine sch_take (v := ?_) rfl (by assumption) (by rfl) ?_ ?_; rotate_left; (focus (intro wy hSy; (try dsimp only at hSy); go_simp; (try with_reducible rfl))))
                | (refine sch_pass rfl (by assumption) (by rfl) ?_)
              simp only [Act.put, List.setIfInBounds_toArray, List.set_cons_zero, List.set_cons_succ])
            refine sch_takes_nil ?_
            refine sch_done ?_
            refine NoPanic.normal ?_
            all_goals go_wp2_with fail
            all_goals try go_frame
            all_goals go_ret
            all_goals exact ⟨rfl, HB10.out.trans (hkvh.mono HB10.out.size)⟩

end

end Go.Proofs.Ytkcjhkhdpafjhaa
