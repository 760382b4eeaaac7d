/-
  The walk over the statement RecordLacks.
-/
import Derived.Test.YtlhcacancnmhcaaDoorRecCut
namespace Go.Proofs.YtlhcacancnmhcaaDoor
open Go.RowKit

set_option maxRecDepth 100000 in
set_option maxHeartbeats 1000000 in
theorem lacks_great (A : Option Addr) (l : List Rec) (c cut : Nat) (bad beh : List UInt8) (w : World) (hT : Tab w) (h : Recs w A l) (hg : ¬ Tiny l ∨ 300 < bad.length ∨ 300 < beh.length) :
    Calls Tryd.prog 5 #[.agg #[.slice A l.length c, .int .u16 (cut : Int), .string (tb bad), .string (tb beh)]] w fun e w' => e = .returned (.bool true) ∧ Below w.heap.size w w' := by
  have HG := Lib.hid (fun wx (hbx : Below w.heap.size w wx) => show Calls Tryd.prog 8 #[.slice A l.length c] wx fun e w' => e = .returned (.bool (!decide (Tiny l))) ∧ Below w.heap.size w w' from (great_any A l c wx (h.keeps hbx)).mono fun _ _ ⟨h1, h2⟩ => ⟨h1, hbx.trans (h2.mono hbx.size)⟩)
  have HH := Lib.hid (fun wx (hbx : Below w.heap.size w wx) => show Calls Tryd.prog 9 #[] wx fun e w' => e = .returned (.bool true) ∧ Below w.heap.size w w' from (head_any wx (hT.keeps hbx)).mono fun _ _ ⟨h1, h2⟩ => ⟨h1, hbx.trans (h2.mono hbx.size)⟩)
  have HB0 := Lib.hid (show ∀ n, Below w.heap.size w ((w.alloc (.cells #[.slice A l.length c, .int .u16 (cut : Int), .string (tb bad), .string (tb beh)] 42)).drewN n) from fun n => below_draw ((Below.refl _ _).alloc (Nat.le_refl _) _) n)
  have z1 : (tb bad).size = bad.length := tb_size _
  have z2 : (tb beh).size = beh.length := tb_size _
  generalize tb bad = sb at *
  generalize tb beh = sh at *
  clear hT h
  by_cases hl : Tiny l
  · rw [decide_eq_true hl] at HG
    by_cases h3 : 300 < bad.length
    · have h4 : (300 : Int) < (bad.length : Int) := by omega
      clear hg hl h3
      go_enter Tryd.func5, Tryd.ntmps5
      go_wp2_with (go_quiet (fail))
      refine (HG.out _ (HB0.out _)).mono ?_
      rintro e w1 ⟨rfl, hb1⟩
      have HB1 := Lib.hid hb1
      clear hb1
      go_wp2_with fail
      refine (HH.out w1 HB1.out).mono ?_
      rintro e wz ⟨rfl, hbz⟩
      have HBZ := Lib.hid hbz
      clear hbz
      go_wp2
      go_ret
      exact ⟨rfl, HBZ.out⟩
    · have h4 : ¬ (300 : Int) < (bad.length : Int) := by omega
      have h5 : (300 : Int) < (beh.length : Int) := by
        have := (hg.resolve_left (fun x => x hl)).resolve_left h3
        omega
      clear hg hl h3
      go_enter Tryd.func5, Tryd.ntmps5
      go_wp2_with (go_quiet (fail))
      refine (HG.out _ (HB0.out _)).mono ?_
      rintro e w1 ⟨rfl, hb1⟩
      have HB1 := Lib.hid hb1
      clear hb1
      go_wp2_with fail
      refine (HH.out w1 HB1.out).mono ?_
      rintro e wz ⟨rfl, hbz⟩
      have HBZ := Lib.hid hbz
      clear hbz
      go_wp2
      go_ret
      exact ⟨rfl, HBZ.out⟩
  · rw [decide_eq_false hl] at HG
    clear hg hl
    go_enter Tryd.func5, Tryd.ntmps5
    go_wp2_with (go_quiet (fail))
    refine (HG.out _ (HB0.out _)).mono ?_
    rintro e w1 ⟨rfl, hb1⟩
    have HB1 := Lib.hid hb1
    clear hb1
    go_wp2_with fail
    refine (HH.out w1 HB1.out).mono ?_
    rintro e wz ⟨rfl, hbz⟩
    have HBZ := Lib.hid hbz
    clear hbz
    go_wp2
    go_ret
    exact ⟨rfl, HBZ.out⟩

/-- What is told of a text that is cut off. -/
theorem cut_told (l : List Rec) (hf : Fit l) (k : Nat) (hk : k ≤ (allR l).length) : ∃ j n x, scan ((allR l).take k) = (l.take j, n, x) ∧ j ≤ l.length ∧ n ≤ k ∧ ((x = 0 ∧ n = k) ∨ (x = 1 ∧ n ≠ k)) := by
  obtain ⟨j, hj, h1, h2⟩ := scan_cut l hf k hk
  obtain ⟨h3, h4, h5, _⟩ := scan_takes _ ((allR l).take k) (Nat.le_refl _)
  have hl : ((allR l).take k).length = k := by rw [List.length_take]; omega
  rw [hl] at h3 h4
  generalize scan ((allR l).take k) = SC at *
  obtain ⟨L, n, x⟩ := SC
  simp only at h1 h2 h3 h4 h5
  refine ⟨j, n, x, by rw [h1], hj, h3, ?_⟩
  by_cases h0 : x = 0
  · exact .inl ⟨h0, h4.1 h0⟩
  · exact .inr ⟨by omega, fun e => h0 (h4.2 e)⟩
theorem whole_told (l : List Rec) (hf : Fit l) : scan (allR l) = (l, (allR l).length, 0) := by
  have := scan_all l hf []
  rw [List.append_nil, scan_nil] at this
  simpa using this

set_option maxRecDepth 100000 in
set_option maxHeartbeats 1000000 in
theorem lacks_small (A : Option Addr) (l : List Rec) (c cut : Nat) (bad beh : List UInt8) (w : World) (hT : Tab w) (h : Recs w A l) (hlc : l.length ≤ c) (hcut : cut < 65536) (hl : Tiny l) (hbad : bad.length ≤ 300) (hbeh : beh.length ≤ 300) :
    Calls Tryd.prog 5 #[.agg #[.slice A l.length c, .int .u16 (cut : Int), .string (tb bad), .string (tb beh)]] w fun e w' => e = .returned (.bool true) ∧ Below w.heap.size w w' := by
  have HG := Lib.hid (fun wx (hbx : Below w.heap.size w wx) => show Calls Tryd.prog 8 #[.slice A l.length c] wx fun e w' => e = .returned (.bool (!decide (Tiny l))) ∧ Below w.heap.size w w' from (great_any A l c wx (h.keeps hbx)).mono fun _ _ ⟨h1, h2⟩ => ⟨h1, hbx.trans (h2.mono hbx.size)⟩)
  rw [decide_eq_true hl] at HG
  have HH := Lib.hid (fun wx (hbx : Below w.heap.size w wx) => show Calls Tryd.prog 9 #[] wx fun e w' => e = .returned (.bool true) ∧ Below w.heap.size w w' from (head_any wx (hT.keeps hbx)).mono fun _ _ ⟨h1, h2⟩ => ⟨h1, hbx.trans (h2.mono hbx.size)⟩)
  have HB0 := Lib.hid (show ∀ n, Below w.heap.size w ((w.alloc (.cells #[.slice A l.length c, .int .u16 (cut : Int), .string (tb bad), .string (tb beh)] 42)).drewN n) from fun n => below_draw ((Below.refl _ _).alloc (Nat.le_refl _) _) n)
  have z1 : (tb bad).size = bad.length := tb_size _
  have z2 : (tb beh).size = beh.length := tb_size _
  have h4 : ¬ (300 : Int) < (bad.length : Int) := by omega
  have h5 : ¬ (300 : Int) < (beh.length : Int) := by omega
  have hll := hl.le
  have hl12 := hl.1
  have HT := Lib.hid hT
  have HA := Lib.hid h
  have HP := Lib.hid (fun wx (hbx : Below w.heap.size w wx) => show Calls Tryd.prog 10 #[.slice A l.length c] wx fun e w' => e = .returned (.tuple #[.string (tb (allR l)), .int .i64 0]) ∧ Below w.heap.size w w' from (put_tiny A l c wx (hT.keeps hbx) (h.keeps hbx) hl.small (by omega)).mono fun _ _ ⟨h1, h2⟩ => ⟨h1, hbx.trans (h2.mono hbx.size)⟩)
  have zS : (tb (allR l)).size = (allR l).length := tb_size _
  obtain ⟨S, hS⟩ : ∃ S, (allR l).length = S := ⟨_, rfl⟩
  have hScan := fun (b : List UInt8) (hb : b.length ≤ 1000000) => (show ∀ wx, Below w.heap.size w wx → Calls Tryd.prog 12 #[.string (tb b)] wx fun e w' => ∃ A c, e = .returned (.tuple #[.slice A (scan b).1.length c, .int .i64 ((scan b).2.1 : Int), .int .u8 ((scan b).2.2 : Int)]) ∧ Recs w' A (scan b).1 ∧ Below w.heap.size w w' ∧ Below wx.heap.size wx w' from fun wx hbx =>
    (scan_any b wx (hT.keeps hbx) hb).mono fun e w' ⟨A, c, h1, _, _, h4, h5⟩ => ⟨A, c, h1, h4, hbx.trans (h5.mono hbx.size), h5⟩)
  obtain ⟨k, hk⟩ : ∃ k, cut % (S + 1) = k := ⟨_, rfl⟩
  have hkS : k ≤ S := by have := Nat.mod_lt cut (show 0 < S + 1 by omega); omega
  obtain ⟨j, n, x, hsc, hj, hnk, hx⟩ := cut_told l hl.small.fit k (by omega)
  have HS1 := Lib.hid (hScan ((allR l).take k) (by rw [List.length_take]; omega))
  rw [hsc] at HS1
  simp only at HS1
  have hjl : (l.take j).length = j := by rw [List.length_take]; omega
  rw [hjl] at HS1
  have HS2 := Lib.hid (hScan (allR l) (by omega))
  rw [whole_told l hl.small.fit, hS] at HS2
  simp only at HS2
  have HS3 := Lib.hid (hScan bad (by omega))
  have HS4 := Lib.hid (hScan (bad ++ beh) (by rw [List.length_append]; omega))
  have hX1 : (tb (allR l)).extract 0 k = tb ((allR l).take k) := by rw [tb_cut, List.drop_zero]
  have hX2 : (tb (allR l)).extract k S = tb ((allR l).drop k) := by rw [tb_cut, List.take_of_length_le (by omega)]
  have hX3 : tb ((allR l).take k) ++ tb ((allR l).drop k) = tb (allR l) := by rw [tb_app, List.take_append_drop]
  have z3 : (tb ((allR l).take k)).size = k := by rw [tb_size, List.length_take]; omega
  have z4 : (tb ((allR l).drop k)).size = S - k := by rw [tb_size, List.length_drop]; omega
  have hX4 := tb_app bad beh
  have hmod : (cut : Int) % ((S : Int) + 1) = (k : Int) := by rw [← hk]; simp
  have wS : IntKind.i64.wrap ((S : Int) + 1) = (S : Int) + 1 := IntWalk.i64_in _ (by omega)
  have wk : IntKind.i64.wrap (k : Int) = (k : Int) := IntWalk.i64_in _ (by omega)
  have wc : IntKind.i64.wrap (cut : Int) = (cut : Int) := IntWalk.i64_in _ (by omega)
  have hne : ¬ (S : Int) + 1 = 0 := by omega
  have hkI : (k : Int) ≤ (S : Int) := by omega
  have q1 : ¬ 9223372036854775807 < S := by omega
  have q2 : ¬ 9223372036854775807 < bad.length + beh.length := by omega
  obtain ⟨hmore1, hmore2⟩ := scan_more _ bad (Nat.le_refl _) beh
  have hLB := scan_len bad
  have hLC := scan_len (bad ++ beh)
  rw [List.length_append] at hLC
  obtain ⟨hn1, -, hxB, -⟩ := scan_takes _ bad (Nat.le_refl _)
  obtain ⟨hn2, -, hxC, -⟩ := scan_takes _ (bad ++ beh) (Nat.le_refl _)
  rw [List.length_append] at hn2
  generalize scan bad = SB at *
  generalize scan (bad ++ beh) = SC at *
  obtain ⟨LB, nB, xB⟩ := SB
  obtain ⟨LC, nC, xC⟩ := SC
  simp only at hmore1 hmore2 hLB hLC hn1 hn2 hxB hxC HS3 HS4
  rw [hS] at zS
  have HLT := Lib.hid (show ∀ wx, Recs wx A l → Recs wx A (l.take j) from fun wx hr => hr.take j)
  have hjI : ¬ (l.length : Int) < (j : Int) := by omega
  have hnI : ¬ (k : Int) < (n : Int) := by omega
  have hjc : (j : Int) ≤ (c : Int) := by omega
  have HJL := Lib.hid hjl
  generalize hlj : l.take j = LJ at *
  generalize tb ((allR l).take k) = X1 at *
  generalize tb ((allR l).drop k) = X2 at *
  generalize tb (allR l) = X at *
  generalize tb (bad ++ beh) = X4 at *
  generalize tb bad = sb at *
  generalize tb beh = sh at *
  clear hT h hl hsc hk hS hScan hcut hlj
  have hup := rec_upto A l.length c j (by omega)
  go_enter Tryd.func5, Tryd.ntmps5
  go_wp2_with (go_quiet (fail))
  refine (HG.out _ (HB0.out _)).mono ?_
  rintro e w1 ⟨rfl, hb1⟩
  have HB1 := Lib.hid hb1
  clear hb1 HG HB0
  go_wp2_with fail
  refine (HP.out w1 HB1.out).mono ?_
  rintro e w2 ⟨rfl, hb2⟩
  have HB2 := Lib.hid hb2
  clear hb2 HP
  go_wp2_with fail
  refine (HS1.out w2 HB2.out).mono ?_
  rintro e w3 ⟨A3, c3, rfl, hr3, hb3, _⟩
  have HB3 := Lib.hid hb3
  have HR3 := Lib.hid hr3
  clear hb3 hr3 HS1
  have HE1 := Lib.hid (fun wx (hbx : Below w3.heap.size w3 wx) => show Calls Tryd.prog 14 #[.slice A3 j c3, .slice A j c] wx fun e w' => e = .returned (.bool true) ∧ Below w.heap.size w w' from by
    have hbw : Below w.heap.size w wx := HB3.out.trans (hbx.mono HB3.out.size)
    have := rsame_any A3 A LJ LJ c3 c wx (HR3.out.keeps hbx) (HLT.out wx (HA.out.keeps hbw)) (by rw [HJL.out]; omega)
    rw [decide_eq_true rfl, HJL.out] at this
    exact this.mono fun _ _ ⟨h1, h2⟩ => ⟨h1, hbw.trans (h2.mono hbw.size)⟩)
  have HE2 := Lib.hid (fun wx A5 c5 (hbw : Below w.heap.size w wx) (hr : Recs wx A5 l) => show Calls Tryd.prog 14 #[.slice A5 l.length c5, .slice A l.length c] wx fun e w' => e = .returned (.bool true) ∧ Below w.heap.size w w' from by
    have := rsame_any A5 A l l c5 c wx hr (HA.out.keeps hbw) (by omega)
    rw [decide_eq_true rfl] at this
    exact this.mono fun _ _ ⟨h1, h2⟩ => ⟨h1, hbw.trans (h2.mono hbw.size)⟩)
  have HE3 := Lib.hid (fun wx A8 c8 A9 c9 (hbw : Below w.heap.size w wx) (hr : Recs wx A8 LB) (hr2 : Recs wx A9 LB) => show Calls Tryd.prog 14 #[.slice A8 LB.length c8, .slice A9 LB.length c9] wx fun e w' => e = .returned (.bool true) ∧ Below w.heap.size w w' from by
    have := rsame_any A8 A9 LB LB c8 c9 wx hr hr2 (by omega)
    rw [decide_eq_true rfl] at this
    exact this.mono fun _ _ ⟨h1, h2⟩ => ⟨h1, hbw.trans (h2.mono hbw.size)⟩)
  have hb0 : Below w3.heap.size w3 w3 := Below.refl _ _
  rcases hx with ⟨rfl, rfl⟩ | ⟨rfl, hnk2⟩
  · go_wp2_with fail
    refine (HE1.out _ hb0).mono ?_
    rintro e w4 ⟨rfl, hb4⟩
    have HB4 := Lib.hid hb4
    clear hb4 HE1 hb0 HR3 HLT
    go_wp2_with fail
    refine wp_region_noPanic ?_
    refine wp_region_sch (fun _ => True) (fun i => [7].contains i)
      (.takes [0, 1, 2, 3, 4, 5, 6] (.run 7 (.takes [8, 9, 10, 11, 12, 13, 14] .done))) (by kernel_rfl) (fun _ _ _ _ _ h => h) (by kernel_rfl) ?_
    have hHeld : True := True.intro
    have hb4d := HB4.out.drew
    iterate 7 (
      refine sch_takes_cons ?_
      first
        | (refine sch_take (v := ?_) rfl (by assumption) (by rfl) ?_ ?_; rotate_left; (focus (intro wy hSy; (try dsimp only at hSy); go_simp; (try with_reducible rfl))))
        | (refine sch_pass rfl (by assumption) (by rfl) ?_)
      simp only [Act.put, List.setIfInBounds_toArray, List.set_cons_zero, List.set_cons_succ])
    refine sch_takes_nil ?_
    refine sch_run rfl (fun K hK => ?_)
    go_simp
    with_reducible refine (HS2.out _ hb4d).mono ?_
    rintro e w5 ⟨A5, c5, rfl, hr5, hb5, _⟩
    try dsimp only
    refine hK.out _ _ (fun _ => hHeld) ?_
    clear hK K
    try simp only [Act.put, List.setIfInBounds_toArray, List.set_cons_zero, List.set_cons_succ]
    iterate 7 (
      refine sch_takes_cons ?_
      first
        | (refine sch_take (v := ?_) rfl (by assumption) (by rfl) ?_ ?_; rotate_left; (focus (intro wy hSy; (try dsimp only at hSy); go_simp; (try with_reducible rfl))))
        | (refine sch_pass rfl (by assumption) (by rfl) ?_)
      simp only [Act.put, List.setIfInBounds_toArray, List.set_cons_zero, List.set_cons_succ])
    refine sch_takes_nil ?_
    refine sch_done ?_
    refine NoPanic.normal ?_
    have HB5 := Lib.hid hb5
    have HR5 := Lib.hid hr5
    clear hb5 hr5 HS2 hHeld hb4d
    go_wp2_with fail
    refine (HE2.out w5 A5 c5 HB5.out HR5.out).mono ?_
    rintro e w6 ⟨rfl, hb6⟩
    have HB6 := Lib.hid hb6
    clear hb6 HE2 HR5
    go_wp2_with fail
    refine (HS3.out w6 HB6.out).mono ?_
    rintro e w7 ⟨A7, c7, rfl, hr7, hb7, _⟩
    have HB7 := Lib.hid hb7
    have HR7 := Lib.hid hr7
    clear hb7 hr7 HS3
    go_wp2_with fail
    refine (HS4.out w7 HB7.out).mono ?_
    rintro e w8 ⟨A8, c8, rfl, hr8, hb8, hm8⟩
    have HB8 := Lib.hid hb8
    have HR8 := Lib.hid hr8
    have HR7' := Lib.hid (HR7.out.keeps hm8)
    clear hb8 hr8 hm8 HS4 HR7
    by_cases hx2 : xB = 2
    · subst hx2
      have he := hmore2 rfl
      simp only [Prod.mk.injEq] at he
      obtain ⟨rfl, rfl, rfl⟩ := he
      clear hmore1 hmore2
      go_wp2_with fail
      refine (HE3.out w8 A7 c7 A8 c8 HB8.out HR7'.out HR8.out).mono ?_
      rintro e w9 ⟨rfl, hb9⟩
      have HB9 := Lib.hid hb9
      clear hb9
      go_wp2_with fail
      refine (HH.out w9 HB9.out).mono ?_
      rintro e wz ⟨rfl, hbz⟩
      have HBZ := Lib.hid hbz
      clear hbz
      go_wp2
      go_ret
      exact ⟨rfl, HBZ.out⟩
    · obtain ⟨mm, hmm⟩ := hmore1
      have hge : (LB.length : Int) ≤ (LC.length : Int) := by rw [hmm, List.length_append]; omega
      have hx2I : ¬ (xB : Int) = 2 := by omega
      have hx2J : ((xB : Int) == 2) = false := beq_eq_false_iff_ne.2 hx2I
      clear hmore2 hx2 hmm
      go_wp2_with fail
      refine (HH.out w8 HB8.out).mono ?_
      rintro e wz ⟨rfl, hbz⟩
      have HBZ := Lib.hid hbz
      clear hbz
      go_wp2
      go_ret
      exact ⟨rfl, HBZ.out⟩
  · have hnkI : ¬ (n : Int) = (k : Int) := by omega
    have hnkB : ((n : Int) == (k : Int)) = false := beq_eq_false_iff_ne.2 hnkI
    go_wp2_with fail
    refine (HE1.out _ hb0).mono ?_
    rintro e w4 ⟨rfl, hb4⟩
    have HB4 := Lib.hid hb4
    clear hb4 HE1 hb0 HR3 HLT
    go_wp2_with fail
    refine wp_region_noPanic ?_
    refine wp_region_sch (fun _ => True) (fun i => [7].contains i)
      (.takes [0, 1, 2, 3, 4, 5, 6] (.run 7 (.takes [8, 9, 10, 11, 12, 13, 14] .done))) (by kernel_rfl) (fun _ _ _ _ _ h => h) (by kernel_rfl) ?_
    have hHeld : True := True.intro
    have hb4d := HB4.out.drew
    iterate 7 (
      refine sch_takes_cons ?_
      first
        | (refine sch_take (v := ?_) rfl (by assumption) (by rfl) ?_ ?_; rotate_left; (focus (intro wy hSy; (try dsimp only at hSy); go_simp; (try with_reducible rfl))))
        | (refine sch_pass rfl (by assumption) (by rfl) ?_)
      simp only [Act.put, List.setIfInBounds_toArray, List.set_cons_zero, List.set_cons_succ])
    refine sch_takes_nil ?_
    refine sch_run rfl (fun K hK => ?_)
    go_simp
    with_reducible refine (HS2.out _ hb4d).mono ?_
    rintro e w5 ⟨A5, c5, rfl, hr5, hb5, _⟩
    try dsimp only
    refine hK.out _ _ (fun _ => hHeld) ?_
    clear hK K
    try simp only [Act.put, List.setIfInBounds_toArray, List.set_cons_zero, List.set_cons_succ]
    iterate 7 (
      refine sch_takes_cons ?_
      first
        | (refine sch_take (v := ?_) rfl (by assumption) (by rfl) ?_ ?_; rotate_left; (focus (intro wy hSy; (try dsimp only at hSy); go_simp; (try with_reducible rfl))))
        | (refine sch_pass rfl (by assumption) (by rfl) ?_)
      simp only [Act.put, List.setIfInBounds_toArray, List.set_cons_zero, List.set_cons_succ])
    refine sch_takes_nil ?_
    refine sch_done ?_
    refine NoPanic.normal ?_
    have HB5 := Lib.hid hb5
    have HR5 := Lib.hid hr5
    clear hb5 hr5 HS2 hHeld hb4d
    go_wp2_with fail
    refine (HE2.out w5 A5 c5 HB5.out HR5.out).mono ?_
    rintro e w6 ⟨rfl, hb6⟩
    have HB6 := Lib.hid hb6
    clear hb6 HE2 HR5
    go_wp2_with fail
    refine (HS3.out w6 HB6.out).mono ?_
    rintro e w7 ⟨A7, c7, rfl, hr7, hb7, _⟩
    have HB7 := Lib.hid hb7
    have HR7 := Lib.hid hr7
    clear hb7 hr7 HS3
    go_wp2_with fail
    refine (HS4.out w7 HB7.out).mono ?_
    rintro e w8 ⟨A8, c8, rfl, hr8, hb8, hm8⟩
    have HB8 := Lib.hid hb8
    have HR8 := Lib.hid hr8
    have HR7' := Lib.hid (HR7.out.keeps hm8)
    clear hb8 hr8 hm8 HS4 HR7
    by_cases hx2 : xB = 2
    · subst hx2
      have he := hmore2 rfl
      simp only [Prod.mk.injEq] at he
      obtain ⟨rfl, rfl, rfl⟩ := he
      clear hmore1 hmore2
      go_wp2_with fail
      refine (HE3.out w8 A7 c7 A8 c8 HB8.out HR7'.out HR8.out).mono ?_
      rintro e w9 ⟨rfl, hb9⟩
      have HB9 := Lib.hid hb9
      clear hb9
      go_wp2_with fail
      refine (HH.out w9 HB9.out).mono ?_
      rintro e wz ⟨rfl, hbz⟩
      have HBZ := Lib.hid hbz
      clear hbz
      go_wp2
      go_ret
      exact ⟨rfl, HBZ.out⟩
    · obtain ⟨mm, hmm⟩ := hmore1
      have hge : (LB.length : Int) ≤ (LC.length : Int) := by rw [hmm, List.length_append]; omega
      have hx2I : ¬ (xB : Int) = 2 := by omega
      have hx2J : ((xB : Int) == 2) = false := beq_eq_false_iff_ne.2 hx2I
      clear hmore2 hx2 hmm
      go_wp2_with fail
      refine (HH.out w8 HB8.out).mono ?_
      rintro e wz ⟨rfl, hbz⟩
      have HBZ := Lib.hid hbz
      clear hbz
      go_wp2
      go_ret
      exact ⟨rfl, HBZ.out⟩
end Go.Proofs.YtlhcacancnmhcaaDoor
