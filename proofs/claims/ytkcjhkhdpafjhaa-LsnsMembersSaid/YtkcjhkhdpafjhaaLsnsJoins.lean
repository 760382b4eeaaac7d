/-
  The walk of the statement LsnsJoins, over what package lsns is held to.
-/
import Derived.Test.YtkcjhkhdpafjhaaLsnsRaises
import Derived.Deep.DeepCutAuto
namespace Go.Proofs.Ytkcjhkhdpafjhaa
open Go.RowKit

theorem join_comm {s t : LS} (hs : s.right = true) (ht : t.right = true) (hl : s.low = t.low) : s.joinS t = t.joinS s := by
  obtain ⟨a1, m1⟩ := LS.join_asc hs ht hl
  obtain ⟨a2, m2⟩ := LS.join_asc ht hs hl.symm
  exact LS.ext' hl (asc_ext a1 a2 fun x => by rw [m1, m2, or_comm])
theorem joinE_comm {s t : LS} (hs : s.right = true) (ht : t.right = true) (hl : s.low = t.low) : s.joinE t = t.joinE s := by
  unfold LS.joinE
  rw [hs, ht, join_comm hs ht hl, if_pos hl, if_pos hl.symm]
theorem join_self {s : LS} (hs : s.right = true) : s.joinS s = s := by
  obtain ⟨a1, m1⟩ := LS.join_asc hs hs rfl
  exact LS.ext' rfl (asc_ext a1 ((LS.right_iff s).1 hs).2 fun x => by rw [m1, or_self])
theorem joinE_self {s : LS} (hs : s.right = true) : s.joinE s = 0 := by
  unfold LS.joinE
  rw [hs, join_self hs]
  simp [LS.right_len hs]
theorem join_assoc {a b c : LS} (h1 : a.joinE b = 0) (h2 : b.joinE c = 0) : (a.joinS b).joinS c = a.joinS (b.joinS c) ∧ (a.joinS b).joinE c = a.joinE (b.joinS c) := by
  obtain ⟨ra, rb, lab, rab⟩ := LS.join_right h1
  obtain ⟨_, rc, lbc, rbc⟩ := LS.join_right h2
  obtain ⟨_, mab⟩ := LS.join_asc ra rb lab
  obtain ⟨_, mbc⟩ := LS.join_asc rb rc lbc
  have l1 : (a.joinS b).low = c.low := by show a.low = _; rw [lab, lbc]
  have l2 : a.low = (b.joinS c).low := by show a.low = b.low; exact lab
  obtain ⟨a1, m1⟩ := LS.join_asc rab rc l1
  obtain ⟨a2, m2⟩ := LS.join_asc ra rbc l2
  have e : (a.joinS b).joinS c = a.joinS (b.joinS c) := LS.ext' rfl (asc_ext a1 a2 fun x => by rw [m1, m2, mab, mbc, or_assoc])
  refine ⟨e, ?_⟩
  show (if (a.joinS b).right && c.right then _ else _) = if a.right && (b.joinS c).right then _ else _
  rw [rab, rc, ra, rbc, if_pos l1, if_pos l2, e]

/-- A set with another low number. -/
def LV.with (x : LV) (low : Nat) : LV := { x with low := low }

section
variable (J : LsnsJ)
include J in
theorem join_ok (x y : LV) (w : World) (h : x.In w) (h2 : y.In w) (hn : x.n ≤ 1100) (hn2 : y.n ≤ 1100) :
    Calls Try.prog 25 #[.agg #[.int .u64 (x.low : Int), .slice x.A x.n x.c], .agg #[.int .u64 (y.low : Int), .slice y.A y.n y.c]] w (GotS w ((x.s.joinS y.s).orZ (x.s.joinE y.s)) (x.s.joinE y.s)) :=
  (J.join x y w h h2 hn hn2).mono fun _ _ hg => hg.small (LS.joinZ_right _ _)

variable (S : LsnsC)
include S J

set_option maxRecDepth 100000 in
set_option maxHeartbeats 8000000 in
theorem joins_any (x y z : LV) (w : World) (hx : x.In w) (hy : y.In w) (hz : z.In w) (hn : x.n ≤ 9223372036854775807) (hn2 : y.n ≤ 9223372036854775807) (hn3 : z.n ≤ 9223372036854775807) :
    Calls Try.prog 9 #[.agg #[.int .u64 (x.low : Int), .slice x.A x.n x.c], .agg #[.int .u64 (y.low : Int), .slice y.A y.n y.c], .agg #[.int .u64 (z.low : Int), .slice z.A z.n z.c]] w fun r w' => r = .returned (.bool true) ∧ Below w.heap.size w w' := by
  have HH := Lib.hid (fun w => head_any S w)
  have HG1 := Lib.hid (fun w => great_any x w hn)
  have HG2 := Lib.hid (fun w => great_any (y.with x.low) w hn2)
  have HG3 := Lib.hid (fun w => great_any (z.with x.low) w hn3)
  have HX := Lib.hid hx
  have HYI := Lib.hid (show ∀ wx, Below w.heap.size w wx → (y.with x.low).In wx from fun wx hb => ⟨hy.len, hy.cap, hy.nil, hx.low, hy.ins, hy.reads.keeps hb⟩)
  have HZI := Lib.hid (show ∀ wx, Below w.heap.size w wx → (z.with x.low).In wx from fun wx hb => ⟨hz.len, hz.cap, hz.nil, hx.low, hz.ins, hz.reads.keeps hb⟩)
  have hb3 : Below w.heap.size w (((w.alloc (.cells #[.int .u64 (x.low : Int), .slice x.A x.n x.c] 25)).alloc (.cells #[.int .u64 (y.low : Int), .slice y.A y.n y.c] 25)).alloc (.cells #[.int .u64 (z.low : Int), .slice z.A z.n z.c] 25)) :=
    ((below_new w _).alloc (by rw [size_new]; omega) _).alloc (by rw [size_new, size_new]; omega) _
  have HB0 := Lib.hid hb3
  have l1 := Row.alloc (Row.alloc (LiesS.new w x.low x.A x.n x.c) (.cells #[.int .u64 (y.low : Int), .slice y.A y.n y.c] 25)) (.cells #[.int .u64 (z.low : Int), .slice z.A z.n z.c] 25)
  have l2 := Row.alloc (LiesS.new (w.alloc (.cells #[.int .u64 (x.low : Int), .slice x.A x.n x.c] 25)) y.low y.A y.n y.c) (.cells #[.int .u64 (z.low : Int), .slice z.A z.n z.c] 25)
  have l3 := LiesS.new ((w.alloc (.cells #[.int .u64 (x.low : Int), .slice x.A x.n x.c] 25)).alloc (.cells #[.int .u64 (y.low : Int), .slice y.A y.n y.c] 25)) z.low z.A z.n z.c
  rw [size_new] at l2
  rw [size_new, size_new] at l3
  have L1 := Lib.hid l1
  have L2 := Lib.hid l2
  have L3 := Lib.hid l3
  clear l1 l2 l3 hb3 hy hz
  obtain ⟨W, hW⟩ : ∃ W, ((w.alloc (.cells #[.int .u64 (x.low : Int), .slice x.A x.n x.c] 25)).alloc (.cells #[.int .u64 (y.low : Int), .slice y.A y.n y.c] 25)).alloc (.cells #[.int .u64 (z.low : Int), .slice z.A z.n z.c] 25) = W := ⟨_, rfl⟩
  rw [hW] at HB0 L1 L2 L3
  have hxl := hx.low
  clear hx
  go_enter Try.func9, Try.ntmps9
  go_upto_region 1 with fail
  clear hW
  try go_frame
  go_cut [16] (fun s wx => s = .pointer (some ⟨w.heap.size, 0, none⟩) ∧ LiesS wx w.heap.size x.low x.A x.n x.c ∧ LiesS wx (w.heap.size + 1) x.low y.A y.n y.c ∧ LiesS wx (w.heap.size + 1 + 1) x.low z.A z.n z.c ∧ Below w.heap.size w wx)
  case first =>
    have c0 := LiesS.c0 L1.out
    have d0 := LiesS.c0 L2.out
    have e0 := LiesS.c0 L3.out
    have fd := Row.loose L2.out 0
    have fe := Row.loose L3.out 0
    go_region
    all_goals go_wp2_with fail
    all_goals go_meet
    all_goals
      refine ⟨rfl, ?_, ?_, ?_, ?_⟩
      · exact Row.far (Row.far (Row.drew L1.out) (by first | (show w.heap.size ≠ w.heap.size + 1; omega) | (show w.heap.size ≠ w.heap.size + 1 + 1; omega) | (show w.heap.size + 1 ≠ w.heap.size + 1 + 1; omega) | (show w.heap.size + 1 + 1 ≠ w.heap.size + 1; omega)) _) (by first | (show w.heap.size ≠ w.heap.size + 1; omega) | (show w.heap.size ≠ w.heap.size + 1 + 1; omega) | (show w.heap.size + 1 ≠ w.heap.size + 1 + 1; omega) | (show w.heap.size + 1 + 1 ≠ w.heap.size + 1; omega)) _
      · first
          | exact Row.far (Row.put (Row.drew L2.out) 0 _) (by first | (show w.heap.size ≠ w.heap.size + 1; omega) | (show w.heap.size ≠ w.heap.size + 1 + 1; omega) | (show w.heap.size + 1 ≠ w.heap.size + 1 + 1; omega) | (show w.heap.size + 1 + 1 ≠ w.heap.size + 1; omega)) _
          | exact Row.put (Row.far (Row.drew L2.out) (by first | (show w.heap.size ≠ w.heap.size + 1; omega) | (show w.heap.size ≠ w.heap.size + 1 + 1; omega) | (show w.heap.size + 1 ≠ w.heap.size + 1 + 1; omega) | (show w.heap.size + 1 + 1 ≠ w.heap.size + 1; omega)) _) 0 _
      · first
          | exact Row.far (Row.put (Row.drew L3.out) 0 _) (by first | (show w.heap.size ≠ w.heap.size + 1; omega) | (show w.heap.size ≠ w.heap.size + 1 + 1; omega) | (show w.heap.size + 1 ≠ w.heap.size + 1 + 1; omega) | (show w.heap.size + 1 + 1 ≠ w.heap.size + 1; omega)) _
          | exact Row.put (Row.far (Row.drew L3.out) (by first | (show w.heap.size ≠ w.heap.size + 1; omega) | (show w.heap.size ≠ w.heap.size + 1 + 1; omega) | (show w.heap.size + 1 ≠ w.heap.size + 1 + 1; omega) | (show w.heap.size + 1 + 1 ≠ w.heap.size + 1; omega)) _) 0 _
      · exact (HB0.out.drew.setCell (by show w.heap.size ≤ _; first | exact Nat.le_succ _ | exact Nat.le_trans (Nat.le_succ _) (Nat.le_succ _)) _).setCell (by show w.heap.size ≤ _; first | exact Nat.le_succ _ | exact Nat.le_trans (Nat.le_succ _) (Nat.le_succ _)) _
  case rest =>
    obtain ⟨rfl, l1, l2, l3, hb⟩ := hcut
    have HXI := Lib.hid (HX.out.keeps hb)
    have HBx := Lib.hid hb
    obtain ⟨Y, hY⟩ : ∃ Y, y.with x.low = Y := ⟨_, rfl⟩
    obtain ⟨Z, hZ⟩ : ∃ Z, z.with x.low = Z := ⟨_, rfl⟩
    have HA0 := Lib.hid (show AtS _ w.heap.size x from ⟨l1, HX.out.keeps hb⟩)
    have HY0 := Lib.hid (show AtS _ (w.heap.size + 1) Y from by rw [← hY]; exact ⟨l2, HYI.out _ hb⟩)
    have HZ0 := Lib.hid (show AtS _ (w.heap.size + 1 + 1) Z from by rw [← hZ]; exact ⟨l3, HZI.out _ hb⟩)
    have HYL := Lib.hid (show Y.low = x.low by rw [← hY]; rfl)
    have HZL := Lib.hid (show Z.low = x.low by rw [← hZ]; rfl)
    have hyn : y.n = Y.n := by rw [← hY]; rfl
    have hzn : z.n = Z.n := by rw [← hZ]; rfl
    rw [hY] at HG2
    rw [hZ] at HG3
    rw [hyn] at hn2
    rw [hzn] at hn3
    clear l1 l2 l3 hb hY hZ hyn hzn L1 L2 L3 HB0 HYI HZI HXI HX
    have HB0 := HBx
    clear HBx
    obtain ⟨gA, hgA⟩ : ∃ g, decide (1100 < x.n) = g := ⟨_, rfl⟩
    obtain ⟨gY, hgY⟩ : ∃ g, decide (1100 < Y.n) = g := ⟨_, rfl⟩
    obtain ⟨gZ, hgZ⟩ : ∃ g, decide (1100 < Z.n) = g := ⟨_, rfl⟩
    rw [hgA] at HG1
    rw [hgY] at HG2
    rw [hgZ] at HG3
    have a0 := HA0.out.c0
    have a1 := HA0.out.c1
    go_wp2_with fail
    clear a0 a1
    refine (HG1.out _).mono ?_
    rintro r w1 ⟨rfl, hb1⟩
    have HB1 := Lib.hid (HB0.out.trans (hb1.mono HB0.out.size))
    have HA1 := Lib.hid (HA0.out.keeps hb1)
    have HY1 := Lib.hid (HY0.out.keeps hb1)
    have HZ1 := Lib.hid (HZ0.out.keeps hb1)
    clear hb1
    clear HA0 HY0 HZ0 HB0
    cases gA
    rotate_left
    · clear hgA
      go_wp2_with fail
      refine (HH.out _).mono ?_
      rintro r wh ⟨rfl, hbh⟩
      have HBH := Lib.hid (HB1.out.trans (hbh.mono HB1.out.size))
      clear hbh
      go_wp2
      go_ret
      exact ⟨rfl, HBH.out⟩
    have y0 := HY1.out.c0
    have y1 := HY1.out.c1
    go_wp2_with fail
    clear y0 y1
    refine (HG2.out _).mono ?_
    rintro r w2 ⟨rfl, hb2⟩
    have HB2 := Lib.hid (HB1.out.trans (hb2.mono HB1.out.size))
    have HA2 := Lib.hid (HA1.out.keeps hb2)
    have HY2 := Lib.hid (HY1.out.keeps hb2)
    have HZ2 := Lib.hid (HZ1.out.keeps hb2)
    clear hb2
    clear HA1 HY1 HZ1 HB1
    cases gY
    rotate_left
    · clear hgY
      go_wp2_with fail
      refine (HH.out _).mono ?_
      rintro r wh ⟨rfl, hbh⟩
      have HBH := Lib.hid (HB2.out.trans (hbh.mono HB2.out.size))
      clear hbh
      go_wp2
      go_ret
      exact ⟨rfl, HBH.out⟩
    have z0 := HZ2.out.c0
    have z1 := HZ2.out.c1
    go_wp2_with fail
    clear z0 z1
    refine (HG3.out _).mono ?_
    rintro r w3 ⟨rfl, hb3⟩
    have HB3 := Lib.hid (HB2.out.trans (hb3.mono HB2.out.size))
    have HA3 := Lib.hid (HA2.out.keeps hb3)
    have HY3 := Lib.hid (HY2.out.keeps hb3)
    have HZ3 := Lib.hid (HZ2.out.keeps hb3)
    clear hb3
    clear HA2 HY2 HZ2 HB2
    cases gZ
    rotate_left
    · clear hgZ
      go_wp2_with fail
      refine (HH.out _).mono ?_
      rintro r wh ⟨rfl, hbh⟩
      have HBH := Lib.hid (HB3.out.trans (hbh.mono HB3.out.size))
      clear hbh
      go_wp2
      go_ret
      exact ⟨rfl, HBH.out⟩
    have hnA : x.n ≤ 1100 := by have := of_decide_eq_false hgA; omega
    have hnY : Y.n ≤ 1100 := by have := of_decide_eq_false hgY; omega
    have hnZ : Z.n ≤ 1100 := by have := of_decide_eq_false hgZ; omega
    clear hgA hgY hgZ HG1 HG2 HG3
    obtain ⟨RA, hRA⟩ : ∃ R, x.s.right = R := ⟨_, rfl⟩
    have a0 := HA3.out.c0
    have a1 := HA3.out.c1
    go_wp2_with fail
    clear a0 a1
    refine (S.right x _ HA3.out.isIn hnA).mono ?_
    rintro r w4 ⟨rfl, hb4⟩
    have HB4 := Lib.hid (HB3.out.trans (hb4.mono HB3.out.size))
    have HA4 := Lib.hid (HA3.out.keeps hb4)
    have HY4 := Lib.hid (HY3.out.keeps hb4)
    have HZ4 := Lib.hid (HZ3.out.keeps hb4)
    clear hb4
    clear HA3 HY3 HZ3 HB3
    rw [hRA]
    cases RA
    · clear hRA
      go_wp2_with fail
      refine (HH.out _).mono ?_
      rintro r wh ⟨rfl, hbh⟩
      have HBH := Lib.hid (HB4.out.trans (hbh.mono HB4.out.size))
      clear hbh
      go_wp2
      go_ret
      exact ⟨rfl, HBH.out⟩
    have HRA := Lib.hid hRA
    clear hRA
    obtain ⟨RY, hRY⟩ : ∃ R, Y.s.right = R := ⟨_, rfl⟩
    have y0 := HY4.out.c0
    have y1 := HY4.out.c1
    go_wp2_with fail
    clear y0 y1
    refine (S.right Y _ HY4.out.isIn hnY).mono ?_
    rintro r w5 ⟨rfl, hb5⟩
    have HB5 := Lib.hid (HB4.out.trans (hb5.mono HB4.out.size))
    have HA5 := Lib.hid (HA4.out.keeps hb5)
    have HY5 := Lib.hid (HY4.out.keeps hb5)
    have HZ5 := Lib.hid (HZ4.out.keeps hb5)
    clear hb5
    clear HA4 HY4 HZ4 HB4
    rw [hRY]
    cases RY
    · clear hRY
      go_wp2_with fail
      refine (HH.out _).mono ?_
      rintro r wh ⟨rfl, hbh⟩
      have HBH := Lib.hid (HB5.out.trans (hbh.mono HB5.out.size))
      clear hbh
      go_wp2
      go_ret
      exact ⟨rfl, HBH.out⟩
    have HRY := Lib.hid hRY
    clear hRY
    obtain ⟨RZ, hRZ⟩ : ∃ R, Z.s.right = R := ⟨_, rfl⟩
    have z0 := HZ5.out.c0
    have z1 := HZ5.out.c1
    go_wp2_with fail
    clear z0 z1
    refine (S.right Z _ HZ5.out.isIn hnZ).mono ?_
    rintro r w6 ⟨rfl, hb6⟩
    have HB6 := Lib.hid (HB5.out.trans (hb6.mono HB5.out.size))
    have HA6 := Lib.hid (HA5.out.keeps hb6)
    have HY6 := Lib.hid (HY5.out.keeps hb6)
    have HZ6 := Lib.hid (HZ5.out.keeps hb6)
    clear hb6
    clear HA5 HY5 HZ5 HB5
    rw [hRZ]
    cases RZ
    · clear hRZ
      go_wp2_with fail
      refine (HH.out _).mono ?_
      rintro r wh ⟨rfl, hbh⟩
      have HBH := Lib.hid (HB6.out.trans (hbh.mono HB6.out.size))
      clear hbh
      go_wp2
      go_ret
      exact ⟨rfl, HBH.out⟩
    have HRZ := Lib.hid hRZ
    clear hRZ
    have a0 := HA6.out.c0
    have a1 := HA6.out.c1
    have y0 := HY6.out.c0
    have y1 := HY6.out.c1
    go_wp2_with fail
    clear a0 a1 y0 y1
    refine (join_ok J x Y _ HA6.out.isIn HY6.out.isIn hnA hnY).mono ?_
    rintro r w7 ⟨P, rfl, hP, hi, hnP, hb7⟩
    have HSP := Lib.hid hP
    have HB7 := Lib.hid ((HB6.out.trans (hb7.mono HB6.out.size)).alloc (HB6.out.trans (hb7.mono HB6.out.size)).size (.cells #[.int .u64 (P.low : Int), .slice P.A P.n P.c] 25))
    have HA7 := Lib.hid ((HA6.out.keeps hb7).alloc (.cells #[.int .u64 (P.low : Int), .slice P.A P.n P.c] 25))
    have HY7 := Lib.hid ((HY6.out.keeps hb7).alloc (.cells #[.int .u64 (P.low : Int), .slice P.A P.n P.c] 25))
    have HZ7 := Lib.hid ((HZ6.out.keeps hb7).alloc (.cells #[.int .u64 (P.low : Int), .slice P.A P.n P.c] 25))
    have HP7 := Lib.hid (AtS.new hi)
    clear hi hP hb7
    clear HA6 HY6 HZ6 HB6
    obtain ⟨W7, hW7⟩ : ∃ W, w7.alloc (.cells #[.int .u64 (P.low : Int), .slice P.A P.n P.c] 25) = W := ⟨_, rfl⟩
    rw [hW7] at HB7 HA7 HY7 HZ7 HP7
    have y0 := HY7.out.c0
    have y1 := HY7.out.c1
    have a0 := HA7.out.c0
    have a1 := HA7.out.c1
    go_wp2_with fail
    clear y0 y1 a0 a1
    clear hW7
    refine (join_ok J Y x _ HY7.out.isIn HA7.out.isIn hnY hnA).mono ?_
    rintro r w8 ⟨Q, rfl, hQ, hi, hnQ, hb8⟩
    have HSQ := Lib.hid hQ
    have HB8 := Lib.hid ((HB7.out.trans (hb8.mono HB7.out.size)).alloc (HB7.out.trans (hb8.mono HB7.out.size)).size (.cells #[.int .u64 (Q.low : Int), .slice Q.A Q.n Q.c] 25))
    have HA8 := Lib.hid ((HA7.out.keeps hb8).alloc (.cells #[.int .u64 (Q.low : Int), .slice Q.A Q.n Q.c] 25))
    have HY8 := Lib.hid ((HY7.out.keeps hb8).alloc (.cells #[.int .u64 (Q.low : Int), .slice Q.A Q.n Q.c] 25))
    have HZ8 := Lib.hid ((HZ7.out.keeps hb8).alloc (.cells #[.int .u64 (Q.low : Int), .slice Q.A Q.n Q.c] 25))
    have HP8 := Lib.hid ((HP7.out.keeps hb8).alloc (.cells #[.int .u64 (Q.low : Int), .slice Q.A Q.n Q.c] 25))
    have HQ8 := Lib.hid (AtS.new hi)
    clear hi hQ hb8
    clear HA7 HY7 HZ7 HP7 HB7
    obtain ⟨W8, hW8⟩ : ∃ W, w8.alloc (.cells #[.int .u64 (Q.low : Int), .slice Q.A Q.n Q.c] 25) = W := ⟨_, rfl⟩
    rw [hW8] at HB8 HA8 HY8 HZ8 HP8 HQ8
    have a0 := HA8.out.c0
    have a1 := HA8.out.c1
    go_wp2_with fail
    clear a0 a1
    clear hW8
    refine (join_ok J x x _ HA8.out.isIn HA8.out.isIn hnA hnA).mono ?_
    rintro r w9 ⟨T, rfl, hT, hi, hnT, hb9⟩
    have HST := Lib.hid hT
    have HB9 := Lib.hid ((HB8.out.trans (hb9.mono HB8.out.size)).alloc (HB8.out.trans (hb9.mono HB8.out.size)).size (.cells #[.int .u64 (T.low : Int), .slice T.A T.n T.c] 25))
    have HA9 := Lib.hid ((HA8.out.keeps hb9).alloc (.cells #[.int .u64 (T.low : Int), .slice T.A T.n T.c] 25))
    have HY9 := Lib.hid ((HY8.out.keeps hb9).alloc (.cells #[.int .u64 (T.low : Int), .slice T.A T.n T.c] 25))
    have HZ9 := Lib.hid ((HZ8.out.keeps hb9).alloc (.cells #[.int .u64 (T.low : Int), .slice T.A T.n T.c] 25))
    have HP9 := Lib.hid ((HP8.out.keeps hb9).alloc (.cells #[.int .u64 (T.low : Int), .slice T.A T.n T.c] 25))
    have HQ9 := Lib.hid ((HQ8.out.keeps hb9).alloc (.cells #[.int .u64 (T.low : Int), .slice T.A T.n T.c] 25))
    have HT9 := Lib.hid (AtS.new hi)
    clear hi hT hb9
    clear HA8 HY8 HZ8 HP8 HQ8 HB8
    obtain ⟨W9, hW9⟩ : ∃ W, w9.alloc (.cells #[.int .u64 (T.low : Int), .slice T.A T.n T.c] 25) = W := ⟨_, rfl⟩
    rw [hW9] at HB9 HA9 HY9 HZ9 HP9 HQ9 HT9
    rw [joinE_comm HRY.out HRA.out HYL.out, joinE_self HRA.out]
    obtain ⟨E, hE⟩ : ∃ E, x.s.joinE Y.s = E := ⟨_, rfl⟩
    have HE := Lib.hid hE
    rw [hE]
    rw [hE] at HSP
    rw [joinE_comm HRY.out HRA.out HYL.out, hE, join_comm HRY.out HRA.out HYL.out] at HSQ
    rw [joinE_self HRA.out, join_self HRA.out] at HST
    clear hE
    have p0 := HP9.out.c0
    have p1 := HP9.out.c1
    have q0 := HQ9.out.c0
    have q1 := HQ9.out.c1
    go_wp2_with fail
    clear p0 p1 q0 q1
    clear hW9
    refine (S.same P Q _ HP9.out.isIn HQ9.out.isIn (by omega) (by omega)).mono ?_
    rintro r w10 ⟨rfl, hb10⟩
    rw [decide_eq_true (show P.s = Q.s by rw [HSP.out, HSQ.out])]
    have HB10 := Lib.hid (HB9.out.trans (hb10.mono HB9.out.size))
    have HA10 := Lib.hid (HA9.out.keeps hb10)
    have HY10 := Lib.hid (HY9.out.keeps hb10)
    have HZ10 := Lib.hid (HZ9.out.keeps hb10)
    have HP10 := Lib.hid (HP9.out.keeps hb10)
    have HQ10 := Lib.hid (HQ9.out.keeps hb10)
    have HT10 := Lib.hid (HT9.out.keeps hb10)
    clear hb10
    clear HA9 HY9 HZ9 HP9 HQ9 HT9 HB9
    have t0 := HT10.out.c0
    have t1 := HT10.out.c1
    have a0 := HA10.out.c0
    have a1 := HA10.out.c1
    go_wp2_with fail
    clear t0 t1 a0 a1
    refine (S.same T x _ HT10.out.isIn HA10.out.isIn (by omega) hnA).mono ?_
    rintro r w11 ⟨rfl, hb11⟩
    rw [decide_eq_true (show T.s = x.s by rw [HST.out]; rfl)]
    have HB11 := Lib.hid (HB10.out.trans (hb11.mono HB10.out.size))
    have HA11 := Lib.hid (HA10.out.keeps hb11)
    have HY11 := Lib.hid (HY10.out.keeps hb11)
    have HZ11 := Lib.hid (HZ10.out.keeps hb11)
    have HP11 := Lib.hid (HP10.out.keeps hb11)
    have HQ11 := Lib.hid (HQ10.out.keeps hb11)
    have HT11 := Lib.hid (HT10.out.keeps hb11)
    clear hb11
    clear HA10 HY10 HZ10 HP10 HQ10 HT10 HB10
    clear HQ11 HT11 HSQ HST
    have y0 := HY11.out.c0
    have y1 := HY11.out.c1
    have z0 := HZ11.out.c0
    have z1 := HZ11.out.c1
    go_wp2_with fail
    clear y0 y1 z0 z1
    refine (join_ok J Y Z _ HY11.out.isIn HZ11.out.isIn hnY hnZ).mono ?_
    rintro r w12 ⟨U, rfl, hU, hi, hnU, hb12⟩
    have HSU := Lib.hid hU
    have HB12 := Lib.hid ((HB11.out.trans (hb12.mono HB11.out.size)).alloc (HB11.out.trans (hb12.mono HB11.out.size)).size (.cells #[.int .u64 (U.low : Int), .slice U.A U.n U.c] 25))
    have HA12 := Lib.hid ((HA11.out.keeps hb12).alloc (.cells #[.int .u64 (U.low : Int), .slice U.A U.n U.c] 25))
    have HY12 := Lib.hid ((HY11.out.keeps hb12).alloc (.cells #[.int .u64 (U.low : Int), .slice U.A U.n U.c] 25))
    have HZ12 := Lib.hid ((HZ11.out.keeps hb12).alloc (.cells #[.int .u64 (U.low : Int), .slice U.A U.n U.c] 25))
    have HP12 := Lib.hid ((HP11.out.keeps hb12).alloc (.cells #[.int .u64 (U.low : Int), .slice U.A U.n U.c] 25))
    have HU12 := Lib.hid (AtS.new hi)
    clear hi hU hb12
    clear HA11 HY11 HZ11 HP11 HB11
    obtain ⟨W12, hW12⟩ : ∃ W, w12.alloc (.cells #[.int .u64 (U.low : Int), .slice U.A U.n U.c] 25) = W := ⟨_, rfl⟩
    rw [hW12] at HB12 HA12 HY12 HZ12 HP12 HU12
    obtain ⟨F, hF⟩ : ∃ F, Y.s.joinE Z.s = F := ⟨_, rfl⟩
    have HF := Lib.hid hF
    rw [hF]
    rw [hF] at HSU
    clear hF
    by_cases e1 : E = 0
    · subst e1
      by_cases e2 : F = 0
      · subst e2
        obtain ⟨hass, hassE⟩ := join_assoc HE.out HF.out
        have HASS := Lib.hid hass
        have HASE := Lib.hid hassE
        clear hass hassE
        have HSP := Lib.hid (show P.s = x.s.joinS Y.s from HSP.out)
        have HSU := Lib.hid (show U.s = Y.s.joinS Z.s from HSU.out)
        have p0 := HP12.out.c0
        have p1 := HP12.out.c1
        have z0 := HZ12.out.c0
        have z1 := HZ12.out.c1
        go_wp2_with fail
        clear p0 p1 z0 z1
        clear hW12
        refine (join_ok J P Z _ HP12.out.isIn HZ12.out.isIn (by omega) hnZ).mono ?_
        rintro r w13 ⟨V, rfl, hV, hi, hnV, hb13⟩
        have HSV := Lib.hid hV
        have HB13 := Lib.hid ((HB12.out.trans (hb13.mono HB12.out.size)).alloc (HB12.out.trans (hb13.mono HB12.out.size)).size (.cells #[.int .u64 (V.low : Int), .slice V.A V.n V.c] 25))
        have HA13 := Lib.hid ((HA12.out.keeps hb13).alloc (.cells #[.int .u64 (V.low : Int), .slice V.A V.n V.c] 25))
        have HY13 := Lib.hid ((HY12.out.keeps hb13).alloc (.cells #[.int .u64 (V.low : Int), .slice V.A V.n V.c] 25))
        have HZ13 := Lib.hid ((HZ12.out.keeps hb13).alloc (.cells #[.int .u64 (V.low : Int), .slice V.A V.n V.c] 25))
        have HP13 := Lib.hid ((HP12.out.keeps hb13).alloc (.cells #[.int .u64 (V.low : Int), .slice V.A V.n V.c] 25))
        have HU13 := Lib.hid ((HU12.out.keeps hb13).alloc (.cells #[.int .u64 (V.low : Int), .slice V.A V.n V.c] 25))
        have HV13 := Lib.hid (AtS.new hi)
        clear hi hV hb13
        clear HA12 HY12 HZ12 HP12 HU12 HB12
        obtain ⟨W13, hW13⟩ : ∃ W, w13.alloc (.cells #[.int .u64 (V.low : Int), .slice V.A V.n V.c] 25) = W := ⟨_, rfl⟩
        rw [hW13] at HB13 HA13 HY13 HZ13 HP13 HU13 HV13
        have a0 := HA13.out.c0
        have a1 := HA13.out.c1
        have u0 := HU13.out.c0
        have u1 := HU13.out.c1
        go_wp2_with fail
        clear a0 a1 u0 u1
        clear hW13
        refine (join_ok J x U _ HA13.out.isIn HU13.out.isIn hnA (by omega)).mono ?_
        rintro r w14 ⟨D, rfl, hD, hi, hnD, hb14⟩
        have HSD := Lib.hid hD
        have HB14 := Lib.hid ((HB13.out.trans (hb14.mono HB13.out.size)).alloc (HB13.out.trans (hb14.mono HB13.out.size)).size (.cells #[.int .u64 (D.low : Int), .slice D.A D.n D.c] 25))
        have HA14 := Lib.hid ((HA13.out.keeps hb14).alloc (.cells #[.int .u64 (D.low : Int), .slice D.A D.n D.c] 25))
        have HY14 := Lib.hid ((HY13.out.keeps hb14).alloc (.cells #[.int .u64 (D.low : Int), .slice D.A D.n D.c] 25))
        have HZ14 := Lib.hid ((HZ13.out.keeps hb14).alloc (.cells #[.int .u64 (D.low : Int), .slice D.A D.n D.c] 25))
        have HP14 := Lib.hid ((HP13.out.keeps hb14).alloc (.cells #[.int .u64 (D.low : Int), .slice D.A D.n D.c] 25))
        have HU14 := Lib.hid ((HU13.out.keeps hb14).alloc (.cells #[.int .u64 (D.low : Int), .slice D.A D.n D.c] 25))
        have HV14 := Lib.hid ((HV13.out.keeps hb14).alloc (.cells #[.int .u64 (D.low : Int), .slice D.A D.n D.c] 25))
        have HD14 := Lib.hid (AtS.new hi)
        clear hi hD hb14
        clear HA13 HY13 HZ13 HP13 HU13 HV13 HB13
        obtain ⟨W14, hW14⟩ : ∃ W, w14.alloc (.cells #[.int .u64 (D.low : Int), .slice D.A D.n D.c] 25) = W := ⟨_, rfl⟩
        rw [hW14] at HB14 HA14 HY14 HZ14 HP14 HU14 HV14 HD14
        rw [HSP.out] at HSV
        rw [HSU.out, ← HASE.out, ← HASS.out] at HSD
        rw [HSP.out, HSU.out, ← HASE.out]
        obtain ⟨G, hG⟩ : ∃ G, (x.s.joinS Y.s).joinE Z.s = G := ⟨_, rfl⟩
        rw [hG]
        clear hG
        have v0 := HV14.out.c0
        have v1 := HV14.out.c1
        have d0 := HD14.out.c0
        have d1 := HD14.out.c1
        go_wp2_with fail
        clear v0 v1 d0 d1
        clear hW14
        refine (S.same V D _ HV14.out.isIn HD14.out.isIn (by omega) (by omega)).mono ?_
        rintro r w15 ⟨rfl, hb15⟩
        rw [decide_eq_true (show V.s = D.s by rw [HSV.out, HSD.out])]
        have HB15 := Lib.hid (HB14.out.trans (hb15.mono HB14.out.size))
        have HA15 := Lib.hid (HA14.out.keeps hb15)
        have HY15 := Lib.hid (HY14.out.keeps hb15)
        have HZ15 := Lib.hid (HZ14.out.keeps hb15)
        have HP15 := Lib.hid (HP14.out.keeps hb15)
        have HU15 := Lib.hid (HU14.out.keeps hb15)
        have HV15 := Lib.hid (HV14.out.keeps hb15)
        have HD15 := Lib.hid (HD14.out.keeps hb15)
        clear hb15
        clear HA14 HY14 HZ14 HP14 HU14 HV14 HD14 HB14
        go_wp2_with fail
        refine (HH.out _).mono ?_
        rintro r wh ⟨rfl, hbh⟩
        have HBH := Lib.hid (HB15.out.trans (hbh.mono HB15.out.size))
        clear hbh
        go_wp2
        go_ret
        exact ⟨rfl, HBH.out⟩
      · have e3 : ¬ ((F : Int) = 0) := by omega
        go_wp2_with fail
        refine (HH.out _).mono ?_
        rintro r wh ⟨rfl, hbh⟩
        have HBH := Lib.hid (HB12.out.trans (hbh.mono HB12.out.size))
        clear hbh
        go_wp2
        go_ret
        exact ⟨rfl, HBH.out⟩
    · have e3 : ¬ ((E : Int) = 0) := by omega
      go_wp2_with fail
      refine (HH.out _).mono ?_
      rintro r wh ⟨rfl, hbh⟩
      have HBH := Lib.hid (HB12.out.trans (hbh.mono HB12.out.size))
      clear hbh
      go_wp2
      go_ret
      exact ⟨rfl, HBH.out⟩

end

end Go.Proofs.Ytkcjhkhdpafjhaa
