/-
  The walk of the statement LsnsTurns, over what package lsns is held to.
-/
import Derived.Test.YtpjgmblhlhnniaaLsnsTurnsC
import Derived.Test.YtpjgmblhlhnniaaLsnsJoins
import Derived.Deep.DeepCutAuto
import Derived.Deep.CutBlock
import Derived.Outline
import Derived.Deep.RegionLaw
namespace Go.Proofs.Ytpjgmblhlhnniaa
open Go.RowKit

section
variable (J : LsnsJ) (S : LsnsC)
include J S

set_option maxRecDepth 100000 in
set_option maxHeartbeats 16000000 in
theorem turns_any (x y : LV) (m : Nat) (w : World) (hx : x.In w) (hy : y.In w) (hn : x.n ≤ 9223372036854775807) (hn2 : y.n ≤ 9223372036854775807) (hm : m < 18446744073709551616) :
    Calls Try.prog 4 #[.agg #[.int .u64 (x.low : Int), .slice x.A x.n x.c], .agg #[.int .u64 (y.low : Int), .slice y.A y.n y.c], .int .u64 (m : Int)] w fun r w' => r = .returned (.bool true) ∧ Below w.heap.size w w' := by
  have HH := Lib.hid (fun w => head_any S w)
  have HG1 := Lib.hid (fun w => great_any x w hn)
  have HG2 := Lib.hid (fun w => great_any y w hn2)
  have hb0 : Below w.heap.size w ((w.alloc (.cells #[.int .u64 (x.low : Int), .slice x.A x.n x.c] 25)).alloc (.cells #[.int .u64 (y.low : Int), .slice y.A y.n y.c] 25)) := (below_new w _).alloc (by rw [size_new]; omega) _
  have HB0 := Lib.hid hb0
  have HX0 := Lib.hid ((AtS.new hx).alloc (.cells #[.int .u64 (y.low : Int), .slice y.A y.n y.c] 25))
  have hy0 := AtS.new (hy.alloc (.cells #[.int .u64 (x.low : Int), .slice x.A x.n x.c] 25))
  rw [size_new] at hy0
  have HY0 := Lib.hid hy0
  clear hb0 hy0 hx hy
  obtain ⟨gx, hgx⟩ : ∃ g, decide (1100 < x.n) = g := ⟨_, rfl⟩
  obtain ⟨gy, hgy⟩ : ∃ g, decide (1100 < y.n) = g := ⟨_, rfl⟩
  rw [hgx] at HG1
  rw [hgy] at HG2
  go_enter Try.func4, Try.ntmps4
  go_wp2_with fail
  refine (HG1.out _).mono ?_
  rintro r w1 ⟨rfl, hb1⟩
  have HB1 := Lib.hid (HB0.out.trans (hb1.mono HB0.out.size))
  have HX1 := Lib.hid (HX0.out.keeps hb1)
  have HY1 := Lib.hid (HY0.out.keeps hb1)
  clear hb1 HB0 HX0 HY0 HG1
  cases gx
  rotate_left
  · clear hgx
    go_wp2_with fail
    refine (HH.out _).mono ?_
    rintro r wh ⟨rfl, hbh⟩
    have HBH := Lib.hid (HB1.out.trans (hbh.mono HB1.out.size))
    clear hbh
    go_wp2
    go_ret
    exact ⟨rfl, HBH.out⟩
  have y0 := HY1.out.c0
  have y1 := HY1.out.c1
  go_wp2_with fail
  clear y0 y1
  refine (HG2.out _).mono ?_
  rintro r w2 ⟨rfl, hb2⟩
  have HB2 := Lib.hid (HB1.out.trans (hb2.mono HB1.out.size))
  have HX2 := Lib.hid (HX1.out.keeps hb2)
  have HY2 := Lib.hid (HY1.out.keeps hb2)
  clear hb2 HB1 HX1 HY1 HG2
  cases gy
  rotate_left
  · clear hgy
    go_wp2_with fail
    refine (HH.out _).mono ?_
    rintro r wh ⟨rfl, hbh⟩
    have HBH := Lib.hid (HB2.out.trans (hbh.mono HB2.out.size))
    clear hbh
    go_wp2
    go_ret
    exact ⟨rfl, HBH.out⟩
  have hnx : x.n ≤ 1100 := by have := of_decide_eq_false hgx; omega
  have hny : y.n ≤ 1100 := by have := of_decide_eq_false hgy; omega
  clear hgx hgy hn hn2
  go_upto_region 3 with fail
  try go_frame
  go_cut [7, 8] (fun s t wx => Copied w2 x.s y.s s t wx)
  case first =>
    refine wp_region_any (by kernel_rfl) ?_
    refine two_copies _ w2 x y w.heap.size (w.heap.size + 1) (by rfl) (by rfl) (by simp) HX2.out HY2.out hnx hny ?_
    intro g h C D W hc
    rw [fr_all]
    go_wp2_with fail
    go_meet
    exact hc
  case rest =>
    obtain ⟨gX, gY, X, Y, rfl, rfl, hX, hY, hXs, hYs, hne, _, _, hk⟩ := hcut
    rename World => w3
    have HB3 := Lib.hid (HB2.out.trans (hk.mono HB2.out.size))
    have HX3 := Lib.hid (HX2.out.keeps hk)
    have HY3 := Lib.hid (HY2.out.keeps hk)
    have HU3 := Lib.hid hX
    have HV3 := Lib.hid hY
    have hXn : X.n ≤ 1100 := by
      have e : X.l = x.l := congrArg LS.ins hXs
      rw [← hX.isIn.len, e, HX3.out.isIn.len]; exact hnx
    have hYn : Y.n ≤ 1100 := by
      have e : Y.l = y.l := congrArg LS.ins hYs
      rw [← hY.isIn.len, e, HY3.out.isIn.len]; exact hny
    have HXS := Lib.hid hXs
    have HYS := Lib.hid hYs
    have KW3 := Lib.hid (Keep.refl w3)
    clear hX hY hk hXs hYs HX2 HY2 HB2 hne
    have u0 := (HU3.out.keeps KW3.out).c0
    have u1 := (HU3.out.keeps KW3.out).c1
    go_wp2_with fail
    clear u0 u1
    refine (got_add' S X m w3 HU3.out.isIn hXn hm HXS.out).mono ?_
    rintro r w4 ⟨P, rfl, hP, hiP, hnP, hoP, hbP⟩
    have HP := Lib.hid hP
    have hbb : Below w3.heap.size w3 (w4.alloc (.cells #[.int .u64 (P.low : Int), .slice P.A P.n P.c] 25)) := hbP.alloc hbP.size _
    have KW4 := Lib.hid (KW3.out.then hbb)
    have AP := Lib.hid (AtS.new hiP)
    have FP := Lib.hid (Free.new hiP hoP hbP.size)
    clear hP hiP hoP hbb
    obtain ⟨W4, hW4⟩ : ∃ W, w4.alloc (.cells #[.int .u64 (P.low : Int), .slice P.A P.n P.c] 25) = W := ⟨_, rfl⟩
    rw [hW4] at KW4 AP FP
    have u0 := (HX3.out.keeps KW4.out).c0
    have u1 := (HX3.out.keeps KW4.out).c1
    go_wp2_with fail
    clear u0 u1
    refine (dgot_add x m W4 (HX3.out.keeps KW4.out).isIn hnx hm).mono ?_
    rintro r w5 ⟨Q, rfl, hQ, hiQ, hnQ, hoQ, hbQ⟩
    have HQ := Lib.hid hQ
    have hbb : Below W4.heap.size W4 (w5.alloc (.cells #[.int .u64 (Q.low : Int), .slice Q.A Q.n Q.c] 25)) := hbQ.alloc hbQ.size _
    have KW5 := Lib.hid (KW4.out.then hbb)
    have FP := Lib.hid (FP.out.keeps hbb)
    have AP := Lib.hid (AP.out.keeps hbb)
    have AQ := Lib.hid (AtS.new hiQ)
    clear hQ hiQ hoQ hbb
    obtain ⟨W5, hW5⟩ : ∃ W, w5.alloc (.cells #[.int .u64 (Q.low : Int), .slice Q.A Q.n Q.c] 25) = W := ⟨_, rfl⟩
    rw [hW5] at KW5 AQ FP AP
    have p0 := AP.out.c0
    have p1 := AP.out.c1
    have q0 := AQ.out.c0
    have q1 := AQ.out.c1
    go_wp2_with fail
    clear p0 p1 q0 q1
    refine (rsame_any P Q W5 AP.out.isIn AQ.out.isIn (by omega) (by omega)).mono ?_
    rintro r w6 ⟨rfl, hbb⟩
    rw [show decide (P.s = Q.s) = true from decide_eq_true (by rw [HP.out, HQ.out])]
    have KW6 := Lib.hid (KW5.out.then hbb)
    have FP := Lib.hid (FP.out.keeps hbb)
    clear hbb AP AQ HP HQ KW5 hW5 hW4
    have o1 := Row.lt FP.out.lies
    have u0 := (HU3.out.keeps KW6.out).c0
    have u1 := (HU3.out.keeps KW6.out).c1
    go_wp2_with fail
    clear u0 u1
    refine (got_raise' S X m w6 (HU3.out.keeps KW6.out).isIn hXn hm HXS.out).mono ?_
    rintro r w7 ⟨R, rfl, hR, hiR, hnR, hoR, hbR⟩
    have HR := Lib.hid hR
    have hbb : Below w6.heap.size w6 (w7.alloc (.cells #[.int .u64 (R.low : Int), .slice R.A R.n R.c] 25)) := hbR.alloc hbR.size _
    have KW7 := Lib.hid (KW6.out.then hbb)
    have FP := Lib.hid (FP.out.keeps hbb)
    have AR := Lib.hid (AtS.new hiR)
    have FR := Lib.hid (Free.new hiR hoR hbR.size)
    clear hR hiR hoR hbb
    obtain ⟨W7, hW7⟩ : ∃ W, w7.alloc (.cells #[.int .u64 (R.low : Int), .slice R.A R.n R.c] 25) = W := ⟨_, rfl⟩
    rw [hW7] at KW7 AR FP FR
    have u0 := (HX3.out.keeps KW7.out).c0
    have u1 := (HX3.out.keeps KW7.out).c1
    go_wp2_with fail
    clear u0 u1
    refine (dgot_raise x m W7 (HX3.out.keeps KW7.out).isIn hnx hm).mono ?_
    rintro r w8 ⟨R2, rfl, hR2, hiR2, hnR2, hoR2, hbR2⟩
    have HR2 := Lib.hid hR2
    have hbb : Below W7.heap.size W7 (w8.alloc (.cells #[.int .u64 (R2.low : Int), .slice R2.A R2.n R2.c] 25)) := hbR2.alloc hbR2.size _
    have KW8 := Lib.hid (KW7.out.then hbb)
    have FP := Lib.hid (FP.out.keeps hbb)
    have FR := Lib.hid (FR.out.keeps hbb)
    have AR := Lib.hid (AR.out.keeps hbb)
    have AR2 := Lib.hid (AtS.new hiR2)
    clear hR2 hiR2 hoR2 hbb
    obtain ⟨W8, hW8⟩ : ∃ W, w8.alloc (.cells #[.int .u64 (R2.low : Int), .slice R2.A R2.n R2.c] 25) = W := ⟨_, rfl⟩
    rw [hW8] at KW8 AR2 FP FR AR
    have p0 := AR.out.c0
    have p1 := AR.out.c1
    have q0 := AR2.out.c0
    have q1 := AR2.out.c1
    go_wp2_with fail
    clear p0 p1 q0 q1
    refine (rsame_any R R2 W8 AR.out.isIn AR2.out.isIn (by omega) (by omega)).mono ?_
    rintro r w9 ⟨rfl, hbb⟩
    rw [show decide (R.s = R2.s) = true from decide_eq_true (by rw [HR.out, HR2.out])]
    have KW9 := Lib.hid (KW8.out.then hbb)
    have FP := Lib.hid (FP.out.keeps hbb)
    have FR := Lib.hid (FR.out.keeps hbb)
    clear hbb AR AR2 HR HR2 KW8 hW8 hW7
    have o2 := Row.lt FR.out.lies
    have u0 := (HU3.out.keeps KW9.out).c0
    have u1 := (HU3.out.keeps KW9.out).c1
    have v0 := (HV3.out.keeps KW9.out).c0
    have v1 := (HV3.out.keeps KW9.out).c1
    go_wp2_with fail
    clear u0 u1 v0 v1
    refine (got_join' J X Y w9 (HU3.out.keeps KW9.out).isIn (HV3.out.keeps KW9.out).isIn hXn hYn HXS.out HYS.out).mono ?_
    rintro r w10 ⟨T, rfl, hT, hiT, hnT, hoT, hbT⟩
    have HT := Lib.hid hT
    have hbb : Below w9.heap.size w9 (w10.alloc (.cells #[.int .u64 (T.low : Int), .slice T.A T.n T.c] 25)) := hbT.alloc hbT.size _
    have KW10 := Lib.hid (KW9.out.then hbb)
    have FP := Lib.hid (FP.out.keeps hbb)
    have FR := Lib.hid (FR.out.keeps hbb)
    have AT := Lib.hid (AtS.new hiT)
    have FT := Lib.hid (Free.new hiT hoT hbT.size)
    clear hT hiT hoT hbb
    obtain ⟨W10, hW10⟩ : ∃ W, w10.alloc (.cells #[.int .u64 (T.low : Int), .slice T.A T.n T.c] 25) = W := ⟨_, rfl⟩
    rw [hW10] at KW10 AT FP FR FT
    have u0 := (HX3.out.keeps KW10.out).c0
    have u1 := (HX3.out.keeps KW10.out).c1
    have v0 := (HY3.out.keeps KW10.out).c0
    have v1 := (HY3.out.keeps KW10.out).c1
    go_wp2_with fail
    clear u0 u1 v0 v1
    refine (dgot_join x y W10 (HX3.out.keeps KW10.out).isIn (HY3.out.keeps KW10.out).isIn hnx hny).mono ?_
    rintro r w11 ⟨T2, rfl, hT2, hiT2, hnT2, hoT2, hbT2⟩
    have HT2 := Lib.hid hT2
    have hbb : Below W10.heap.size W10 (w11.alloc (.cells #[.int .u64 (T2.low : Int), .slice T2.A T2.n T2.c] 25)) := hbT2.alloc hbT2.size _
    have KW11 := Lib.hid (KW10.out.then hbb)
    have FP := Lib.hid (FP.out.keeps hbb)
    have FR := Lib.hid (FR.out.keeps hbb)
    have FT := Lib.hid (FT.out.keeps hbb)
    have AT := Lib.hid (AT.out.keeps hbb)
    have AT2 := Lib.hid (AtS.new hiT2)
    clear hT2 hiT2 hoT2 hbb
    obtain ⟨W11, hW11⟩ : ∃ W, w11.alloc (.cells #[.int .u64 (T2.low : Int), .slice T2.A T2.n T2.c] 25) = W := ⟨_, rfl⟩
    rw [hW11] at KW11 AT2 FP FR FT AT
    have p0 := AT.out.c0
    have p1 := AT.out.c1
    have q0 := AT2.out.c0
    have q1 := AT2.out.c1
    go_wp2_with fail
    clear p0 p1 q0 q1
    refine (rsame_any T T2 W11 AT.out.isIn AT2.out.isIn (by omega) (by omega)).mono ?_
    rintro r w12 ⟨rfl, hbb⟩
    rw [show decide (T.s = T2.s) = true from decide_eq_true (by rw [HT.out, HT2.out])]
    have KW12 := Lib.hid (KW11.out.then hbb)
    have FP := Lib.hid (FP.out.keeps hbb)
    have FR := Lib.hid (FR.out.keeps hbb)
    have FT := Lib.hid (FT.out.keeps hbb)
    clear hbb AT AT2 HT HT2 KW11 hW11 hW10
    have HO := Lib.hid (show Over w3 w3.heap.size w4.heap.size w6.heap.size w7.heap.size w9.heap.size w10.heap.size P R T w12 from ⟨KW12.out, Nat.le_refl _, FP.out, FR.out, FT.out, o1, o2⟩)
    clear FP FR FT KW12 o1 o2 hbP hbQ hbR hbR2 hbT hbT2
    go_wp2_with fail
    go_loopw [17] (fun s wr => ∃ i : Nat, i ≤ P.n ∧ s = .int .i64 i ∧ Hid (Over w3 w3.heap.size w4.heap.size w6.heap.size w7.heap.size w9.heap.size w10.heap.size P R T wr)) (fun s _ => P.n - (intOf s).toNat)
    case atStart => exact ⟨0, Nat.zero_le _, rfl, HO⟩
    case round =>
      clear HO
      obtain ⟨i, hi, rfl, HO⟩ := hrel
      have f1 := HO.out.f1.lies.c1
      by_cases hlt : i < P.n
      · obtain ⟨b, off, v, hA, hc, hf, hset⟩ := HO.out.at1 hlt
        have HSET := Lib.hid (hset (.int .u64 0))
        rw [hA] at f1
        have i0 : (0 : Int) ≤ (i : Int) := by omega
        have i1 : (i : Int) < (P.n : Int) := by omega
        clear hset hA
        go_wp2_with fail
        go_roundw
        case rel => exact ⟨i + 1, by omega, by go_num, HSET⟩
        case measure => simp [intOf]; omega
      · have i1 : ¬ ((i : Int) < (P.n : Int)) := by omega
        go_wp2_with fail
        go_loopw [18] (fun s wr => ∃ i : Nat, i ≤ R.n ∧ s = .int .i64 i ∧ Hid (Over w3 w3.heap.size w4.heap.size w6.heap.size w7.heap.size w9.heap.size w10.heap.size P R T wr)) (fun s _ => R.n - (intOf s).toNat)
        case atStart => exact ⟨0, Nat.zero_le _, rfl, HO⟩
        case round =>
          clear HO
          obtain ⟨i, hi, rfl, HO⟩ := hrel
          have f1 := HO.out.f2.lies.c1
          by_cases hlt : i < R.n
          · obtain ⟨b, off, v, hA, hc, hf, hset⟩ := HO.out.at2 hlt
            have HSET := Lib.hid (hset (.int .u64 0))
            rw [hA] at f1
            have i0 : (0 : Int) ≤ (i : Int) := by omega
            have i1 : (i : Int) < (R.n : Int) := by omega
            clear hset hA
            go_wp2_with fail
            go_roundw
            case rel => exact ⟨i + 1, by omega, by go_num, HSET⟩
            case measure => simp [intOf]; omega
          · have i1 : ¬ ((i : Int) < (R.n : Int)) := by omega
            go_wp2_with fail
            go_loopw [19] (fun s wr => ∃ i : Nat, i ≤ T.n ∧ s = .int .i64 i ∧ Hid (Over w3 w3.heap.size w4.heap.size w6.heap.size w7.heap.size w9.heap.size w10.heap.size P R T wr)) (fun s _ => T.n - (intOf s).toNat)
            case atStart => exact ⟨0, Nat.zero_le _, rfl, HO⟩
            case round =>
              clear HO
              obtain ⟨i, hi, rfl, HO⟩ := hrel
              have f1 := HO.out.f3.lies.c1
              by_cases hlt : i < T.n
              · obtain ⟨b, off, v, hA, hc, hf, hset⟩ := HO.out.at3 hlt
                have HSET := Lib.hid (hset (.int .u64 0))
                rw [hA] at f1
                have i0 : (0 : Int) ≤ (i : Int) := by omega
                have i1 : (i : Int) < (T.n : Int) := by omega
                clear hset hA
                go_wp2_with fail
                go_roundw
                case rel => exact ⟨i + 1, by omega, by go_num, HSET⟩
                case measure => simp [intOf]; omega
              · have i1 : ¬ ((i : Int) < (T.n : Int)) := by omega
                have HWX := Lib.hid (HU3.out.keeps HO.out.keep)
                have HWY := Lib.hid (HV3.out.keeps HO.out.keep)
                have HAX := Lib.hid (HX3.out.keeps HO.out.keep)
                have HAY := Lib.hid (HY3.out.keeps HO.out.keep)
                have HBE := Lib.hid (HB3.out.trans (Below.mono HO.out.keep HB3.out.size))
                clear HO HU3 HV3 HX3 HY3 HB3
                have u0 := HWX.out.c0
                have u1 := HWX.out.c1
                have v0 := HAX.out.c0
                have v1 := HAX.out.c1
                go_wp2_with fail
                clear u0 u1 v0 v1 f1
                refine (rsame_any X x _ HWX.out.isIn HAX.out.isIn (by omega) (by omega)).mono ?_
                rintro r wa ⟨rfl, hba⟩
                rw [show decide (X.s = x.s) = true from decide_eq_true HXS.out]
                have HWY2 := Lib.hid (HWY.out.keeps hba)
                have HAY2 := Lib.hid (HAY.out.keeps hba)
                have HBA := Lib.hid (HBE.out.trans (hba.mono HBE.out.size))
                clear hba HWX HAX HWY HAY HBE
                have u0 := HWY2.out.c0
                have u1 := HWY2.out.c1
                have v0 := HAY2.out.c0
                have v1 := HAY2.out.c1
                go_wp2_with fail
                clear u0 u1 v0 v1
                refine (rsame_any Y y _ HWY2.out.isIn HAY2.out.isIn (by omega) (by omega)).mono ?_
                rintro r wb ⟨rfl, hbb⟩
                rw [show decide (Y.s = y.s) = true from decide_eq_true HYS.out]
                have HBB := Lib.hid (HBA.out.trans (hbb.mono HBA.out.size))
                clear hbb HWY2 HAY2 HBA
                go_wp2_with fail
                refine (HH.out _).mono ?_
                rintro r wh ⟨rfl, hbh⟩
                have HBH := Lib.hid (HBB.out.trans (hbh.mono HBB.out.size))
                clear hbh
                go_wp2
                go_ret
                exact ⟨rfl, HBH.out⟩

end

end Go.Proofs.Ytpjgmblhlhnniaa
