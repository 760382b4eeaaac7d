/-
  The walk over the document's answer for package lsns: Join.
-/
import Derived.Test.YtkcjhkhdpafjhaaLsnsAddB
import Derived.Test.YtkcjhkhdpafjhaaLsnsJoinMath
namespace Go.Proofs.Ytkcjhkhdpafjhaa
open Go.RowKit

/-- Behind the copy: what lies where, and stays while the call makes its own numbers. -/
structure JW (w : World) (bl : Nat) (bA : Option Addr) (bn bc : Nat) (lb : List Nat) (G : Nat) (low : Nat) (A2 : Option Addr) (n c2 : Nat) (la : List Nat) (W : World) : Prop where
  arg : LiesS W (w.heap.size + 1) bl bA bn bc
  res : Row W (w.heap.size + 1 + 1) 25 [.int .u64 0, .slice none 0 0] (0, 0)
  out : LiesS W G low A2 n c2
  ra : RN W A2 la
  rb : RN W bA lb
  below : Below w.heap.size w W
  up : w.heap.size + 1 + 1 < G

theorem JW.keep {w W wr : World} {bl bn bc G low n c2 : Nat} {bA A2 : Option Addr} {la lb : List Nat} (h : JW w bl bA bn bc lb G low A2 n c2 la W) (hk : Keep W wr) : JW w bl bA bn bc lb G low A2 n c2 la wr :=
  ⟨h.arg.keep hk, Row.below h.res hk h.res.lt, h.out.keep hk, h.ra.keep hk, h.rb.keep hk, h.below.trans (hk.mono h.below.size), h.up⟩

/-- Behind the last append: the set that is told lies in the third block. -/
theorem JW.end {w W w5 : World} {bl bn bc G low n c2 : Nat} {bA A2 : Option Addr} {la lb L : List Nat} {v5 : Value} (h : JW w bl bA bn bc lb G low A2 n c2 la W) (hm : Made W L v5 w5) :
    ∃ A5 c5, v5 = .slice A5 L.length c5 ∧ w5.cell? ⟨G, 0, none⟩ = some (.int .u64 (low : Int)) ∧ w5.cell? ⟨G, 1, none⟩ = some (.slice A2 n c2) ∧ w5.frozen? ⟨G, 1, none⟩ = false ∧
      Hid (Made w L v5 (w5.setCell ⟨G, 1, none⟩ v5) ∧ Row (w5.setCell ⟨G, 1, none⟩ v5) G 25 [.int .u64 (low : Int), v5] (0, 0) ∧ Row (w5.setCell ⟨G, 1, none⟩ v5) (w.heap.size + 1 + 1) 25 [.int .u64 0, .slice none 0 0] (0, 0)) := by
  obtain ⟨A5, c5, rfl, _⟩ := hm.own
  have h5 := h.keep hm.2
  refine ⟨A5, c5, rfl, h5.out.c0, h5.out.c1, Row.loose h5.out 1, Lib.hid ⟨(hm.from h.below).setCell h5.out (by have := h.up; omega) 1 _, Row.put h5.out 1 _, Row.far h5.res (by show w.heap.size + 1 + 1 ≠ G; have := h.up; omega) _⟩⟩

set_option maxRecDepth 100000 in
set_option maxHeartbeats 4000000 in
theorem rjoin_any (x y : LV) (w : World) (hx : x.In w) (hy : y.In w) (hn : x.n ≤ 1100) (hn2 : y.n ≤ 1100) :
    Calls Try.prog 26 #[x.v, y.v] w (Told w ((x.s.joinS y.s).orZ (x.s.joinE y.s)) (x.s.joinE y.s)) := by
  obtain ⟨i0, hi0, hz0, hz1, hz2⟩ := Try.info64
  have HX := Lib.hid (fun w (h : x.In w) => rright_any x w h (by omega))
  have HY := Lib.hid (fun w (h : y.In w) => rright_any y w h (by omega))
  have HC := Lib.hid (fun w (h : x.In w) => rcopy_any x w h (by omega))
  have HI := Lib.hid (((hx.alloc (.cells #[.int .u64 (x.low : Int), .slice x.A x.n x.c] 25)).alloc (.cells #[.int .u64 (y.low : Int), .slice y.A y.n y.c] 25)).alloc (.cells #[.int .u64 0, .slice none 0 0] 25))
  have HJ := Lib.hid (((hy.alloc (.cells #[.int .u64 (x.low : Int), .slice x.A x.n x.c] 25)).alloc (.cells #[.int .u64 (y.low : Int), .slice y.A y.n y.c] 25)).alloc (.cells #[.int .u64 0, .slice none 0 0] 25))
  have HE := Lib.hid (show x.s.joinE y.s = if x.s.right && y.s.right then (if x.low = y.low then (if (joinL x.l y.l).length ≤ 1000 then 0 else 6) else 9) else 40 from rfl)
  have HZ := Lib.hid (show (x.s.joinS y.s).orZ (x.s.joinE y.s) = if x.s.joinE y.s = 0 then ⟨x.low, joinL x.l y.l⟩ else LS.zero from rfl)
  obtain ⟨Z, hZ⟩ : ∃ Z, (x.s.joinS y.s).orZ (x.s.joinE y.s) = Z := ⟨_, rfl⟩
  obtain ⟨E, hE⟩ : ∃ E, x.s.joinE y.s = E := ⟨_, rfl⟩
  rw [hZ] at HZ ⊢
  rw [hE] at HE HZ ⊢
  clear hZ hE
  have HRX := Lib.hid (LS.right_iff x.s)
  have HRY := Lib.hid (LS.right_iff y.s)
  obtain ⟨R1, hR1⟩ : ∃ b, x.s.right = b := ⟨_, rfl⟩
  obtain ⟨R2, hR2⟩ : ∃ b, y.s.right = b := ⟨_, rfl⟩
  rw [hR1] at HX HE HRX
  rw [hR2] at HY HE HRY
  clear hR1 hR2
  obtain ⟨low, A, n, c, la⟩ := x
  obtain ⟨bl, bA, bn, bc, lb⟩ := y
  obtain ⟨hl, hc, hnil, HR⟩ := hx.parts
  obtain ⟨hl2, hc2, hnil2, HR2⟩ := hy.parts
  clear hx hy
  subst hl hl2
  simp only [LV.v, LV.s] at hn hn2 HI HJ HX HY HC HE HZ HRX HRY ⊢
  have HB0 := Lib.hid (show Below w.heap.size w (((w.alloc (.cells #[.int .u64 (low : Int), .slice A la.length c] 25)).alloc (.cells #[.int .u64 (bl : Int), .slice bA lb.length bc] 25)).alloc (.cells #[.int .u64 0, .slice none 0 0] 25)) from
    ((below_new w _).alloc (by rw [size_new]; omega) _).alloc (by rw [size_new, size_new]; omega) _)
  have HA0 := Lib.hid (Row.alloc (Row.alloc (LiesS.new w low A la.length c) (.cells #[.int .u64 (bl : Int), .slice bA lb.length bc] 25)) (.cells #[.int .u64 0, .slice none 0 0] 25))
  have hb0 := Row.alloc (LiesS.new (w.alloc (.cells #[.int .u64 (low : Int), .slice A la.length c] 25)) bl bA lb.length bc) (.cells #[.int .u64 0, .slice none 0 0] 25)
  have hr0 := Row.new ((w.alloc (.cells #[.int .u64 (low : Int), .slice A la.length c] 25)).alloc (.cells #[.int .u64 (bl : Int), .slice bA lb.length bc] 25)) 25 [.int .u64 0, .slice none 0 0] (0, 0)
  rw [size_new] at hb0
  rw [size_new, size_new] at hr0
  have HBB := Lib.hid hb0
  have HR0 := Lib.hid hr0
  clear hb0 hr0 hnil hnil2
  go_enter Try.func26, Try.ntmps26
  go_wp2_with fail
  refine (HX.out _ HI.out).mono ?_
  rintro e w1 ⟨rfl, hb1⟩
  have HB1 := Lib.hid (HB0.out.trans (hb1.mono HB0.out.size))
  have HI1 := Lib.hid (HI.out.keeps hb1)
  have HJ1 := Lib.hid (HJ.out.keeps hb1)
  have HA1 := Lib.hid (LiesS.keeps HA0.out hb1)
  have HBB1 := Lib.hid (LiesS.keeps HBB.out hb1)
  have HR1 := Lib.hid (Row.below HR0.out hb1 HR0.out.lt)
  clear hb1 HB0 HI HJ HA0 HBB HR0 HX
  cases R1
  · have r0 : w1.cell? ⟨w.heap.size + 1 + 1, 0, none⟩ = some (.int .u64 0) := by rw [HR1.out.cell]; rfl
    have r1 : w1.cell? ⟨w.heap.size + 1 + 1, 1, none⟩ = some (.slice none 0 0) := by rw [HR1.out.cell]; rfl
    have f0 := HR1.out.loose 0
    have f1 := HR1.out.loose 1
    go_wp2
    obtain ⟨hr, ht⟩ := told_zero HR1.out (by omega) HB1.out 40
    have k0 := hr.cell 0
    have k1 := hr.cell 1
    simp at k0 k1
    have e1 : E = 40 := HE.out
    have e2 : Z = LS.zero := by have := HZ.out; rw [e1] at this; exact this
    refine bodyPost_ret (v := .tuple #[.agg #[.int .u64 0, .slice none 0 0], .int .i64 40]) ?_ rfl (by rw [e1, e2]; exact ht)
    simp [results, Try.results26, go_sem, k0, k1]
  · have d0 := HBB1.out.c0
    have d1 := HBB1.out.c1
    go_wp2_with fail
    clear d0 d1
    refine (HY.out _ HJ1.out).mono ?_
    rintro e w2 ⟨rfl, hb2⟩
    have HB2 := Lib.hid (HB1.out.trans (hb2.mono HB1.out.size))
    have HI2 := Lib.hid (HI1.out.keeps hb2)
    have HJ2 := Lib.hid (HJ1.out.keeps hb2)
    have HA2 := Lib.hid (LiesS.keeps HA1.out hb2)
    have HBB2 := Lib.hid (LiesS.keeps HBB1.out hb2)
    have HR2' := Lib.hid (Row.below HR1.out hb2 HR1.out.lt)
    clear hb2 HB1 HI1 HJ1 HA1 HBB1 HR1 HY
    have c0 := HA2.out.c0
    have c1 := HA2.out.c1
    have d0 := HBB2.out.c0
    have r0 : w2.cell? ⟨w.heap.size + 1 + 1, 0, none⟩ = some (.int .u64 0) := by rw [HR2'.out.cell]; rfl
    have r1 : w2.cell? ⟨w.heap.size + 1 + 1, 1, none⟩ = some (.slice none 0 0) := by rw [HR2'.out.cell]; rfl
    have f0 := HR2'.out.loose 0
    have f1 := HR2'.out.loose 1
    cases R2
    · go_wp2
      obtain ⟨hr, ht⟩ := told_zero HR2'.out (by omega) HB2.out 40
      have k0 := hr.cell 0
      have k1 := hr.cell 1
      simp at k0 k1
      have e1 : E = 40 := HE.out
      have e2 : Z = LS.zero := by have := HZ.out; rw [e1] at this; exact this
      refine bodyPost_ret (v := .tuple #[.agg #[.int .u64 0, .slice none 0 0], .int .i64 40]) ?_ rfl (by rw [e1, e2]; exact ht)
      simp [results, Try.results26, go_sem, k0, k1]
    · have HE2 := Lib.hid (show E = if low = bl then (if (joinL la lb).length ≤ 1000 then 0 else 6) else 9 from HE.out)
      clear HE
      by_cases hlow : low = bl
      · have HE := Lib.hid (show E = if (joinL la lb).length ≤ 1000 then 0 else 6 by have := HE2.out; rwa [if_pos hlow] at this)
        have HASA := Lib.hid (HRX.out.1 trivial)
        have HASB := Lib.hid (show lb.length ≤ 1000 ∧ asc low lb = true by have := HRY.out.1 rfl; rw [hlow]; exact this)
        subst hlow
        clear HE2 HRX HRY
        go_wp2_with fail
        refine (HC.out _ HI2.out).mono ?_
        rintro e w3 ⟨v, rfl, hm⟩
        obtain ⟨A2, c2, rfl, hcc2, hn0, ho2, hb3⟩ := hm.own
        obtain ⟨W, hW⟩ : ∃ W, w3.alloc (.cells #[.int .u64 (low : Int), .slice A2 la.length c2] 25) = W := ⟨_, rfl⟩
        have HW := Lib.hid (show JW w low bA lb.length bc lb w3.heap.size low A2 la.length c2 la W from by
          rw [← hW]
          exact ⟨(HBB2.out.keeps hb3).keeps (below_new _ _), (Row.below HR2'.out hb3 HR2'.out.lt).alloc _, LiesS.new w3 low A2 la.length c2, ho2.reads.alloc _, (((HJ2.out.keeps hb3).reads)).alloc _, (HB2.out.trans (hb3.mono HB2.out.size)).alloc (HB2.out.trans (hb3.mono HB2.out.size)).size _, by have := HR2'.out.lt; have := hb3.size; omega⟩)
        clear hm ho2 hb3 HB2 HI2 HJ2 HA2 HBB2 HR2' HC
        clear c0 c1 d0 r0 r1 f0 f1
        have HN0 := Lib.hid hn0
        clear hn0
        go_wp2_with fail
        clear hW
        go_loopw [7, 8, 9] (fun vi vn vk wr => ∃ (k i : Nat) (v : Value) (inn : List Nat), k ≤ lb.length ∧ vk = .int .i64 k ∧ vi = .int .i64 i ∧ vn = v ∧ Made W inn v wr ∧ JJ low la lb i k inn) (fun _ _ vk _ => lb.length - (intOf vk).toNat)
        case atStart => exact ⟨0, 0, _, [], by omega, rfl, rfl, rfl, Made.nil W W (Below.refl _ _), JJ.start HASA.out.2⟩
        case round =>
          obtain ⟨k, i, v, inn, hk, rfl, rfl, rfl, hmd, hjj⟩ := hrel
          have HMD := Lib.hid hmd
          have HJJ := Lib.hid hjj
          have HWR := Lib.hid (HW.out.keep hmd.2)
          have d1 := HWR.out.arg.c1
          clear hmd hjj
          by_cases hlk : k < lb.length
          · obtain ⟨gb, offb, rfl, hcb⟩ := HW.out.rb.cells (by omega)
            have HCB := Lib.hid hcb
            obtain ⟨y2, hy2⟩ : ∃ y, lb[k] = y := ⟨_, rfl⟩
            have HY2 := Lib.hid hy2
            clear hcb hy2
            go_wp2_with fail
            clear d1
            go_loopw [7, 8] (fun vi vn wr => ∃ (i : Nat) (v : Value) (inn : List Nat), vi = .int .i64 i ∧ vn = v ∧ Made W inn v wr ∧ JJ low la lb i k inn) (fun vi _ _ => la.length - (intOf vi).toNat)
            case atStart => exact ⟨i, _, inn, rfl, rfl, HMD.out, HJJ.out⟩
            case round =>
              clear HMD HJJ HWR
              obtain ⟨i, v, inn, rfl, rfl, hmd, hjj⟩ := hrel
              have HMD := Lib.hid hmd
              have HJJ := Lib.hid hjj
              have HLEN := Lib.hid (show inn.length ≤ 2000 by have := hjj.len; have := hjj.le; have := HASA.out.1; have := HASB.out.1; omega)
              have HWR := Lib.hid (HW.out.keep hmd.2)
              obtain ⟨A4, c4, rfl, _⟩ := hmd.own
              have d1 := HWR.out.arg.c1
              have t1 := HWR.out.out.c1
              have hb2 := HWR.out.rb
              have hk2 : wr.cell? ⟨gb, offb + k, none⟩ = some (.int .u64 (y2 : Int)) := by
                obtain ⟨g', off', hg', hcell⟩ := hb2.cells (by omega)
                simp only [Option.some.injEq, Addr.mk.injEq, and_true] at hg'
                obtain ⟨rfl, rfl⟩ := hg'
                rw [hcell k hlk, HY2.out]
              clear hb2 hmd
              have hile := hjj.le
              clear hjj
              by_cases hli : i < la.length
              · obtain ⟨ga, offa, rfl, hca⟩ := HWR.out.ra.cells (by omega)
                have hk1 := hca i hli
                obtain ⟨y1, hy1⟩ : ∃ y, la[i] = y := ⟨_, rfl⟩
                rw [hy1] at hk1
                have HY1 := Lib.hid hy1
                clear hca hy1
                by_cases e1 : y1 < y2
                · have HS := Lib.hid (HJJ.out.step HASB.out.2 hli hlk (by rw [HY1.out, HY2.out]; exact e1))
                  rw [HY1.out] at HS
                  go_wp2_with (first | (at_builtin; refine wpList_own_nums rfl (.tmp 52) (.tmp 58) 23 rfl W.heap.size 22 i0 Try.underlying23 hi0 hz0 hz1 hz2 (.slice A4 inn.length c4) inn.length _ rfl ((HMD.out.drewN _).keepRow _).1 _ [y1] 1 1 rfl rfl (rn_one _ y1) (fun e => by cases e) (by have := HLEN.out; omega) ((HMD.out.drewN _).keepRow _).2.size ?_) | (go_quiet (fail)))
                  intro v5 w5 hown hgr
                  have HM5 := Lib.hid (((HMD.out.drewN _).keepRow _).more (l' := [y1]) (m := 1) rfl hown hgr)
                  clear hown hgr
                  go_wp2
                  go_round
                  case rel => exact ⟨i + 1, _, _, by go_num, rfl, HM5.out, HS.out⟩
                  case measure => simp [intOf]; omega
                · have hd : decide ((y1 : Int) < (y2 : Int)) = false := decide_eq_false (by omega)
                  by_cases e2 : y1 = y2
                  · subst e2
                    have HP := Lib.hid (HJJ.out.put HASB.out.2 hlk (.inl ⟨hli, by rw [HY1.out, HY2.out], rfl⟩))
                    rw [HY2.out] at HP
                    go_wp2_with (first | (at_builtin; refine wpList_own_nums rfl (.tmp 82) (.tmp 88) 23 rfl W.heap.size 22 i0 Try.underlying23 hi0 hz0 hz1 hz2 (.slice A4 inn.length c4) inn.length _ rfl ((HMD.out.drewN _).keepRow _).1 _ [y1] 1 1 rfl rfl (rn_one _ y1) (fun e => by cases e) (by have := HLEN.out; omega) ((HMD.out.drewN _).keepRow _).2.size ?_) | (go_quiet (fail)))
                    intro v5 w5 hown hgr
                    have HM5 := Lib.hid (((HMD.out.drewN _).keepRow _).more (l' := [y1]) (m := 1) rfl hown hgr)
                    clear hown hgr
                    go_wp2
                    go_round
                    case rel => exact ⟨k + 1, i + 1, _, _, by omega, by go_num, by first | rfl | go_num, rfl, HM5.out, HP.out⟩
                    case measure => simp [intOf]; omega
                  · have e3 : ¬ ((y1 : Int) = (y2 : Int)) := by omega
                    have HP := Lib.hid (HJJ.out.put (i' := i) HASB.out.2 hlk (.inr ⟨fun _ => by rw [HY1.out, HY2.out]; omega, rfl⟩))
                    rw [HY2.out] at HP
                    go_wp2_with (first | (at_builtin; refine wpList_own_nums rfl (.tmp 82) (.tmp 88) 23 rfl W.heap.size 22 i0 Try.underlying23 hi0 hz0 hz1 hz2 (.slice A4 inn.length c4) inn.length _ rfl ((HMD.out.drewN _).keepRow _).1 _ [y2] 1 1 rfl rfl (rn_one _ y2) (fun e => by cases e) (by have := HLEN.out; omega) ((HMD.out.drewN _).keepRow _).2.size ?_) | (go_quiet (fail)))
                    intro v5 w5 hown hgr
                    have HM5 := Lib.hid (((HMD.out.drewN _).keepRow _).more (l' := [y2]) (m := 1) rfl hown hgr)
                    clear hown hgr
                    go_wp2
                    go_round
                    case rel => exact ⟨k + 1, i, _, _, by omega, by go_num, by first | rfl | go_num, rfl, HM5.out, HP.out⟩
                    case measure => simp [intOf]; omega
              · have hli2 : decide ((i : Int) < (la.length : Int)) = false := decide_eq_false (by omega)
                have HP := Lib.hid (HJJ.out.put (i' := i) HASB.out.2 hlk (.inr ⟨fun h => absurd h hli, rfl⟩))
                rw [HY2.out] at HP
                go_wp2_with (first | (at_builtin; refine wpList_own_nums rfl (.tmp 82) (.tmp 88) 23 rfl W.heap.size 22 i0 Try.underlying23 hi0 hz0 hz1 hz2 (.slice A4 inn.length c4) inn.length _ rfl ((HMD.out.drewN _).keepRow _).1 _ [y2] 1 1 rfl rfl (rn_one _ y2) (fun e => by cases e) (by have := HLEN.out; omega) ((HMD.out.drewN _).keepRow _).2.size ?_) | (go_quiet (fail)))
                intro v5 w5 hown hgr
                have HM5 := Lib.hid (((HMD.out.drewN _).keepRow _).more (l' := [y2]) (m := 1) rfl hown hgr)
                clear hown hgr
                go_wp2
                go_round
                case rel => exact ⟨k + 1, i, _, _, by omega, by go_num, by first | rfl | go_num, rfl, HM5.out, HP.out⟩
                case measure => simp [intOf]; omega
          · have HD := Lib.hid (HJJ.out.done (by omega) HASA.out.2 HASB.out.2)
            have HLEN := Lib.hid (show inn.length ≤ 2000 by have := HJJ.out.len; have := HJJ.out.le; have := HASA.out.1; have := HASB.out.1; omega)
            have hile := HJJ.out.le
            obtain ⟨A4, c4, rfl, _⟩ := HMD.out.own
            have t1 := HWR.out.out.c1
            have t0 := HWR.out.out.c0
            cases A2 with
            | none =>
              obtain rfl := HN0.out rfl
              obtain rfl : la = [] := List.eq_nil_of_length_eq_zero (by omega)
              obtain rfl : i = 0 := by simpa using hile
              have HDN := Lib.hid (show inn ++ ([] : List Nat) = joinL [] lb from HD.out)
              have HSRC := Lib.hid (show RN wr none ([] : List Nat) from RN.nil)
              go_wp2_with (at_builtin; refine wpList_own_nums rfl (.tmp 90) (.tmp 94) 23 rfl W.heap.size 22 i0 Try.underlying23 hi0 hz0 hz1 hz2 (.slice A4 inn.length c4) inn.length _ rfl HMD.out.1 none (([] : List Nat)) (0) (0) rfl rfl HSRC.out (fun _ => rfl) (by have := HLEN.out; have := HASA.out.1; omega) HMD.out.2.size ?_)
              intro v5 w5 hown hgr
              have hm5 := HMD.out.more (l' := ([] : List Nat)) rfl hown hgr
              rw [HDN.out] at hm5
              clear hown hgr
              obtain ⟨A5, c5, rfl, s0, s1, g5, HF⟩ := HW.out.end hm5
              clear hm5 d1 t1 t0
              have q1 : (w5.setCell ⟨w3.heap.size, 1, none⟩ (.slice A5 (joinL [] lb).length c5)).cell? ⟨w3.heap.size, 1, none⟩ = some (.slice A5 (joinL [] lb).length c5) := by rw [HF.out.2.1.cell]; rfl
              have q0 : (w5.setCell ⟨w3.heap.size, 1, none⟩ (.slice A5 (joinL [] lb).length c5)).cell? ⟨w3.heap.size, 0, none⟩ = some (.int .u64 (low : Int)) := by rw [HF.out.2.1.cell]; rfl
              have r0 : (w5.setCell ⟨w3.heap.size, 1, none⟩ (.slice A5 (joinL [] lb).length c5)).cell? ⟨w.heap.size + 1 + 1, 0, none⟩ = some (.int .u64 0) := by rw [HF.out.2.2.cell]; rfl
              have r1 : (w5.setCell ⟨w3.heap.size, 1, none⟩ (.slice A5 (joinL [] lb).length c5)).cell? ⟨w.heap.size + 1 + 1, 1, none⟩ = some (.slice none 0 0) := by rw [HF.out.2.2.cell]; rfl
              have f0 := HF.out.2.2.loose 0
              have f1 := HF.out.2.2.loose 1
              obtain ⟨w6, hw6⟩ : ∃ w6, w5.setCell ⟨w3.heap.size, 1, none⟩ (.slice A5 (joinL [] lb).length c5) = w6 := ⟨_, rfl⟩
              rw [hw6] at q1 q0 r0 r1 f0 f1 HF
              obtain ⟨J, hJ⟩ : ∃ J, joinL [] lb = J := ⟨_, rfl⟩
              rw [hJ] at HE HF HZ hw6 q1 ⊢
              by_cases hJn : J.length ≤ 1000
              · have e1 : E = 0 := by have := HE.out; rwa [if_pos hJn] at this
                have e2 : Z = ⟨low, J⟩ := by have := HZ.out; rwa [if_pos e1] at this
                have HEE := Lib.hid e1
                have HZZ := Lib.hid e2
                clear e1 e2 HE HZ
                go_wp2
                obtain ⟨hr, hm⟩ := HF.out.1.laid HF.out.2.2 (by omega) (.int .u64 (low : Int)) (.slice A5 J.length c5)
                have k0 := hr.cell 0
                have k1 := hr.cell 1
                simp at k0 k1
                refine bodyPost_ret (v := .tuple #[.agg #[.int .u64 (low : Int), .slice A5 J.length c5], .int .i64 0]) ?_ rfl (by rw [HEE.out, HZZ.out]; exact ⟨_, rfl, hm⟩)
                simp [results, Try.results26, go_sem, k0, k1]
              · have e1 : E = 6 := by have := HE.out; rwa [if_neg hJn] at this
                have e2 : Z = LS.zero := by have := HZ.out; rw [e1] at this; exact this
                have HEE := Lib.hid e1
                have HZZ := Lib.hid e2
                clear e1 e2 HE HZ
                go_wp2
                obtain ⟨hr, ht⟩ := told_zero HF.out.2.2 (by omega) HF.out.1.2 6
                have k0 := hr.cell 0
                have k1 := hr.cell 1
                simp at k0 k1
                refine bodyPost_ret (v := .tuple #[.agg #[.int .u64 0, .slice none 0 0], .int .i64 6]) ?_ rfl (by rw [HEE.out, HZZ.out]; exact ht)
                simp [results, Try.results26, go_sem, k0, k1]
            | some a =>
              have hb1 : (i : Int) ≤ (la.length : Int) := by omega
              by_cases hb2 : c2 = i
              · have hi3 : i = la.length := by omega
                have HSRC := Lib.hid (show RN wr (some a) (la.drop i) by rw [List.drop_eq_nil_of_le (by omega)]; exact RN.nil)
                clear hi3
                go_wp2_with (at_builtin; refine wpList_own_nums rfl (.tmp 90) (.tmp 94) 23 rfl W.heap.size 22 i0 Try.underlying23 hi0 hz0 hz1 hz2 (.slice A4 inn.length c4) inn.length _ rfl HMD.out.1 (some a) (la.drop i) (la.length - i) (0) rfl (by rw [List.length_drop]) HSRC.out (fun e => by first | cases e | rfl) (by have := HLEN.out; have := HASA.out.1; omega) HMD.out.2.size ?_)
                intro v5 w5 hown hgr
                have hm5 := HMD.out.more (l' := la.drop i) (by rw [List.length_drop]) hown hgr
                rw [HD.out] at hm5
                clear hown hgr
                obtain ⟨A5, c5, rfl, s0, s1, g5, HF⟩ := HW.out.end hm5
                clear hm5 d1 t1 t0
                have q1 : (w5.setCell ⟨w3.heap.size, 1, none⟩ (.slice A5 (joinL la lb).length c5)).cell? ⟨w3.heap.size, 1, none⟩ = some (.slice A5 (joinL la lb).length c5) := by rw [HF.out.2.1.cell]; rfl
                have q0 : (w5.setCell ⟨w3.heap.size, 1, none⟩ (.slice A5 (joinL la lb).length c5)).cell? ⟨w3.heap.size, 0, none⟩ = some (.int .u64 (low : Int)) := by rw [HF.out.2.1.cell]; rfl
                have r0 : (w5.setCell ⟨w3.heap.size, 1, none⟩ (.slice A5 (joinL la lb).length c5)).cell? ⟨w.heap.size + 1 + 1, 0, none⟩ = some (.int .u64 0) := by rw [HF.out.2.2.cell]; rfl
                have r1 : (w5.setCell ⟨w3.heap.size, 1, none⟩ (.slice A5 (joinL la lb).length c5)).cell? ⟨w.heap.size + 1 + 1, 1, none⟩ = some (.slice none 0 0) := by rw [HF.out.2.2.cell]; rfl
                have f0 := HF.out.2.2.loose 0
                have f1 := HF.out.2.2.loose 1
                obtain ⟨w6, hw6⟩ : ∃ w6, w5.setCell ⟨w3.heap.size, 1, none⟩ (.slice A5 (joinL la lb).length c5) = w6 := ⟨_, rfl⟩
                rw [hw6] at q1 q0 r0 r1 f0 f1 HF
                obtain ⟨J, hJ⟩ : ∃ J, joinL la lb = J := ⟨_, rfl⟩
                rw [hJ] at HE HF HZ hw6 q1 ⊢
                by_cases hJn : J.length ≤ 1000
                · have e1 : E = 0 := by have := HE.out; rwa [if_pos hJn] at this
                  have e2 : Z = ⟨low, J⟩ := by have := HZ.out; rwa [if_pos e1] at this
                  have HEE := Lib.hid e1
                  have HZZ := Lib.hid e2
                  clear e1 e2 HE HZ
                  go_wp2
                  obtain ⟨hr, hm⟩ := HF.out.1.laid HF.out.2.2 (by omega) (.int .u64 (low : Int)) (.slice A5 J.length c5)
                  have k0 := hr.cell 0
                  have k1 := hr.cell 1
                  simp at k0 k1
                  refine bodyPost_ret (v := .tuple #[.agg #[.int .u64 (low : Int), .slice A5 J.length c5], .int .i64 0]) ?_ rfl (by rw [HEE.out, HZZ.out]; exact ⟨_, rfl, hm⟩)
                  simp [results, Try.results26, go_sem, k0, k1]
                · have e1 : E = 6 := by have := HE.out; rwa [if_neg hJn] at this
                  have e2 : Z = LS.zero := by have := HZ.out; rw [e1] at this; exact this
                  have HEE := Lib.hid e1
                  have HZZ := Lib.hid e2
                  clear e1 e2 HE HZ
                  go_wp2
                  obtain ⟨hr, ht⟩ := told_zero HF.out.2.2 (by omega) HF.out.1.2 6
                  have k0 := hr.cell 0
                  have k1 := hr.cell 1
                  simp at k0 k1
                  refine bodyPost_ret (v := .tuple #[.agg #[.int .u64 0, .slice none 0 0], .int .i64 6]) ?_ rfl (by rw [HEE.out, HZZ.out]; exact ht)
                  simp [results, Try.results26, go_sem, k0, k1]
              · have HSRC := Lib.hid (show RN wr (some (a.add i)) (la.drop i) by
                  have := HWR.out.ra.drop i c2 hcc2
                  rwa [if_neg hb2, Option.map_some] at this)
                go_wp2_with (at_builtin; refine wpList_own_nums rfl (.tmp 90) (.tmp 94) 23 rfl W.heap.size 22 i0 Try.underlying23 hi0 hz0 hz1 hz2 (.slice A4 inn.length c4) inn.length _ rfl HMD.out.1 (some (a.add i)) (la.drop i) (la.length - i) (c2 - i) rfl (by rw [List.length_drop]) HSRC.out (fun e => by first | cases e | rfl) (by have := HLEN.out; have := HASA.out.1; omega) HMD.out.2.size ?_)
                intro v5 w5 hown hgr
                have hm5 := HMD.out.more (l' := la.drop i) (by rw [List.length_drop]) hown hgr
                rw [HD.out] at hm5
                clear hown hgr
                obtain ⟨A5, c5, rfl, s0, s1, g5, HF⟩ := HW.out.end hm5
                clear hm5 d1 t1 t0
                have q1 : (w5.setCell ⟨w3.heap.size, 1, none⟩ (.slice A5 (joinL la lb).length c5)).cell? ⟨w3.heap.size, 1, none⟩ = some (.slice A5 (joinL la lb).length c5) := by rw [HF.out.2.1.cell]; rfl
                have q0 : (w5.setCell ⟨w3.heap.size, 1, none⟩ (.slice A5 (joinL la lb).length c5)).cell? ⟨w3.heap.size, 0, none⟩ = some (.int .u64 (low : Int)) := by rw [HF.out.2.1.cell]; rfl
                have r0 : (w5.setCell ⟨w3.heap.size, 1, none⟩ (.slice A5 (joinL la lb).length c5)).cell? ⟨w.heap.size + 1 + 1, 0, none⟩ = some (.int .u64 0) := by rw [HF.out.2.2.cell]; rfl
                have r1 : (w5.setCell ⟨w3.heap.size, 1, none⟩ (.slice A5 (joinL la lb).length c5)).cell? ⟨w.heap.size + 1 + 1, 1, none⟩ = some (.slice none 0 0) := by rw [HF.out.2.2.cell]; rfl
                have f0 := HF.out.2.2.loose 0
                have f1 := HF.out.2.2.loose 1
                obtain ⟨w6, hw6⟩ : ∃ w6, w5.setCell ⟨w3.heap.size, 1, none⟩ (.slice A5 (joinL la lb).length c5) = w6 := ⟨_, rfl⟩
                rw [hw6] at q1 q0 r0 r1 f0 f1 HF
                obtain ⟨J, hJ⟩ : ∃ J, joinL la lb = J := ⟨_, rfl⟩
                rw [hJ] at HE HF HZ hw6 q1 ⊢
                by_cases hJn : J.length ≤ 1000
                · have e1 : E = 0 := by have := HE.out; rwa [if_pos hJn] at this
                  have e2 : Z = ⟨low, J⟩ := by have := HZ.out; rwa [if_pos e1] at this
                  have HEE := Lib.hid e1
                  have HZZ := Lib.hid e2
                  clear e1 e2 HE HZ
                  go_wp2
                  obtain ⟨hr, hm⟩ := HF.out.1.laid HF.out.2.2 (by omega) (.int .u64 (low : Int)) (.slice A5 J.length c5)
                  have k0 := hr.cell 0
                  have k1 := hr.cell 1
                  simp at k0 k1
                  refine bodyPost_ret (v := .tuple #[.agg #[.int .u64 (low : Int), .slice A5 J.length c5], .int .i64 0]) ?_ rfl (by rw [HEE.out, HZZ.out]; exact ⟨_, rfl, hm⟩)
                  simp [results, Try.results26, go_sem, k0, k1]
                · have e1 : E = 6 := by have := HE.out; rwa [if_neg hJn] at this
                  have e2 : Z = LS.zero := by have := HZ.out; rw [e1] at this; exact this
                  have HEE := Lib.hid e1
                  have HZZ := Lib.hid e2
                  clear e1 e2 HE HZ
                  go_wp2
                  obtain ⟨hr, ht⟩ := told_zero HF.out.2.2 (by omega) HF.out.1.2 6
                  have k0 := hr.cell 0
                  have k1 := hr.cell 1
                  simp at k0 k1
                  refine bodyPost_ret (v := .tuple #[.agg #[.int .u64 0, .slice none 0 0], .int .i64 6]) ?_ rfl (by rw [HEE.out, HZZ.out]; exact ht)
                  simp [results, Try.results26, go_sem, k0, k1]
      · have e1 : E = 9 := by have := HE2.out; rwa [if_neg hlow] at this
        have e2 : Z = LS.zero := by have := HZ.out; rw [e1] at this; exact this
        have hlow2 : ¬ ((low : Int) = (bl : Int)) := by omega
        go_wp2
        obtain ⟨hr, ht⟩ := told_zero HR2'.out (by omega) HB2.out 9
        have k0 := hr.cell 0
        have k1 := hr.cell 1
        simp at k0 k1
        refine bodyPost_ret (v := .tuple #[.agg #[.int .u64 0, .slice none 0 0], .int .i64 9]) ?_ rfl (by rw [e1, e2]; exact ht)
        simp [results, Try.results26, go_sem, k0, k1]

end Go.Proofs.Ytkcjhkhdpafjhaa
