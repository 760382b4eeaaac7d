/-
  The walk of LsnsBytes.
-/
import Derived.Test.YtpjgmblhlhnniaaLsnsRefG
import Derived.Test.YtpjgmblhlhnniaaLsnsHeld
import Derived.Test.YtpjgmblhlhnniaaLsnsHead
namespace Go.Proofs.Ytpjgmblhlhnniaa
open Go.RowKit

theorem GotG.parts {w wr : World} {y : LS} {k e : Nat} {r : Ending} (h : GotG w y k e r wr) : ∃ Y : LV, r = .returned (.tuple #[.agg #[.int .u64 (Y.low : Int), .slice Y.A Y.n Y.c], .int .i64 (k : Int), .int .i64 (e : Int)]) ∧ Hid (Y.s = y) ∧ Hid (Y.In wr) ∧ Hid (Below w.heap.size w wr) :=
  have ⟨Y, h1, h2, h3, h4⟩ := h
  ⟨Y, h1, Lib.hid h2, Lib.hid h3, Lib.hid h4⟩

set_option maxRecDepth 100000 in
set_option maxHeartbeats 3000000 in
theorem bytes_law {T : TypeId} (x : LV) (A : Option Addr) (n c : Nat) (bl : List UInt8) (w : World) (h : x.In w) (hn : x.n ≤ 9223372036854775807) (hl : bl.length = n) (hr : Reads T w A bl) (hc : n ≤ c) (hnil : A = none → c = 0) :
    Calls Try.prog 7 #[.agg #[.int .u64 (x.low : Int), .slice x.A x.n x.c], .slice A n c] w fun r w' => r = .returned (.bool true) ∧ Below w.heap.size w w' := by
  obtain ⟨i0, hi0, hz0, hz1, hz2⟩ := info_parts Try.info_u8
  subst hl
  have HH := Lib.hid (fun w => head_any lsns_held w)
  have HGR := Lib.hid (fun w => great_any x w hn)
  have HNIL := Lib.hid hnil
  have H0 := Lib.hid (AtS.new h)
  have HB0 := Lib.hid (below_new w (.cells #[.int .u64 (x.low : Int), .slice x.A x.n x.c] 25))
  have HRD := Lib.hid (fun wx (hk : Below w.heap.size w wx) => show Reads T wx A bl from hr.below hk (Nat.le_refl _))
  clear hnil hr
  have c0 := H0.out.c0
  have c1 := H0.out.c1
  go_enter Try.func7, Try.ntmps7
  go_wp2_with fail
  clear c0 c1
  refine (HGR.out _).mono ?_
  rintro e w1 ⟨rfl, hb1⟩
  have H1 := Lib.hid (H0.out.keeps hb1)
  have HB1 := Lib.hid (HB0.out.trans (hb1.mono HB0.out.size))
  clear hb1 H0 HB0 HGR
  by_cases hg : 1100 < x.n
  · rw [decide_eq_true hg]
    go_wp2_with fail
    refine (HH.out _).mono ?_
    rintro e w2 ⟨rfl, hb2⟩
    have HB2 := Lib.hid (HB1.out.trans (hb2.mono HB1.out.size))
    clear hb2
    go_wp2
    go_ret
    exact ⟨rfl, HB2.out⟩
  · rw [decide_eq_false hg]
    by_cases hbig : 20000 < bl.length
    · have hb2 : (20000 : Int) < (bl.length : Int) := by omega
      go_wp2_with fail
      refine (HH.out _).mono ?_
      rintro e w2 ⟨rfl, hb2⟩
      have HB2 := Lib.hid (HB1.out.trans (hb2.mono HB1.out.size))
      clear hb2
      go_wp2
      go_ret
      exact ⟨rfl, HB2.out⟩
    · have hb2 : ¬ ((20000 : Int) < (bl.length : Int)) := by omega
      have hxn : x.n ≤ 1100 := by omega
      have HPA := Lib.hid (fun wx (h : x.In wx) => put_any x wx h hxn)
      have HPR := Lib.hid (fun wx (h : x.In wx) => rput_any x wx h hxn)
      have HRT := Lib.hid (fun wx (h : x.In wx) => right_any x wx h (by omega))
      have HGA := Lib.hid (fun wx (hk : Below w.heap.size w wx) => get_any A bl c wx (HRD.out wx hk) hc (by omega))
      have HGR := Lib.hid (fun wx (hk : Below w.heap.size w wx) => rget_any A bl c wx (HRD.out wx hk) hc (by omega))
      have HZB := Lib.hid (show x.s.putB = if x.s.right then x.s.bytes else [] from rfl)
      obtain ⟨Z, hZ⟩ : ∃ Z, x.s.putB = Z := ⟨_, rfl⟩
      obtain ⟨E, hE⟩ : ∃ E, x.s.putE = E := ⟨_, rfl⟩
      have HGL := Lib.hid (getS_cases bl).2.2
      obtain ⟨G, hG⟩ : ∃ G, getS bl = G := ⟨_, rfl⟩
      rw [hG] at HGL
      rw [hZ] at HPA HPR HZB
      rw [hE] at HPA HPR
      rw [hG] at HGA HGR
      clear hZ hE hG
      obtain ⟨G1, G2, G3⟩ := G
      have c0 := H1.out.c0
      have c1 := H1.out.c1
      go_wp2_with fail
      clear c0 c1
      with_reducible refine (HPA.out _ H1.out.isIn).mono ?_
      rintro e w2 ⟨Ap, cp, rfl, hpc, hpn, hpr, hb2⟩
      have H2 := Lib.hid (H1.out.keeps hb2)
      have HB2 := Lib.hid (HB1.out.trans (hb2.mono HB1.out.size))
      have HP2 := Lib.hid hpr
      have HPN := Lib.hid hpn
      clear hb2 hpr hpn H1 HB1 HPA
      have c0 := H2.out.c0
      have c1 := H2.out.c1
      go_wp2_with fail
      clear c0 c1
      with_reducible refine (HPR.out _ H2.out.isIn).mono ?_
      rintro e w3 ⟨Aq, cq, rfl, _, _, hqr, hb3⟩
      have H3 := Lib.hid (H2.out.keeps hb3)
      have HB3 := Lib.hid (HB2.out.trans (hb3.mono HB2.out.size))
      have HP3 := Lib.hid (HP2.out.below hb3 (Nat.le_refl _))
      have t1 := text_n Ap Z Z.length cp w3 rfl HP3.out
      have t2 := text_n Aq Z Z.length cq w3 rfl hqr
      clear hb3 hqr H2 HB2 HP2 HPR
      obtain ⟨sz, hsz⟩ : ∃ sz : ByteArray, ⟨Z.toArray⟩ = sz := ⟨_, rfl⟩
      rw [hsz] at t1 t2
      clear hsz
      go_wp2_with fail
      with_reducible refine (HGA.out _ HB3.out).mono ?_
      rintro e w4 hg4
      obtain ⟨Y, rfl, HS4, HI4, HB34⟩ := hg4.parts
      have HY4 := Lib.hid (AtS.new HI4.out)
      have H4 := Lib.hid ((H3.out.keeps HB34.out).alloc (.cells #[.int .u64 (Y.low : Int), .slice Y.A Y.n Y.c] 25))
      have HB4 := Lib.hid ((HB3.out.trans (HB34.out.mono HB3.out.size)).alloc (HB3.out.trans (HB34.out.mono HB3.out.size)).size (.cells #[.int .u64 (Y.low : Int), .slice Y.A Y.n Y.c] 25))
      have HP4 := Lib.hid ((HP3.out.below HB34.out (Nat.le_refl _)).below (below_new w4 (.cells #[.int .u64 (Y.low : Int), .slice Y.A Y.n Y.c] 25)) (Nat.le_refl _))
      have HYN := Lib.hid (show Y.n ≤ 1000 by
        have h1 := HI4.out.len'
        have h2 := HGL.out
        rw [← HS4.out] at h2
        have h3 : Y.s.ins.length = Y.l.length := rfl
        have h4 := HI4.out.len
        omega)
      clear hg4 HB34 HI4 H3 HB3 HP3 HGA t1 t2
      go_wp2_with fail
      with_reducible refine (HGR.out _ HB4.out).mono ?_
      rintro e w5 hg5
      obtain ⟨Y2, rfl, HS5, HI5, HB45⟩ := hg5.parts
      have HY5 := Lib.hid ((HY4.out.keeps HB45.out).alloc (.cells #[.int .u64 (Y2.low : Int), .slice Y2.A Y2.n Y2.c] 25))
      have HZ5 := Lib.hid (AtS.new HI5.out)
      have H5 := Lib.hid ((H4.out.keeps HB45.out).alloc (.cells #[.int .u64 (Y2.low : Int), .slice Y2.A Y2.n Y2.c] 25))
      have HB5 := Lib.hid ((HB4.out.trans (HB45.out.mono HB4.out.size)).alloc (HB4.out.trans (HB45.out.mono HB4.out.size)).size (.cells #[.int .u64 (Y2.low : Int), .slice Y2.A Y2.n Y2.c] 25))
      have HP5 := Lib.hid ((HP4.out.below HB45.out (Nat.le_refl _)).below (below_new w5 (.cells #[.int .u64 (Y2.low : Int), .slice Y2.A Y2.n Y2.c] 25)) (Nat.le_refl _))
      have HSM := Lib.hid (show ∀ wx, Y.In wx → Y2.In wx → Calls Try.prog 19 #[.agg #[.int .u64 (Y.low : Int), .slice Y.A Y.n Y.c], .agg #[.int .u64 (Y2.low : Int), .slice Y2.A Y2.n Y2.c]] wx fun r w' => r = .returned (.bool true) ∧ Below wx.heap.size wx w' from fun wx h1 h2 => by
        have := rsame_any Y Y2 wx h1 h2 (by have := HYN.out; omega) (by
          have h3 := h2.len
          have h4 := HGL.out
          rw [← HS5.out] at h4
          have h5 : Y2.s.ins.length = Y2.l.length := rfl
          omega)
        rwa [decide_eq_true (HS4.out.trans HS5.out.symm)] at this)
      clear hg5 HB45 HI5 HY4 H4 HB4 HP4 HGR
      obtain ⟨W5, hW5⟩ : ∃ W, w5.alloc (.cells #[.int .u64 (Y2.low : Int), .slice Y2.A Y2.n Y2.c] 25) = W := ⟨_, rfl⟩
      rw [hW5] at HY5 HZ5 H5 HB5 HP5
      have y0 := HY5.out.c0
      have y1 := HY5.out.c1
      have z0 := HZ5.out.c0
      have z1 := HZ5.out.c1
      go_wp2_with fail
      clear y0 y1 z0 z1 hW5
      with_reducible refine (HSM.out _ HY5.out.isIn HZ5.out.isIn).mono ?_
      rintro e w6 ⟨rfl, hb6⟩
      have H6 := Lib.hid (H5.out.keeps hb6)
      have HB6 := Lib.hid (HB5.out.trans (hb6.mono HB5.out.size))
      have HP6 := Lib.hid (HP5.out.below hb6 (Nat.le_refl _))
      clear hb6 HY5 HZ5 H5 HB5 HP5 HSM
      have c0 := H6.out.c0
      have c1 := H6.out.c1
      go_wp2_with fail
      clear c0 c1
      with_reducible refine (HRT.out _ H6.out.isIn).mono ?_
      rintro e w7 ⟨rfl, hb7⟩
      have H7 := Lib.hid (H6.out.keeps hb7)
      have HB7 := Lib.hid (HB6.out.trans (hb7.mono HB6.out.size))
      have HP7 := Lib.hid (HP6.out.below hb7 (Nat.le_refl _))
      clear hb7 H6 HB6 HP6 HRT
      have HLR := Lib.hid (LS.right_len (s := x.s))
      have HGB := Lib.hid (fun (hR : x.s.right = true) => getS_bytes x.s hR ⟨h.low, h.ins⟩ bl)
      obtain ⟨R, hR⟩ : ∃ R, x.s.right = R := ⟨_, rfl⟩
      rw [hR] at HZB HLR HGB ⊢
      clear hR
      cases R
      · go_wp2_with fail
        refine (HH.out _).mono ?_
        rintro e w8 ⟨rfl, hb8⟩
        have HB8 := Lib.hid (HB7.out.trans (hb8.mono HB7.out.size))
        clear hb8
        go_wp2
        go_ret
        exact ⟨rfl, HB8.out⟩
      · have hZ : Z = x.s.bytes := HZB.out
        have hgb := HGB.out (by trivial)
        have hlr := HLR.out (by trivial)
        have hzl : Z.length ≤ 8010 := by
          rw [hZ]
          show (be x.low 8 ++ be x.l.length 2 ++ x.l.flatMap (fun n => be n 8)).length ≤ 8010
          rw [List.length_append, List.length_append, be_length, be_length, flat_length]
          have : x.l.length ≤ 1000 := hlr
          omega
        rw [← hZ] at hgb
        have HZL := Lib.hid hgb
        clear hgb hZ hlr HZB HGB HLR
        have HM0 := Lib.hid (MadeB.nil w7 w7 (Below.refl _ _))
        have HB07 := Lib.hid (HRD.out w7 HB7.out)
        go_wp2_with (at_builtin; refine wpList_own_bytes (T := 5) rfl (.const (.slice none 0 0)) (.tmp 74) 44 rfl w7.heap.size 5 i0 Try.underlying44 hi0 hz0 hz1 hz2 (.slice none 0 0) 0 _ rfl HM0.out.1 Ap Z Z.length cp rfl rfl HP7.out HPN.out (by omega) (Nat.le_refl _) ?_)
        intro v8 w8 hown hgr
        have HM8 := Lib.hid (show MadeB w7 Z v8 w8 from by have := HM0.out.more (m := Z.length) rfl (by rw [List.length_nil, Nat.zero_add]; exact hown) hgr; rwa [List.nil_append] at this)
        clear hown hgr HM0
        have HB08 := Lib.hid (HB07.out.below HM8.out.2 (Nat.le_refl _))
        have HSZ8 := Lib.hid HM8.out.2.size
        go_wp2_with (at_builtin; refine wpList_own_bytes (T := T) rfl (.tmp 75) (.tmp 76) 44 rfl w7.heap.size 5 i0 Try.underlying44 hi0 hz0 hz1 hz2 v8 Z.length _ rfl HM8.out.1 A bl bl.length c rfl rfl HB08.out HNIL.out (by omega) HSZ8.out ?_)
        intro v9 w9 hown hgr
        have hm9 := HM8.out.more rfl hown hgr
        clear hown hgr
        obtain ⟨A9, c9, hv, hc9, hn9, hr9⟩ := hm9.own
        rw [List.length_append] at hv
        subst hv
        have HC9 := Lib.hid hc9
        have HR9 := Lib.hid hr9
        have HKB := Lib.hid hm9.2
        clear hm9 hc9 hn9 hr9
        have HG9 := Lib.hid (show Calls Try.prog 29 #[.slice A9 (Z.length + bl.length) c9] w9 (GotG w9 x.s Z.length 0) from by
          have := get_any A9 (Z ++ bl) c9 w9 HR9.out HC9.out (by rw [List.length_append]; omega)
          rwa [HZL.out, List.length_append] at this)
        have H9 := Lib.hid (H7.out.keeps HKB.out)
        have HB9 := Lib.hid (HB7.out.trans (HKB.out.mono HB7.out.size))
        clear HC9 HR9 HKB HM8 HB07 HB08 H7 HB7 HP7 HZL
        go_wp2_with fail
        with_reducible refine HG9.out.mono ?_
        rintro e w10 hg10
        obtain ⟨Y3, rfl, HS10, HI10, HB10⟩ := hg10.parts
        have HY10 := Lib.hid (AtS.new HI10.out)
        have H10 := Lib.hid ((H9.out.keeps HB10.out).alloc (.cells #[.int .u64 (Y3.low : Int), .slice Y3.A Y3.n Y3.c] 25))
        have HB11 := Lib.hid ((HB9.out.trans (HB10.out.mono HB9.out.size)).alloc (HB9.out.trans (HB10.out.mono HB9.out.size)).size (.cells #[.int .u64 (Y3.low : Int), .slice Y3.A Y3.n Y3.c] 25))
        have HSM := Lib.hid (show ∀ wx, Y3.In wx → x.In wx → Calls Try.prog 19 #[.agg #[.int .u64 (Y3.low : Int), .slice Y3.A Y3.n Y3.c], .agg #[.int .u64 (x.low : Int), .slice x.A x.n x.c]] wx fun r w' => r = .returned (.bool true) ∧ Below wx.heap.size wx w' from fun wx h1 h2 => by
          have := rsame_any Y3 x wx h1 h2 (by
            have h3 := h1.len
            have h4 := h2.len
            have h5 : Y3.s.ins.length = x.s.ins.length := by rw [HS10.out]
            have h6 : Y3.s.ins.length = Y3.l.length := rfl
            have h7 : x.s.ins.length = x.l.length := rfl
            omega) (by omega)
          rwa [decide_eq_true HS10.out] at this)
        clear hg10 HB10 HI10 H9 HB9 HG9
        obtain ⟨W10, hW10⟩ : ∃ W, w10.alloc (.cells #[.int .u64 (Y3.low : Int), .slice Y3.A Y3.n Y3.c] 25) = W := ⟨_, rfl⟩
        rw [hW10] at HY10 H10 HB11
        have y0 := HY10.out.c0
        have y1 := HY10.out.c1
        have c0 := H10.out.c0
        have c1 := H10.out.c1
        go_wp2_with fail
        clear y0 y1 c0 c1 hW10
        with_reducible refine (HSM.out _ HY10.out.isIn H10.out.isIn).mono ?_
        rintro e w11 ⟨rfl, hb11⟩
        have HB12 := Lib.hid (HB11.out.trans (hb11.mono HB11.out.size))
        clear hb11 HY10 H10 HB11 HSM
        go_wp2_with fail
        with_reducible refine (HH.out _).mono ?_
        rintro e w12 ⟨rfl, hb12⟩
        have HB13 := Lib.hid (HB12.out.trans (hb12.mono HB12.out.size))
        clear hb12
        go_wp2
        go_ret
        exact ⟨rfl, HB13.out⟩

end Go.Proofs.Ytpjgmblhlhnniaa
