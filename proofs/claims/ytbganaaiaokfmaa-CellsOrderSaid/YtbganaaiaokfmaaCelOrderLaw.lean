/-
  The statement's walk: CellsOrder.
-/
import Derived.Test.YtbganaaiaokfmaaCelMeansLaw
namespace Go.Proofs.Ytbganaaiaokfmaa
open Go.RowKit

set_option maxRecDepth 100000 in
set_option maxHeartbeats 4000000 in
theorem order_any (A : Option Addr) (n c : Nat) (l : List CB) (k1 v1 k2 v2 : ByteArray) (w : World) (hl : Cels w A l) (hn : l.length = n) (hnb : n ≤ 9223372036854775807) (hnc : n ≤ c) (hnil : A = none → c = 0) :
    Calls Try.prog 6 #[.slice A n c, .agg #[.string k1, .string v1], .agg #[.string k2, .string v2]] w fun e w' => e = .returned (.bool true) ∧ Below w.heap.size w w' := by
  obtain ⟨wa, hwa⟩ : ∃ o, w.alloc (.cells #[.string k1, .string v1] 38) = o := ⟨_, rfl⟩
  have HBa := Lib.hid (show Below w.heap.size w wa from hwa ▸ (Below.refl _ w).alloc (Nat.le_refl _) _)
  obtain ⟨Ba, hBa⟩ : ∃ B, w.heap.size = B := ⟨_, rfl⟩
  have HRa := Lib.hid (show Row wa Ba 38 [.string k1, .string v1] (0, 0) from hBa ▸ hwa ▸ Row.new w 38 [.string k1, .string v1] (0, 0))
  obtain ⟨w0, hw0⟩ : ∃ o, wa.alloc (.cells #[.string k2, .string v2] 38) = o := ⟨_, rfl⟩
  have HBo := Lib.hid (show Below w.heap.size w w0 from hw0 ▸ HBa.out.alloc HBa.out.size _)
  obtain ⟨Bb, hBb⟩ : ∃ B, wa.heap.size = B := ⟨_, rfl⟩
  have HRb := Lib.hid (show Row w0 Bb 38 [.string k2, .string v2] (0, 0) from hBb ▸ hw0 ▸ Row.new wa 38 [.string k2, .string v2] (0, 0))
  have HRa0 := Lib.hid (show Row w0 Ba 38 [.string k1, .string v1] (0, 0) from hw0 ▸ HRa.out.alloc _)
  replace hl : Cels w0 A l := hl.keeps HBo.out
  have HOO := Lib.hid (fun (wx : World) (hb : Below w0.heap.size w0 wx) => And.intro (And.intro (show wx.cell? ⟨Ba, 0, none⟩ = some (.string k1) by rw [(HRa0.out.below hb HRa0.out.lt).cell]; rfl) (show wx.cell? ⟨Ba, 1, none⟩ = some (.string v1) by rw [(HRa0.out.below hb HRa0.out.lt).cell]; rfl)) (And.intro (show wx.cell? ⟨Bb, 0, none⟩ = some (.string k2) by rw [(HRb.out.below hb HRb.out.lt).cell]; rfl) (show wx.cell? ⟨Bb, 1, none⟩ = some (.string v2) by rw [(HRb.out.below hb HRb.out.lt).cell]; rfl)))
  have HB0 := Lib.hid (Below.refl w0.heap.size w0)
  have HH := Lib.hid (fun wx (_ : Below w0.heap.size w0 wx) => chead_any wx)
  have HGA := Lib.hid (fun wx (hb : Below w0.heap.size w0 wx) => cgreat_any A n c l wx (hl.keeps hb) hn hnb)
  have HEND := Lib.hid (show ∀ wx, Below w0.heap.size w0 wx → Below w.heap.size w wx from fun wx hb => HBo.out.trans (hb.mono HBo.out.size))
  clear HBa HRa HRa0 HRb
  cases hga : greatB l with
  | true =>
    rw [hga] at HGA
    clear hl hn hnc hnil hga HOO
    go_enter Try.func6, Try.ntmps6
    go_wp2_with fail
    refine (HGA.out w0 HB0.out).mono ?_
    rintro e w1 ⟨rfl, hb1⟩
    have HB1 := Lib.hid (HB0.out.trans (hb1.mono HB0.out.size))
    clear hb1
    go_wp2_with fail
    refine (HH.out w1 HB1.out).mono ?_
    rintro e w2 ⟨rfl, hb2⟩
    have HB2 := Lib.hid (HB1.out.trans (hb2.mono HB1.out.size))
    clear hb2
    go_wp2_with fail
    go_ret
    exact ⟨rfl, HEND.out _ HB2.out⟩
  | false =>
    rw [hga] at HGA
    have hn5 := great_few hga
    rw [hn] at hn5
    have HRT := Lib.hid (fun wx (hb : Below w0.heap.size w0 wx) => kright_any A n c l wx (hl.keeps hb) hn (by omega))
    cases hr : rgtB (cels l) with
    | false =>
      rw [hr] at HRT
      clear hl hn hnc hnil hga HOO hr
      go_enter Try.func6, Try.ntmps6
      go_wp2_with fail
      refine (HGA.out w0 HB0.out).mono ?_
      rintro e w1 ⟨rfl, hb1⟩
      have HB1 := Lib.hid (HB0.out.trans (hb1.mono HB0.out.size))
      clear hb1
      go_wp2_with fail
      refine (HRT.out w1 HB1.out).mono ?_
      rintro e w2 ⟨rfl, hb2⟩
      have HB2 := Lib.hid (HB1.out.trans (hb2.mono HB1.out.size))
      clear hb2
      go_wp2_with fail
      refine (HH.out w2 HB2.out).mono ?_
      rintro e w3 ⟨rfl, hb3⟩
      have HB3 := Lib.hid (HB2.out.trans (hb3.mono HB2.out.size))
      clear hb3
      go_wp2_with fail
      go_ret
      exact ⟨rfl, HEND.out _ HB3.out⟩
    | true =>
      rw [hr] at HRT
      by_cases hk1 : 513 < k1.size
      · have gk1 : (513 : Int) < (k1.size : Int) := by omega
        clear hl hn hnc hnil hga hr hk1
        go_enter Try.func6, Try.ntmps6
        go_wp2_with fail
        refine (HGA.out w0 HB0.out).mono ?_
        rintro e w1 ⟨rfl, hb1⟩
        have HB1 := Lib.hid (HB0.out.trans (hb1.mono HB0.out.size))
        clear hb1
        go_wp2_with fail
        refine (HRT.out w1 HB1.out).mono ?_
        rintro e w2 ⟨rfl, hb2⟩
        have HB2 := Lib.hid (HB1.out.trans (hb2.mono HB1.out.size))
        clear hb2
        obtain ⟨⟨o0, o1⟩, o2, o3⟩ := HOO.out w2 HB2.out
        go_wp2_with fail
        refine (HH.out w2 HB2.out).mono ?_
        rintro e w3 ⟨rfl, hb3⟩
        have HB3 := Lib.hid (HB2.out.trans (hb3.mono HB2.out.size))
        clear hb3
        go_wp2_with fail
        go_ret
        exact ⟨rfl, HEND.out _ HB3.out⟩
      · have gk1 : ¬ (513 : Int) < (k1.size : Int) := by omega
        by_cases hk2 : 513 < k2.size
        · have gk2 : (513 : Int) < (k2.size : Int) := by omega
          clear hl hn hnc hnil hga hr hk1 hk2
          go_enter Try.func6, Try.ntmps6
          go_wp2_with fail
          refine (HGA.out w0 HB0.out).mono ?_
          rintro e w1 ⟨rfl, hb1⟩
          have HB1 := Lib.hid (HB0.out.trans (hb1.mono HB0.out.size))
          clear hb1
          go_wp2_with fail
          refine (HRT.out w1 HB1.out).mono ?_
          rintro e w2 ⟨rfl, hb2⟩
          have HB2 := Lib.hid (HB1.out.trans (hb2.mono HB1.out.size))
          clear hb2
          obtain ⟨⟨o0, o1⟩, o2, o3⟩ := HOO.out w2 HB2.out
          go_wp2_with fail
          refine (HH.out w2 HB2.out).mono ?_
          rintro e w3 ⟨rfl, hb3⟩
          have HB3 := Lib.hid (HB2.out.trans (hb3.mono HB2.out.size))
          clear hb3
          go_wp2_with fail
          go_ret
          exact ⟨rfl, HEND.out _ HB3.out⟩
        · have gk2 : ¬ (513 : Int) < (k2.size : Int) := by omega
          by_cases hv1 : 2048 < v1.size
          · have gv1 : (2048 : Int) < (v1.size : Int) := by omega
            clear hl hn hnc hnil hga hr hk1 hk2 hv1
            go_enter Try.func6, Try.ntmps6
            go_wp2_with fail
            refine (HGA.out w0 HB0.out).mono ?_
            rintro e w1 ⟨rfl, hb1⟩
            have HB1 := Lib.hid (HB0.out.trans (hb1.mono HB0.out.size))
            clear hb1
            go_wp2_with fail
            refine (HRT.out w1 HB1.out).mono ?_
            rintro e w2 ⟨rfl, hb2⟩
            have HB2 := Lib.hid (HB1.out.trans (hb2.mono HB1.out.size))
            clear hb2
            obtain ⟨⟨o0, o1⟩, o2, o3⟩ := HOO.out w2 HB2.out
            go_wp2_with fail
            refine (HH.out w2 HB2.out).mono ?_
            rintro e w3 ⟨rfl, hb3⟩
            have HB3 := Lib.hid (HB2.out.trans (hb3.mono HB2.out.size))
            clear hb3
            go_wp2_with fail
            go_ret
            exact ⟨rfl, HEND.out _ HB3.out⟩
          · have gv1 : ¬ (2048 : Int) < (v1.size : Int) := by omega
            by_cases hv2 : 2048 < v2.size
            · have gv2 : (2048 : Int) < (v2.size : Int) := by omega
              clear hl hn hnc hnil hga hr hk1 hk2 hv1 hv2
              go_enter Try.func6, Try.ntmps6
              go_wp2_with fail
              refine (HGA.out w0 HB0.out).mono ?_
              rintro e w1 ⟨rfl, hb1⟩
              have HB1 := Lib.hid (HB0.out.trans (hb1.mono HB0.out.size))
              clear hb1
              go_wp2_with fail
              refine (HRT.out w1 HB1.out).mono ?_
              rintro e w2 ⟨rfl, hb2⟩
              have HB2 := Lib.hid (HB1.out.trans (hb2.mono HB1.out.size))
              clear hb2
              obtain ⟨⟨o0, o1⟩, o2, o3⟩ := HOO.out w2 HB2.out
              go_wp2_with fail
              refine (HH.out w2 HB2.out).mono ?_
              rintro e w3 ⟨rfl, hb3⟩
              have HB3 := Lib.hid (HB2.out.trans (hb3.mono HB2.out.size))
              clear hb3
              go_wp2_with fail
              go_ret
              exact ⟨rfl, HEND.out _ HB3.out⟩
            · have gv2 : ¬ (2048 : Int) < (v2.size : Int) := by omega
              have hR : Rgt (cels l) := of_decide_eq_true hr
              have hf1 := fit_cel (k := k1) (v := v1) (by omega) (by omega)
              have hf2 := fit_cel (k := k2) (v := v2) (by omega) (by omega)
              have hP1 : cels (putB l (k1, v1)) = putC (cels l) (cel (k1, v1)) := putB_cels hR.1 _
              have hP3 : cels (putB l (k2, v2)) = putC (cels l) (cel (k2, v2)) := putB_cels hR.1 _
              have hR1 : Rgt (cels (putB l (k1, v1))) := by rw [hP1]; exact hR.put hf1
              have hR3 : Rgt (cels (putB l (k2, v2))) := by rw [hP3]; exact hR.put hf2
              have hP2 : cels (putB (putB l (k1, v1)) (k2, v2)) = putC (putC (cels l) (cel (k1, v1))) (cel (k2, v2)) := by rw [putB_cels hR1.1, hP1]
              have hP4 : cels (putB (putB l (k2, v2)) (k1, v1)) = putC (putC (cels l) (cel (k2, v2))) (cel (k1, v1)) := by rw [putB_cels hR3.1, hP3]
              have hD1 : cels (delB l k1.toList) = delC (cels l) k1.toList := delB_cels hR.1 _
              have hRD : Rgt (cels (delB l k1.toList)) := by rw [hD1]; exact hR.del _
              have hD2 : delB (delB l k1.toList) k1.toList = delB l k1.toList := by
                apply cels_inj
                rw [delB_cels hRD.1, hD1, del_del]
              have HSAME := Lib.hid (show k1.toList = k2.toList → putB (putB l (k1, v1)) (k2, v2) = putB l (k2, v2) ∧ putB (putB l (k2, v2)) (k1, v1) = putB l (k1, v1) from fun h => by
                refine ⟨cels_inj ?_, cels_inj ?_⟩
                · rw [hP2, hP3]; exact put_last hR.1 h
                · rw [hP4, hP1]; exact put_last hR.1 h.symm)
              have HDIFF := Lib.hid (show k1.toList ≠ k2.toList → putB (putB l (k1, v1)) (k2, v2) = putB (putB l (k2, v2)) (k1, v1) from fun h => cels_inj (by
                rw [hP2, hP4]; exact put_comm hR.1 h))
              have l1 := putB_length l (k1, v1)
              have l3 := putB_length l (k2, v2)
              have l2 := putB_length (putB l (k1, v1)) (k2, v2)
              have l4 := putB_length (putB l (k2, v2)) (k1, v1)
              have ld : (delB l k1.toList).length ≤ n + n := by unfold delB; rw [List.length_append, List.length_take, List.length_drop]; omega
              have HPA := Lib.hid (fun wx (hb : Below w0.heap.size w0 wx) => kput_any A n c l k1 v1 wx (hl.keeps hb) hn (by omega) hnc hnil)
              have HPB := Lib.hid (fun wx (hb : Below w0.heap.size w0 wx) => kput_any A n c l k2 v2 wx (hl.keeps hb) hn (by omega) hnc hnil)
              rw [if_pos ⟨hr, hf1⟩] at HPA
              rw [if_pos ⟨hr, hf2⟩] at HPB
              have HDA := Lib.hid (fun wx (hb : Below w0.heap.size w0 wx) => kdelete_any A n c l k1 wx (hl.keeps hb) hn (by omega) hnil)
              rw [if_pos hr] at HDA
              have hr1 : rgtB (cels (putB l (k1, v1))) = true := decide_eq_true hR1
              have hr3 : rgtB (cels (putB l (k2, v2))) = true := decide_eq_true hR3
              have hrd : rgtB (cels (delB l k1.toList)) = true := decide_eq_true hRD
              have HPAB := Lib.hid (fun A' c' wx (h : Cels wx A' (putB l (k1, v1))) (hc : (putB l (k1, v1)).length ≤ c') (hA : A' = none → c' = 0) => kput_any A' (putB l (k1, v1)).length c' _ k2 v2 wx h rfl (by omega) hc hA)
              have HPBA := Lib.hid (fun A' c' wx (h : Cels wx A' (putB l (k2, v2))) (hc : (putB l (k2, v2)).length ≤ c') (hA : A' = none → c' = 0) => kput_any A' (putB l (k2, v2)).length c' _ k1 v1 wx h rfl (by omega) hc hA)
              rw [if_pos ⟨hr1, hf2⟩] at HPAB
              rw [if_pos ⟨hr3, hf1⟩] at HPBA
              have HDD := Lib.hid (fun A' c' wx (h : Cels wx A' (delB l k1.toList)) (hA : A' = none → c' = 0) => kdelete_any A' (delB l k1.toList).length c' _ k1 wx h rfl (by omega) hA)
              rw [if_pos hrd, hD2] at HDD
              obtain ⟨X1, hX1⟩ : ∃ X, putB l (k1, v1) = X := ⟨_, rfl⟩
              obtain ⟨X3, hX3⟩ : ∃ X, putB l (k2, v2) = X := ⟨_, rfl⟩
              rw [hX1] at HPA HPAB HSAME HDIFF l2 l1
              rw [hX3] at HPB HPBA HSAME HDIFF l4 l3
              obtain ⟨X2, hX2⟩ : ∃ X, putB X1 (k2, v2) = X := ⟨_, rfl⟩
              obtain ⟨X4, hX4⟩ : ∃ X, putB X3 (k1, v1) = X := ⟨_, rfl⟩
              obtain ⟨D, hD⟩ : ∃ X, delB l k1.toList = X := ⟨_, rfl⟩
              rw [hX2] at HPAB HSAME HDIFF l2
              rw [hX4] at HPBA HSAME HDIFF l4
              rw [hD] at HDA HDD ld
              have HLS := Lib.hid (show X1.length ≤ 1000 ∧ X2.length ≤ 1000 ∧ X3.length ≤ 1000 ∧ X4.length ≤ 1000 ∧ D.length ≤ 1000 by omega)
              have HSM := Lib.hid (fun (A1 A2 : Option Addr) (N c1 c2 : Nat) (u : List CB) wx (h1 : Cels wx A1 u) (h2 : Cels wx A2 u) (hN : u.length = N) (hNb : N ≤ 1000) => show Calls Try.prog 17 #[.slice A1 N c1, .slice A2 N c2] wx (fun e w' => e = .returned (.bool true) ∧ Below wx.heap.size wx w') by
                have := ksame_any A1 A2 N c1 N c2 u u wx h1 hN h2 hN (by omega) (by omega)
                rw [decide_eq_true rfl] at this
                exact this)
              clear hl hn hnc hnil hga hr hk1 hk2 hv1 hv2 hR hf1 hf2 hP1 hP2 hP3 hP4 hR1 hR3 hD1 hRD hD2 l1 l2 l3 l4 ld hr1 hr3 hrd hX1 hX2 hX3 hX4 hD hnb hn5
              by_cases heq : k1.toList = k2.toList
              · have hke : (k1.toList == k2.toList) = true := by rw [heq]; exact beq_self_eq_true _
                obtain ⟨e1, e2⟩ := HSAME.out heq
                replace e1 := e1.symm
                replace e2 := e2.symm
                subst e1 e2
                clear heq HSAME HDIFF HDA HDD
                obtain ⟨z1, z2, z3, z4, zd⟩ := HLS.out
                obtain ⟨N1, hN1⟩ : ∃ N, X1.length = N := ⟨_, rfl⟩
                obtain ⟨N3, hN3⟩ : ∃ N, X3.length = N := ⟨_, rfl⟩
                have HNN := Lib.hid (And.intro hN1 hN3)
                simp only [hN1] at HPAB z1
                simp only [hN3] at HPBA z3
                clear hN1 hN3 HLS z2 z4 zd
                go_enter Try.func6, Try.ntmps6
                go_wp2_with fail
                refine (HGA.out w0 HB0.out).mono ?_
                rintro e w1 ⟨rfl, hb1⟩
                have HB1 := Lib.hid (HB0.out.trans (hb1.mono HB0.out.size))
                clear hb1
                go_wp2_with fail
                refine (HRT.out w1 HB1.out).mono ?_
                rintro e w2 ⟨rfl, hb2⟩
                have HB2 := Lib.hid (HB1.out.trans (hb2.mono HB1.out.size))
                clear hb2
                obtain ⟨⟨o0, o1⟩, o2, o3⟩ := HOO.out w2 HB2.out
                go_wp2_with fail
                refine (HPA.out w2 HB2.out).mono ?_
                rintro e w3 ⟨A3, c3, rfl, hc3, hl3, hA3, hb3⟩
                have HB3 := Lib.hid (HB2.out.trans (hb3.mono HB2.out.size))
                have HC3 := Lib.hid (And.intro hc3 (And.intro hl3 hA3))
                clear hb3 hc3 hl3 hA3
                rw [HNN.out.1]
                have hcl3 := HC3.out.2.1
                rw [HNN.out.1] at hcl3
                clear o0 o1 o2 o3
                obtain ⟨⟨o0, o1⟩, o2, o3⟩ := HOO.out w3 HB3.out
                go_wp2_with fail
                refine (HPAB.out A3 c3 w3 HC3.out.1 hcl3 HC3.out.2.2).mono ?_
                rintro e w4 ⟨A4, c4, rfl, hc4, hl4, hA4, hb4⟩
                have HB4 := Lib.hid (HB3.out.trans (hb4.mono HB3.out.size))
                have HC4 := Lib.hid (And.intro hc4 (And.intro hl4 hA4))
                have HK4 := Lib.hid hb4
                clear hb4 hc4 hl4 hA4
                rw [HNN.out.2]
                clear hcl3 o0 o1 o2 o3
                obtain ⟨⟨o0, o1⟩, o2, o3⟩ := HOO.out w4 HB4.out
                go_wp2_with fail
                refine (HPB.out w4 HB4.out).mono ?_
                rintro e w5 ⟨A5, c5, rfl, hc5, hl5, hA5, hb5⟩
                have HB5 := Lib.hid (HB4.out.trans (hb5.mono HB4.out.size))
                have HC5 := Lib.hid (And.intro hc5 (And.intro hl5 hA5))
                have HK5 := Lib.hid hb5
                clear hb5 hc5 hl5 hA5
                rw [HNN.out.2]
                have hcl5 := HC5.out.2.1
                rw [HNN.out.2] at hcl5
                clear o0 o1 o2 o3
                obtain ⟨⟨o0, o1⟩, o2, o3⟩ := HOO.out w5 HB5.out
                go_wp2_with fail
                refine (HPBA.out A5 c5 w5 HC5.out.1 hcl5 HC5.out.2.2).mono ?_
                rintro e w6 ⟨A6, c6, rfl, hc6, hl6, hA6, hb6⟩
                have HB6 := Lib.hid (HB5.out.trans (hb6.mono HB5.out.size))
                have HC6 := Lib.hid (And.intro hc6 (And.intro hl6 hA6))
                have HK6 := Lib.hid hb6
                clear hb6 hc6 hl6 hA6
                rw [HNN.out.1]
                clear hcl5 o0 o1 o2 o3
                obtain ⟨⟨o0, o1⟩, o2, o3⟩ := HOO.out w6 HB6.out
                have HK46 := Lib.hid (HK5.out.trans (HK6.out.mono HK5.out.size))
                have HK36 := Lib.hid (HK4.out.trans (HK46.out.mono HK4.out.size))
                have HS6 := Lib.hid (HSM.out A4 A5 N3 c4 c5 X3 w6 (HC4.out.1.keeps HK46.out) (HC5.out.1.keeps HK6.out) HNN.out.2 z3)
                have HS7 := Lib.hid (fun w7 (hb : Below w6.heap.size w6 w7) => HSM.out A6 A3 N1 c6 c3 X1 w7 (HC6.out.1.keeps hb) ((HC3.out.1.keeps HK36.out).keeps hb) HNN.out.1 z1)
                clear HSM HPA HPB HPAB HPBA
                go_wp2_with fail
                refine HS6.out.mono ?_
                rintro e w7 ⟨rfl, hb7⟩
                have HB7 := Lib.hid (HB6.out.trans (hb7.mono HB6.out.size))
                have HS8 := Lib.hid (HS7.out w7 hb7)
                clear hb7 HS6 HS7
                go_wp2_with fail
                refine HS8.out.mono ?_
                rintro e w8 ⟨rfl, hb8⟩
                have HB8 := Lib.hid (HB7.out.trans (hb8.mono HB7.out.size))
                clear hb8 HS8
                go_wp2_with fail
                refine (HH.out w8 HB8.out).mono ?_
                rintro e w9 ⟨rfl, hb9⟩
                have HB9 := Lib.hid (HB8.out.trans (hb9.mono HB8.out.size))
                clear hb9
                go_wp2_with fail
                go_ret
                exact ⟨rfl, HEND.out _ HB9.out⟩
              · have hke : (k1.toList == k2.toList) = false := beq_eq_false_iff_ne.2 heq
                have e1 := (HDIFF.out heq).symm
                subst e1
                clear heq HSAME HDIFF
                obtain ⟨z1, z2, z3, z4, zd⟩ := HLS.out
                obtain ⟨N1, hN1⟩ : ∃ N, X1.length = N := ⟨_, rfl⟩
                obtain ⟨N3, hN3⟩ : ∃ N, X3.length = N := ⟨_, rfl⟩
                obtain ⟨N4, hN4⟩ : ∃ N, X4.length = N := ⟨_, rfl⟩
                obtain ⟨ND, hND⟩ : ∃ N, D.length = N := ⟨_, rfl⟩
                have HNN := Lib.hid (And.intro hN1 hN3)
                have HNM := Lib.hid (And.intro hN4 hND)
                simp only [hN1] at HPAB z1
                simp only [hN3] at HPBA z3
                simp only [hN4] at z4
                simp only [hND] at HDD zd
                clear hN1 hN3 HLS z2 hN4 hND
                go_enter Try.func6, Try.ntmps6
                go_wp2_with fail
                refine (HGA.out w0 HB0.out).mono ?_
                rintro e w1 ⟨rfl, hb1⟩
                have HB1 := Lib.hid (HB0.out.trans (hb1.mono HB0.out.size))
                clear hb1
                go_wp2_with fail
                refine (HRT.out w1 HB1.out).mono ?_
                rintro e w2 ⟨rfl, hb2⟩
                have HB2 := Lib.hid (HB1.out.trans (hb2.mono HB1.out.size))
                clear hb2
                obtain ⟨⟨o0, o1⟩, o2, o3⟩ := HOO.out w2 HB2.out
                go_wp2_with fail
                refine (HPA.out w2 HB2.out).mono ?_
                rintro e w3 ⟨A3, c3, rfl, hc3, hl3, hA3, hb3⟩
                have HB3 := Lib.hid (HB2.out.trans (hb3.mono HB2.out.size))
                have HC3 := Lib.hid (And.intro hc3 (And.intro hl3 hA3))
                clear hb3 hc3 hl3 hA3
                rw [HNN.out.1]
                have hcl3 := HC3.out.2.1
                rw [HNN.out.1] at hcl3
                clear o0 o1 o2 o3
                obtain ⟨⟨o0, o1⟩, o2, o3⟩ := HOO.out w3 HB3.out
                go_wp2_with fail
                refine (HPAB.out A3 c3 w3 HC3.out.1 hcl3 HC3.out.2.2).mono ?_
                rintro e w4 ⟨A4, c4, rfl, hc4, hl4, hA4, hb4⟩
                have HB4 := Lib.hid (HB3.out.trans (hb4.mono HB3.out.size))
                have HC4 := Lib.hid (And.intro hc4 (And.intro hl4 hA4))
                have HK4 := Lib.hid hb4
                clear hb4 hc4 hl4 hA4
                rw [HNM.out.1]
                clear hcl3 o0 o1 o2 o3
                obtain ⟨⟨o0, o1⟩, o2, o3⟩ := HOO.out w4 HB4.out
                go_wp2_with fail
                refine (HPB.out w4 HB4.out).mono ?_
                rintro e w5 ⟨A5, c5, rfl, hc5, hl5, hA5, hb5⟩
                have HB5 := Lib.hid (HB4.out.trans (hb5.mono HB4.out.size))
                have HC5 := Lib.hid (And.intro hc5 (And.intro hl5 hA5))
                have HK5 := Lib.hid hb5
                clear hb5 hc5 hl5 hA5
                rw [HNN.out.2]
                have hcl5 := HC5.out.2.1
                rw [HNN.out.2] at hcl5
                clear o0 o1 o2 o3
                obtain ⟨⟨o0, o1⟩, o2, o3⟩ := HOO.out w5 HB5.out
                go_wp2_with fail
                refine (HPBA.out A5 c5 w5 HC5.out.1 hcl5 HC5.out.2.2).mono ?_
                rintro e w6 ⟨A6, c6, rfl, hc6, hl6, hA6, hb6⟩
                have HB6 := Lib.hid (HB5.out.trans (hb6.mono HB5.out.size))
                have HC6 := Lib.hid (And.intro hc6 (And.intro hl6 hA6))
                have HK6 := Lib.hid hb6
                clear hb6 hc6 hl6 hA6
                rw [HNM.out.1]
                clear hcl5 o0 o1 o2 o3
                obtain ⟨⟨o0, o1⟩, o2, o3⟩ := HOO.out w6 HB6.out
                have HK46 := Lib.hid (HK5.out.trans (HK6.out.mono HK5.out.size))
                have HK36 := Lib.hid (HK4.out.trans (HK46.out.mono HK4.out.size))
                go_wp2_with fail
                refine (HDA.out w6 HB6.out).mono ?_
                rintro e w7 ⟨A7, c7, rfl, hc7, -, hA7, hb7⟩
                have HB7 := Lib.hid (HB6.out.trans (hb7.mono HB6.out.size))
                have HK7 := Lib.hid hb7
                have HC7 := Lib.hid hc7
                have HD7 := Lib.hid (HDD.out A7 c7 w7 hc7 hA7)
                rw [HNM.out.2]
                clear hb7 hc7 hA7 HDA HDD o0 o1 o2 o3
                obtain ⟨⟨o0, o1⟩, o2, o3⟩ := HOO.out w7 HB7.out
                go_wp2_with fail
                refine HD7.out.mono ?_
                rintro e w8 ⟨A8, c8, rfl, hc8, -, -, hb8⟩
                have HB8 := Lib.hid (HB7.out.trans (hb8.mono HB7.out.size))
                have HK68 := Lib.hid (HK7.out.trans (hb8.mono HK7.out.size))
                have HS8 := Lib.hid (HSM.out A4 A6 N4 c4 c6 X4 w8 ((HC4.out.1.keeps HK46.out).keeps HK68.out) (HC6.out.1.keeps HK68.out) HNM.out.1 z4)
                have HS9 := Lib.hid (fun w9 (hb : Below w8.heap.size w8 w9) => HSM.out A8 A7 ND c8 c7 D w9 (hc8.keeps hb) ((HC7.out.keeps hb8).keeps hb) HNM.out.2 zd)
                rw [HNM.out.2]
                clear hb8 hc8 HSM HPA HPB HPAB HPBA
                go_wp2_with fail
                refine HS8.out.mono ?_
                rintro e w9 ⟨rfl, hb9⟩
                have HB9 := Lib.hid (HB8.out.trans (hb9.mono HB8.out.size))
                have HS10 := Lib.hid (HS9.out w9 hb9)
                clear hb9 HS8 HS9
                go_wp2_with fail
                refine HS10.out.mono ?_
                rintro e w10 ⟨rfl, hb10⟩
                have HB10 := Lib.hid (HB9.out.trans (hb10.mono HB9.out.size))
                clear hb10 HS10
                go_wp2_with fail
                refine (HH.out w10 HB10.out).mono ?_
                rintro e w11 ⟨rfl, hb11⟩
                have HB11 := Lib.hid (HB10.out.trans (hb11.mono HB10.out.size))
                clear hb11
                go_wp2_with fail
                go_ret
                exact ⟨rfl, HEND.out _ HB11.out⟩
end Go.Proofs.Ytbganaaiaokfmaa
