/-
  The statement's walk: CellsMeans.
-/
import Derived.Test.YtbganaaiaokfmaaCelBytesLaw
namespace Go.Proofs.Ytbganaaiaokfmaa
open Go.RowKit

theorem findP_rgt {l : List Cel} (h : Rgt l) (k : Txt) : findP l k = findC l k := by
  have h1 : rgtB l = true := decide_eq_true h
  unfold findP
  rw [if_pos h1]
theorem fit_cel {k v : ByteArray} (h1 : k.size ≤ 513) (h2 : v.size ≤ 2048) : fitC (cel (k, v)) = true := by
  unfold fitC cel
  simp only [len_size, Bool.and_eq_true, decide_eq_true_eq]
  exact ⟨h1, h2⟩
theorem findV_val (v : ByteArray) : findV (some v.toList) = .tuple #[.string v, .bool true] := by
  show Value.tuple #[.string ⟨v.toList.toArray⟩, .bool true] = _
  rw [text_back]

set_option maxRecDepth 100000 in
set_option maxHeartbeats 4000000 in
theorem means_any (A : Option Addr) (n c : Nat) (l : List CB) (key val k : ByteArray) (w : World) (hl : Cels w A l) (hn : l.length = n) (hnb : n ≤ 9223372036854775807) (hnc : n ≤ c) (hnil : A = none → c = 0) :
    Calls Try.prog 4 #[.slice A n c, .agg #[.string key, .string val], .string k] w fun e w' => e = .returned (.bool true) ∧ Below w.heap.size w w' := by
  obtain ⟨w0, hw0⟩ : ∃ o, w.alloc (.cells #[.string key, .string val] 38) = o := ⟨_, rfl⟩
  have HBo := Lib.hid (show Below w.heap.size w w0 from hw0 ▸ (Below.refl _ w).alloc (Nat.le_refl _) _)
  replace hl : Cels w0 A l := hw0 ▸ hl.alloc _
  obtain ⟨B, hB⟩ : ∃ B, w.heap.size = B := ⟨_, rfl⟩
  have HRo := Lib.hid (show Row w0 B 38 [.string key, .string val] (0, 0) from hB ▸ hw0 ▸ Row.new w 38 [.string key, .string val] (0, 0))
  have HOO := Lib.hid (fun (wx : World) (hb : Below w0.heap.size w0 wx) => And.intro (show wx.cell? ⟨B, 0, none⟩ = some (.string key) by rw [(HRo.out.below hb HRo.out.lt).cell]; rfl) (show wx.cell? ⟨B, 1, none⟩ = some (.string val) by rw [(HRo.out.below hb HRo.out.lt).cell]; rfl))
  have HB0 := Lib.hid (Below.refl w0.heap.size w0)
  have HH := Lib.hid (fun wx (_ : Below w0.heap.size w0 wx) => chead_any wx)
  have HGA := Lib.hid (fun wx (hb : Below w0.heap.size w0 wx) => cgreat_any A n c l wx (hl.keeps hb) hn hnb)
  have HEND := Lib.hid (show ∀ wx, Below w0.heap.size w0 wx → Below w.heap.size w wx from fun wx hb => HBo.out.trans (hb.mono HBo.out.size))
  cases hga : greatB l with
  | true =>
    rw [hga] at HGA
    clear hl hn hnc hnil hga HOO HRo
    go_enter Try.func4, Try.ntmps4
    go_wp2_with fail
    refine (HGA.out w0 HB0.out).mono ?_
    rintro e w1 ⟨rfl, hb1⟩
    have HB1 := Lib.hid (HB0.out.trans (hb1.mono HB0.out.size))
    clear hb1
    go_wp2_with fail
    refine (HH.out w1 HB1.out).mono ?_
    rintro e w2 ⟨rfl, hb2⟩
    have HB2 := Lib.hid (HB1.out.trans (hb2.mono HB1.out.size))
    clear hb2
    go_wp2_with fail
    go_ret
    exact ⟨rfl, HEND.out _ HB2.out⟩
  | false =>
    rw [hga] at HGA
    have hn5 := great_few hga
    rw [hn] at hn5
    have HRT := Lib.hid (fun wx (hb : Below w0.heap.size w0 wx) => kright_any A n c l wx (hl.keeps hb) hn (by omega))
    cases hr : rgtB (cels l) with
    | false =>
      rw [hr] at HRT
      clear hl hn hnc hnil hga HOO HRo hr
      go_enter Try.func4, Try.ntmps4
      go_wp2_with fail
      refine (HGA.out w0 HB0.out).mono ?_
      rintro e w1 ⟨rfl, hb1⟩
      have HB1 := Lib.hid (HB0.out.trans (hb1.mono HB0.out.size))
      clear hb1
      go_wp2_with fail
      refine (HRT.out w1 HB1.out).mono ?_
      rintro e w2 ⟨rfl, hb2⟩
      have HB2 := Lib.hid (HB1.out.trans (hb2.mono HB1.out.size))
      clear hb2
      go_wp2_with fail
      refine (HH.out w2 HB2.out).mono ?_
      rintro e w3 ⟨rfl, hb3⟩
      have HB3 := Lib.hid (HB2.out.trans (hb3.mono HB2.out.size))
      clear hb3
      go_wp2_with fail
      go_ret
      exact ⟨rfl, HEND.out _ HB3.out⟩
    | true =>
      rw [hr] at HRT
      by_cases hk1 : 513 < key.size
      · have gk : (513 : Int) < (key.size : Int) := by omega
        clear hl hn hnc hnil hga HRo hr hk1
        go_enter Try.func4, Try.ntmps4
        go_wp2_with fail
        refine (HGA.out w0 HB0.out).mono ?_
        rintro e w1 ⟨rfl, hb1⟩
        have HB1 := Lib.hid (HB0.out.trans (hb1.mono HB0.out.size))
        clear hb1
        go_wp2_with fail
        refine (HRT.out w1 HB1.out).mono ?_
        rintro e w2 ⟨rfl, hb2⟩
        have HB2 := Lib.hid (HB1.out.trans (hb2.mono HB1.out.size))
        clear hb2
        obtain ⟨o0, o1⟩ := HOO.out w2 HB2.out
        go_wp2_with fail
        refine (HH.out w2 HB2.out).mono ?_
        rintro e w3 ⟨rfl, hb3⟩
        have HB3 := Lib.hid (HB2.out.trans (hb3.mono HB2.out.size))
        clear hb3
        go_wp2_with fail
        go_ret
        exact ⟨rfl, HEND.out _ HB3.out⟩
      · have gk : ¬ (513 : Int) < (key.size : Int) := by omega
        by_cases hv1 : 2048 < val.size
        · have gv : (2048 : Int) < (val.size : Int) := by omega
          clear hl hn hnc hnil hga HRo hr hk1 hv1
          go_enter Try.func4, Try.ntmps4
          go_wp2_with fail
          refine (HGA.out w0 HB0.out).mono ?_
          rintro e w1 ⟨rfl, hb1⟩
          have HB1 := Lib.hid (HB0.out.trans (hb1.mono HB0.out.size))
          clear hb1
          go_wp2_with fail
          refine (HRT.out w1 HB1.out).mono ?_
          rintro e w2 ⟨rfl, hb2⟩
          have HB2 := Lib.hid (HB1.out.trans (hb2.mono HB1.out.size))
          clear hb2
          obtain ⟨o0, o1⟩ := HOO.out w2 HB2.out
          go_wp2_with fail
          refine (HH.out w2 HB2.out).mono ?_
          rintro e w3 ⟨rfl, hb3⟩
          have HB3 := Lib.hid (HB2.out.trans (hb3.mono HB2.out.size))
          clear hb3
          go_wp2_with fail
          go_ret
          exact ⟨rfl, HEND.out _ HB3.out⟩
        · have gv : ¬ (2048 : Int) < (val.size : Int) := by omega
          have hR : Rgt (cels l) := of_decide_eq_true hr
          have hfit := fit_cel (k := key) (v := val) (by omega) (by omega)
          have HF := Lib.hid (fun wx (hb : Below w0.heap.size w0 wx) => kfind_any A n c l k wx (hl.keeps hb) hn (by omega))
          rw [findP_rgt hR] at HF
          have HPU := Lib.hid (fun wx (hb : Below w0.heap.size w0 wx) => kput_any A n c l key val wx (hl.keeps hb) hn (by omega) hnc hnil)
          rw [if_pos ⟨hr, hfit⟩] at HPU
          have hPc : cels (putB l (key, val)) = putC (cels l) (cel (key, val)) := putB_cels hR.1 (key, val)
          have hPl := putB_length l (key, val)
          have hPR : Rgt (putC (cels l) (cel (key, val))) := hR.put hfit
          obtain ⟨P, hP⟩ : ∃ P, putB l (key, val) = P := ⟨_, rfl⟩
          rw [hP] at HPU hPc hPl
          rw [← hPc] at hPR
          have hPr : rgtB (cels P) = true := decide_eq_true hPR
          have hDc : cels (delB P key.toList) = delC (cels P) key.toList := delB_cels hPR.1 key.toList
          obtain ⟨D, hD⟩ : ∃ D, delB P key.toList = D := ⟨_, rfl⟩
          have hDR : Rgt (delC (cels P) key.toList) := hPR.del key.toList
          rw [hD] at hDc
          rw [← hDc] at hDR
          have hDr : rgtB (cels D) = true := decide_eq_true hDR
          obtain ⟨hz1, hz2⟩ := put_size hR.1 (cel (key, val))
          rw [← hPc] at hz1 hz2
          rw [show (cel (key, val)).1 = key.toList from rfl, ← hDc] at hz1 hz2
          rw [show (cel (key, val)).2 = val.toList from rfl, len_size, len_size] at hz1
          rw [cels_length, cels_length] at hz2
          have hzP := rgt_size hPR
          rw [cels_length] at hzP
          obtain ⟨N, hN⟩ : ∃ N, P.length = N := ⟨_, rfl⟩
          obtain ⟨M, hM⟩ : ∃ M, D.length = M := ⟨_, rfl⟩
          have HFP := Lib.hid (fun AP cP wx (h : Cels wx AP P) => kfind_any AP N cP P k wx h hN (by omega))
          rw [findP_rgt hPR, hPc, find_put hR.1] at HFP
          have HFD := Lib.hid (fun AP cP wx (h : Cels wx AP D) => kfind_any AP M cP D k wx h hM (by omega))
          rw [findP_rgt hDR, hDc, find_del hPR.1, hPc, find_put hR.1] at HFD
          rw [show (cel (key, val)).1 = key.toList from rfl, show (cel (key, val)).2 = val.toList from rfl] at HFP HFD
          have HRP := Lib.hid (fun AP cP wx (h : Cels wx AP P) => kright_any AP N cP P wx h hN (by omega))
          rw [hPr] at HRP
          have HRD := Lib.hid (fun AP cP wx (h : Cels wx AP D) => kright_any AP M cP D wx h hM (by omega))
          rw [hDr] at HRD
          have HDL := Lib.hid (fun AP cP wx (h : Cels wx AP P) (hA : AP = none → cP = 0) => kdelete_any AP N cP P key wx h hN (by omega) hA)
          rw [if_pos hPr, hD] at HDL
          have HSP := Lib.hid (fun AP cP wx (h : Cels wx AP P) => kSize_any AP N cP P wx h hN (by omega))
          have HSD := Lib.hid (fun AP cP wx (h : Cels wx AP D) => kSize_any AP M cP D wx h hM (by omega))
          obtain ⟨sp, hsp⟩ : ∃ z, sizeC (cels P) = z := ⟨_, rfl⟩
          obtain ⟨sd, hsd⟩ : ∃ z, sizeC (cels D) = z := ⟨_, rfl⟩
          rw [hsp] at HSP hz1 hzP
          rw [hsd] at HSD hz1
          rw [hM] at hz2
          rw [hN] at hz2 hzP hPl
          rw [IntWalk.i64_in (sp : Int) (by omega)] at HSP
          rw [IntWalk.i64_in (sd : Int) (by omega)] at HSD
          have hw1 : IntKind.i64.wrap ((sd : Int) + 4) = (sd : Int) + 4 := IntWalk.i64_in _ (by omega)
          have hw2 : IntKind.i64.wrap ((sd : Int) + 4 + (key.size : Int)) = (sd : Int) + 4 + (key.size : Int) := IntWalk.i64_in _ (by omega)
          have hw3 : IntKind.i64.wrap ((sd : Int) + 4 + (key.size : Int) + (val.size : Int)) = (sp : Int) := by rw [show (sd : Int) + 4 + (key.size : Int) + (val.size : Int) = (sp : Int) by omega]; exact IntWalk.i64_in _ (by omega)
          have hw4 : IntKind.i64.wrap ((M : Int) + 1) = (N : Int) := by rw [show (M : Int) + 1 = (N : Int) by omega]; exact IntWalk.i64_in _ (by omega)
          have HNM := Lib.hid (And.intro hN hM)
          have hspe : ((sp : Int) == (sp : Int)) = true := beq_self_eq_true _
          have hNe : ((N : Int) == (N : Int)) = true := beq_self_eq_true _
          have hvv : (val.toList == val.toList) = true := beq_self_eq_true _
          obtain ⟨S, b, hF⟩ := findV_form (findC (cels l) k.toList)
          rw [hF] at HF
          have hbb : (b == b) = true := beq_self_eq_true _
          have hss : (S.toList == S.toList) = true := beq_self_eq_true _
          clear hl hn hnc hnil hga HRo hr hk1 hv1 hR hfit hPc hPR hPr hDc hDR hDr hP hD hz1 hz2 hzP hPl hsp hsd hN hM hnb
          by_cases heq : k.toList = key.toList
          · rw [if_pos heq, findV_val] at HFP
            rw [if_pos heq] at HFD
            replace HFD := Lib.hid (show ∀ AP cP wx, Cels wx AP D → Calls Try.prog 9 #[.slice AP M cP, .string k] wx (fun e w' => e = .returned (.tuple #[.string ⟨#[]⟩, .bool false]) ∧ Below wx.heap.size wx w') from HFD.out)
            have hke : (k.toList == key.toList) = true := by rw [heq]; exact beq_self_eq_true _
            clear heq hF
            go_enter Try.func4, Try.ntmps4
            go_wp2_with fail
            refine (HGA.out w0 HB0.out).mono ?_
            rintro e w1 ⟨rfl, hb1⟩
            have HB1 := Lib.hid (HB0.out.trans (hb1.mono HB0.out.size))
            clear hb1
            go_wp2_with fail
            refine (HRT.out w1 HB1.out).mono ?_
            rintro e w2 ⟨rfl, hb2⟩
            have HB2 := Lib.hid (HB1.out.trans (hb2.mono HB1.out.size))
            clear hb2
            obtain ⟨o0, o1⟩ := HOO.out w2 HB2.out
            go_wp2_with fail
            refine (HF.out w2 HB2.out).mono ?_
            rintro e w3 ⟨rfl, hb3⟩
            have HB3 := Lib.hid (HB2.out.trans (hb3.mono HB2.out.size))
            clear hb3
            obtain ⟨o0, o1⟩ := HOO.out w3 HB3.out
            go_wp2_with fail
            refine (HPU.out w3 HB3.out).mono ?_
            rintro e w4 ⟨A4, c4, rfl, hc4, -, hA4, hb4⟩
            have HB4 := Lib.hid (HB3.out.trans (hb4.mono HB3.out.size))
            have HC4 := Lib.hid (show ∀ wx, Below w0.heap.size w0 wx → (Below w4.heap.size w4 wx → Cels wx A4 P) from fun wx _ hb => hc4.keeps hb)
            have HF5 := Lib.hid (HFP.out A4 c4 w4 hc4)
            have HR5 := Lib.hid (fun wx (hb : Below w4.heap.size w4 wx) => HRP.out A4 c4 wx (hc4.keeps hb))
            have HD5 := Lib.hid (fun wx (hb : Below w4.heap.size w4 wx) => HDL.out A4 c4 wx (hc4.keeps hb) hA4)
            have HZ5 := Lib.hid (fun wx (hb : Below w4.heap.size w4 wx) => HSP.out A4 c4 wx (hc4.keeps hb))
            obtain ⟨hN, hM⟩ := HNM.out
            rw [hN]
            clear hb4 hc4 hA4 hN hM HFP HRP HDL HSP HPU
            obtain ⟨o0, o1⟩ := HOO.out w4 HB4.out
            go_wp2_with fail
            refine HF5.out.mono ?_
            rintro e w5 ⟨rfl, hb5⟩
            have HB5 := Lib.hid (HB4.out.trans (hb5.mono HB4.out.size))
            have HK5 := Lib.hid hb5
            clear hb5 HF5
            obtain ⟨o0, o1⟩ := HOO.out w5 HB5.out
            go_wp2_with fail
            refine (HR5.out w5 HK5.out).mono ?_
            rintro e w6 ⟨rfl, hb6⟩
            have HB6 := Lib.hid (HB5.out.trans (hb6.mono HB5.out.size))
            have HK6 := Lib.hid (HK5.out.trans (hb6.mono HK5.out.size))
            clear hb6 HR5
            obtain ⟨o0, o1⟩ := HOO.out w6 HB6.out
            go_wp2_with fail
            refine (HD5.out w6 HK6.out).mono ?_
            rintro e w7 ⟨A7, c7, rfl, hc7, -, -, hb7⟩
            have HB7 := Lib.hid (HB6.out.trans (hb7.mono HB6.out.size))
            have HK7 := Lib.hid (HK6.out.trans (hb7.mono HK6.out.size))
            have HF7 := Lib.hid (HFD.out A7 c7 w7 hc7)
            have HR7 := Lib.hid (fun wx (hb : Below w7.heap.size w7 wx) => HRD.out A7 c7 wx (hc7.keeps hb))
            have HZ7 := Lib.hid (fun wx (hb : Below w7.heap.size w7 wx) => HSD.out A7 c7 wx (hc7.keeps hb))
            obtain ⟨hN, hM⟩ := HNM.out
            rw [hM]
            clear hb7 hc7 hN hM HFD HRD HSD HD5
            obtain ⟨o0, o1⟩ := HOO.out w7 HB7.out
            go_wp2_with fail
            refine HF7.out.mono ?_
            rintro e w8 ⟨rfl, hb8⟩
            have HB8 := Lib.hid (HB7.out.trans (hb8.mono HB7.out.size))
            have HK8 := Lib.hid (HK7.out.trans (hb8.mono HK7.out.size))
            have HJ8 := Lib.hid hb8
            clear hb8 HF7
            obtain ⟨o0, o1⟩ := HOO.out w8 HB8.out
            go_wp2_with fail
            refine (HR7.out w8 HJ8.out).mono ?_
            rintro e w9 ⟨rfl, hb9⟩
            have HB9 := Lib.hid (HB8.out.trans (hb9.mono HB8.out.size))
            have HK9 := Lib.hid (HK8.out.trans (hb9.mono HK8.out.size))
            have HJ9 := Lib.hid (HJ8.out.trans (hb9.mono HJ8.out.size))
            clear hb9 HR7
            obtain ⟨o0, o1⟩ := HOO.out w9 HB9.out
            go_wp2_with fail
            clear o0 o1
            obtain ⟨wd, hwd⟩ : ∃ wd, w9.drew = wd := ⟨_, rfl⟩
            have HBd := Lib.hid (show Below w0.heap.size w0 wd from hwd ▸ below_drew_c HB9.out)
            have HKd := Lib.hid (show Below w4.heap.size w4 wd from hwd ▸ below_drew_c HK9.out)
            have HJd := Lib.hid (show Below w7.heap.size w7 wd from hwd ▸ below_drew_c HJ9.out)
            have hHeld := HOO.out wd HBd.out
            refine wp_region_noPanic ?_
            refine wp_region_sch (fun wx => wx.cell? ⟨B, 0, none⟩ = some (.string key) ∧ wx.cell? ⟨B, 1, none⟩ = some (.string val)) (fun i => [1, 3, 23].contains i)
              (.takes [0, 2, 5, 6, 7, 9, 10, 11] (.run 1 (.run 3 (.takes [4, 8, 12, 13, 14, 15, 16, 17, 18, 19, 20, 21, 22] (.run 23 (.takes [24, 25] .done)))))) (by kernel_rfl) (fun _ _ _ _ _ h => h) (by kernel_rfl) ?_
            rw [hwd]
            iterate 8 (
              refine sch_takes_cons ?_
              first
                | (refine sch_take (v := ?_) rfl (by assumption) (by rfl) ?_ ?_; rotate_left; (focus (intro wy hSy; (try dsimp only at hSy); go_simp; (try with_reducible rfl))))
                | (refine sch_pass rfl (by assumption) (by rfl) ?_)
              simp only [Act.put, List.setIfInBounds_toArray, List.set_cons_zero, List.set_cons_succ])
            refine sch_takes_nil ?_
            refine sch_run rfl (fun K hK => ?_)
            go_simp
            with_reducible refine (HZ5.out _ HKd.out).mono ?_
            rintro e w10 ⟨rfl, hb10⟩
            have HB10 := Lib.hid (HBd.out.trans (hb10.mono HBd.out.size))
            have HJ10 := Lib.hid (HJd.out.trans (hb10.mono HJd.out.size))
            have hHeld := HOO.out w10 HB10.out
            clear hb10
            refine hK.out _ _ (fun _ => hHeld) ?_
            clear hK K
            try simp only [Act.put, List.setIfInBounds_toArray, List.set_cons_zero, List.set_cons_succ]
            refine sch_run rfl (fun K hK => ?_)
            go_simp
            with_reducible refine (HZ7.out _ HJ10.out).mono ?_
            rintro e w11 ⟨rfl, hb11⟩
            have HB11 := Lib.hid (HB10.out.trans (hb11.mono HB10.out.size))
            have hHeld := HOO.out w11 HB11.out
            clear hb11
            refine hK.out _ _ (fun _ => hHeld) ?_
            clear hK K
            try simp only [Act.put, List.setIfInBounds_toArray, List.set_cons_zero, List.set_cons_succ]
            iterate 13 (
              refine sch_takes_cons ?_
              first
                | (refine sch_take (v := ?_) rfl (by assumption) (by rfl) ?_ ?_; rotate_left; (focus (intro wy hSy; (try dsimp only at hSy); go_simp; (try with_reducible rfl))))
                | (refine sch_pass rfl (by assumption) (by rfl) ?_)
              simp only [Act.put, List.setIfInBounds_toArray, List.set_cons_zero, List.set_cons_succ])
            refine sch_takes_nil ?_
            refine sch_run rfl (fun K hK => ?_)
            go_simp
            with_reducible refine (HH.out _ HB11.out).mono ?_
            rintro e w12 ⟨rfl, hb12⟩
            have HB12 := Lib.hid (HB11.out.trans (hb12.mono HB11.out.size))
            have hHeld := HOO.out w12 HB12.out
            clear hb12
            refine hK.out _ _ (fun _ => hHeld) ?_
            clear hK K
            try simp only [Act.put, List.setIfInBounds_toArray, List.set_cons_zero, List.set_cons_succ]
            iterate 2 (
              refine sch_takes_cons ?_
              first
                | (refine sch_take (v := ?_) rfl (by assumption) (by rfl) ?_ ?_; rotate_left; (focus (intro wy hSy; (try dsimp only at hSy); go_simp; (try with_reducible rfl))))
                | (refine sch_pass rfl (by assumption) (by rfl) ?_)
              simp only [Act.put, List.setIfInBounds_toArray, List.set_cons_zero, List.set_cons_succ])
            refine sch_takes_nil ?_
            refine sch_done ?_
            refine NoPanic.normal ?_
            clear hHeld
            go_wp2_with fail
            go_ret
            exact ⟨rfl, HEND.out _ HB12.out⟩
          · rw [if_neg heq, hF] at HFP
            rw [if_neg heq, if_neg heq, hF] at HFD
            have hke : (k.toList == key.toList) = false := beq_eq_false_iff_ne.2 heq
            clear heq hF
            go_enter Try.func4, Try.ntmps4
            go_wp2_with fail
            refine (HGA.out w0 HB0.out).mono ?_
            rintro e w1 ⟨rfl, hb1⟩
            have HB1 := Lib.hid (HB0.out.trans (hb1.mono HB0.out.size))
            clear hb1
            go_wp2_with fail
            refine (HRT.out w1 HB1.out).mono ?_
            rintro e w2 ⟨rfl, hb2⟩
            have HB2 := Lib.hid (HB1.out.trans (hb2.mono HB1.out.size))
            clear hb2
            obtain ⟨o0, o1⟩ := HOO.out w2 HB2.out
            go_wp2_with fail
            refine (HF.out w2 HB2.out).mono ?_
            rintro e w3 ⟨rfl, hb3⟩
            have HB3 := Lib.hid (HB2.out.trans (hb3.mono HB2.out.size))
            clear hb3
            obtain ⟨o0, o1⟩ := HOO.out w3 HB3.out
            go_wp2_with fail
            refine (HPU.out w3 HB3.out).mono ?_
            rintro e w4 ⟨A4, c4, rfl, hc4, -, hA4, hb4⟩
            have HB4 := Lib.hid (HB3.out.trans (hb4.mono HB3.out.size))
            have HC4 := Lib.hid (show ∀ wx, Below w0.heap.size w0 wx → (Below w4.heap.size w4 wx → Cels wx A4 P) from fun wx _ hb => hc4.keeps hb)
            have HF5 := Lib.hid (HFP.out A4 c4 w4 hc4)
            have HR5 := Lib.hid (fun wx (hb : Below w4.heap.size w4 wx) => HRP.out A4 c4 wx (hc4.keeps hb))
            have HD5 := Lib.hid (fun wx (hb : Below w4.heap.size w4 wx) => HDL.out A4 c4 wx (hc4.keeps hb) hA4)
            have HZ5 := Lib.hid (fun wx (hb : Below w4.heap.size w4 wx) => HSP.out A4 c4 wx (hc4.keeps hb))
            obtain ⟨hN, hM⟩ := HNM.out
            rw [hN]
            clear hb4 hc4 hA4 hN hM HFP HRP HDL HSP HPU
            obtain ⟨o0, o1⟩ := HOO.out w4 HB4.out
            go_wp2_with fail
            refine HF5.out.mono ?_
            rintro e w5 ⟨rfl, hb5⟩
            have HB5 := Lib.hid (HB4.out.trans (hb5.mono HB4.out.size))
            have HK5 := Lib.hid hb5
            clear hb5 HF5
            obtain ⟨o0, o1⟩ := HOO.out w5 HB5.out
            go_wp2_with fail
            refine (HR5.out w5 HK5.out).mono ?_
            rintro e w6 ⟨rfl, hb6⟩
            have HB6 := Lib.hid (HB5.out.trans (hb6.mono HB5.out.size))
            have HK6 := Lib.hid (HK5.out.trans (hb6.mono HK5.out.size))
            clear hb6 HR5
            obtain ⟨o0, o1⟩ := HOO.out w6 HB6.out
            go_wp2_with fail
            refine (HD5.out w6 HK6.out).mono ?_
            rintro e w7 ⟨A7, c7, rfl, hc7, -, -, hb7⟩
            have HB7 := Lib.hid (HB6.out.trans (hb7.mono HB6.out.size))
            have HK7 := Lib.hid (HK6.out.trans (hb7.mono HK6.out.size))
            have HF7 := Lib.hid (HFD.out A7 c7 w7 hc7)
            have HR7 := Lib.hid (fun wx (hb : Below w7.heap.size w7 wx) => HRD.out A7 c7 wx (hc7.keeps hb))
            have HZ7 := Lib.hid (fun wx (hb : Below w7.heap.size w7 wx) => HSD.out A7 c7 wx (hc7.keeps hb))
            obtain ⟨hN, hM⟩ := HNM.out
            rw [hM]
            clear hb7 hc7 hN hM HFD HRD HSD HD5
            obtain ⟨o0, o1⟩ := HOO.out w7 HB7.out
            go_wp2_with fail
            refine HF7.out.mono ?_
            rintro e w8 ⟨rfl, hb8⟩
            have HB8 := Lib.hid (HB7.out.trans (hb8.mono HB7.out.size))
            have HK8 := Lib.hid (HK7.out.trans (hb8.mono HK7.out.size))
            have HJ8 := Lib.hid hb8
            clear hb8 HF7
            obtain ⟨o0, o1⟩ := HOO.out w8 HB8.out
            go_wp2_with fail
            refine (HR7.out w8 HJ8.out).mono ?_
            rintro e w9 ⟨rfl, hb9⟩
            have HB9 := Lib.hid (HB8.out.trans (hb9.mono HB8.out.size))
            have HK9 := Lib.hid (HK8.out.trans (hb9.mono HK8.out.size))
            have HJ9 := Lib.hid (HJ8.out.trans (hb9.mono HJ8.out.size))
            clear hb9 HR7
            obtain ⟨o0, o1⟩ := HOO.out w9 HB9.out
            go_wp2_with fail
            clear o0 o1
            obtain ⟨wd, hwd⟩ : ∃ wd, w9.drew = wd := ⟨_, rfl⟩
            have HBd := Lib.hid (show Below w0.heap.size w0 wd from hwd ▸ below_drew_c HB9.out)
            have HKd := Lib.hid (show Below w4.heap.size w4 wd from hwd ▸ below_drew_c HK9.out)
            have HJd := Lib.hid (show Below w7.heap.size w7 wd from hwd ▸ below_drew_c HJ9.out)
            have hHeld := HOO.out wd HBd.out
            refine wp_region_noPanic ?_
            refine wp_region_sch (fun wx => wx.cell? ⟨B, 0, none⟩ = some (.string key) ∧ wx.cell? ⟨B, 1, none⟩ = some (.string val)) (fun i => [1, 3, 23].contains i)
              (.takes [0, 2, 5, 6, 7, 9, 10, 11] (.run 1 (.run 3 (.takes [4, 8, 12, 13, 14, 15, 16, 17, 18, 19, 20, 21, 22] (.run 23 (.takes [24, 25] .done)))))) (by kernel_rfl) (fun _ _ _ _ _ h => h) (by kernel_rfl) ?_
            rw [hwd]
            iterate 8 (
              refine sch_takes_cons ?_
              first
                | (refine sch_take (v := ?_) rfl (by assumption) (by rfl) ?_ ?_; rotate_left; (focus (intro wy hSy; (try dsimp only at hSy); go_simp; (try with_reducible rfl))))
                | (refine sch_pass rfl (by assumption) (by rfl) ?_)
              simp only [Act.put, List.setIfInBounds_toArray, List.set_cons_zero, List.set_cons_succ])
            refine sch_takes_nil ?_
            refine sch_run rfl (fun K hK => ?_)
            go_simp
            with_reducible refine (HZ5.out _ HKd.out).mono ?_
            rintro e w10 ⟨rfl, hb10⟩
            have HB10 := Lib.hid (HBd.out.trans (hb10.mono HBd.out.size))
            have HJ10 := Lib.hid (HJd.out.trans (hb10.mono HJd.out.size))
            have hHeld := HOO.out w10 HB10.out
            clear hb10
            refine hK.out _ _ (fun _ => hHeld) ?_
            clear hK K
            try simp only [Act.put, List.setIfInBounds_toArray, List.set_cons_zero, List.set_cons_succ]
            refine sch_run rfl (fun K hK => ?_)
            go_simp
            with_reducible refine (HZ7.out _ HJ10.out).mono ?_
            rintro e w11 ⟨rfl, hb11⟩
            have HB11 := Lib.hid (HB10.out.trans (hb11.mono HB10.out.size))
            have hHeld := HOO.out w11 HB11.out
            clear hb11
            refine hK.out _ _ (fun _ => hHeld) ?_
            clear hK K
            try simp only [Act.put, List.setIfInBounds_toArray, List.set_cons_zero, List.set_cons_succ]
            iterate 13 (
              refine sch_takes_cons ?_
              first
                | (refine sch_take (v := ?_) rfl (by assumption) (by rfl) ?_ ?_; rotate_left; (focus (intro wy hSy; (try dsimp only at hSy); go_simp; (try with_reducible rfl))))
                | (refine sch_pass rfl (by assumption) (by rfl) ?_)
              simp only [Act.put, List.setIfInBounds_toArray, List.set_cons_zero, List.set_cons_succ])
            refine sch_takes_nil ?_
            refine sch_run rfl (fun K hK => ?_)
            go_simp
            with_reducible refine (HH.out _ HB11.out).mono ?_
            rintro e w12 ⟨rfl, hb12⟩
            have HB12 := Lib.hid (HB11.out.trans (hb12.mono HB11.out.size))
            have hHeld := HOO.out w12 HB12.out
            clear hb12
            refine hK.out _ _ (fun _ => hHeld) ?_
            clear hK K
            try simp only [Act.put, List.setIfInBounds_toArray, List.set_cons_zero, List.set_cons_succ]
            iterate 2 (
              refine sch_takes_cons ?_
              first
                | (refine sch_take (v := ?_) rfl (by assumption) (by rfl) ?_ ?_; rotate_left; (focus (intro wy hSy; (try dsimp only at hSy); go_simp; (try with_reducible rfl))))
                | (refine sch_pass rfl (by assumption) (by rfl) ?_)
              simp only [Act.put, List.setIfInBounds_toArray, List.set_cons_zero, List.set_cons_succ])
            refine sch_takes_nil ?_
            refine sch_done ?_
            refine NoPanic.normal ?_
            clear hHeld
            go_wp2_with fail
            go_ret
            exact ⟨rfl, HEND.out _ HB12.out⟩
end Go.Proofs.Ytbganaaiaokfmaa
