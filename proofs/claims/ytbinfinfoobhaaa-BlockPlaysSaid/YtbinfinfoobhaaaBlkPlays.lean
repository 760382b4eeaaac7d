/-
  BlockPlays: the walk.
-/
import Derived.Test.YtbinfinfoobhaaaBlkPTwo
namespace Go.Proofs.Ytbinfinfoobhaaa
open Go.RowKit

set_option maxRecDepth 100000 in
theorem small_any (b s : Int) (w : World) : Calls Try.prog 8 #[.int .i64 b, .int .i64 s] w fun e w' => e = .returned (.bool (decide (b ≤ 8 ∧ s ≤ 4))) ∧ w = w' := by
  by_cases h1 : b ≤ 8
  · by_cases h2 : s ≤ 4
    · rw [show decide (b ≤ 8 ∧ s ≤ 4) = true by simp [h1, h2]]
      go_enter Try.func8, Try.ntmps8
      go_wp2
      go_ret
      exact ⟨by simp [h2], rfl⟩
    · rw [show decide (b ≤ 8 ∧ s ≤ 4) = false by simp [h2]]
      have h3 : 4 < s := by omega
      go_enter Try.func8, Try.ntmps8
      go_wp2
      go_ret
      exact ⟨by simp [h2], rfl⟩
  · rw [show decide (b ≤ 8 ∧ s ≤ 4) = false by simp [h1]]
    have h3 : 8 < b := by omega
    go_enter Try.func8, Try.ntmps8
    go_wp2
    go_ret
    exact ⟨rfl, rfl⟩

theorem two_new {W w1 w2 : World} {nb ns : Nat} {d : DV} {x : RV} (h1 : d.In w1) (h2 : Below W.heap.size W w1) (h3 : ∀ k, d.mine k → W.heap.size ≤ k) (e1 : d.nb = nb) (e2 : d.ns = ns) (e3 : d.vis = List.replicate (nb * (ns * 64)) 0) (e4 : d.dur = List.replicate (nb * (ns * 64)) 0) (e5 : d.pend = [])
    (k1 : x.In w2) (k2 : Below w1.heap.size w1 w2) (k3 : ∀ k, x.mine k → w1.heap.size ≤ k) (k4 : x.R = ⟨ns, List.replicate nb (List.replicate (ns * 64) 0), []⟩) : Two W d.ptr x.B nb ns 0 w2 := by
  subst e1 e2
  refine ⟨d, x, rfl, rfl, rfl, rfl, h1.keeps k2, k1, ?_, h2.trans (k2.mono h2.size), h3, fun k hk => Nat.le_trans h2.size (k3 k hk), by rw [e5]; exact Nat.le_refl _⟩
  rw [k4]
  exact rel_new e3 e4 e5

set_option maxRecDepth 100000 in
set_option maxHeartbeats 4000000 in
theorem plays_any (nb0 ns0 : Int) (LA : Option Addr) (lc : Nat) (l : List ActV) (w : World) (hl : Acts w LA l) (hln : l.length ≤ 9223372036854775807) (hm0 : -9223372036854775808 ≤ nb0 ∧ nb0 ≤ 9223372036854775807) (hm1 : -9223372036854775808 ≤ ns0 ∧ ns0 ≤ 9223372036854775807) :
    Calls Try.prog 3 #[.int .i64 nb0, .int .i64 ns0, .slice LA l.length lc] w fun e w' => e = .returned (.bool true) ∧ Below w.heap.size w w' := by
  have HL := Lib.hid hl
  have l1 : (l.length : Int) ≤ 9223372036854775807 := by omega
  have HH := Lib.hid (fun wx (hb : Below w.heap.size w wx) => (head_any wx).mono fun e w' (hh : _ ∧ _) => show e = .returned (.bool true) ∧ Below w.heap.size w w' from ⟨hh.1, hb.trans (hh.2.mono hb.size)⟩)
  by_cases hbad : ¬ (1 ≤ nb0 ∧ nb0 ≤ 1000 ∧ 1 ≤ ns0 ∧ ns0 ≤ 256)
  · -- sizes that may not be
    have HD := Lib.hid (fun wx => new_bad nb0 ns0 wx hbad)
    have HR := Lib.hid (fun wx => rnew_bad nb0 ns0 wx hbad)
    have HSM := Lib.hid (small_any nb0 ns0 w)
    have hcases : (nb0 ≤ 8 ∧ ns0 ≤ 4) ∨ (¬ (nb0 ≤ 8 ∧ ns0 ≤ 4) ∧ (nb0 < 1 ∨ (1 ≤ nb0 ∧ 1000 < nb0) ∨ (1 ≤ nb0 ∧ nb0 ≤ 1000 ∧ ns0 < 1) ∨ (1 ≤ nb0 ∧ nb0 ≤ 1000 ∧ 1 ≤ ns0 ∧ 256 < ns0))) := by omega
    have HB := Lib.hid (HH.out w (Below.refl _ _))
    clear hl hln HL hbad hm0 hm1 HH
    rcases hcases with hs | ⟨hs, hc⟩
    · rw [decide_eq_true hs] at HSM
      go_enter Try.func3, Try.ntmps3
      go_wp2_with fail
      refine HSM.out.mono ?_
      rintro e w0 ⟨rfl, rfl⟩
      go_wp2_with fail
      refine (HD.out _).mono ?_
      rintro e w1 ⟨rfl, rfl⟩
      go_wp2_with fail
      refine (HR.out _).mono ?_
      rintro e w1 ⟨rfl, rfl⟩
      go_wp2_with fail
      refine HB.out.mono ?_
      rintro e w1 ⟨rfl, hb⟩
      have HB1 := Lib.hid hb
      clear hb
      go_wp2
      go_ret
      exact ⟨rfl, HB1.out⟩
    · rw [decide_eq_false hs] at HSM
      rcases hc with q1 | ⟨q1, q2⟩ | ⟨q1, q2, q3⟩ | ⟨q1, q2, q3, q4⟩
      all_goals
        go_enter Try.func3, Try.ntmps3
        go_wp2_with fail
        refine HSM.out.mono ?_
        rintro e w0 ⟨rfl, rfl⟩
        go_wp2_with fail
        refine (HD.out _).mono ?_
        rintro e w1 ⟨rfl, rfl⟩
        go_wp2_with fail
        refine (HR.out _).mono ?_
        rintro e w1 ⟨rfl, rfl⟩
        go_wp2_with fail
        refine HB.out.mono ?_
        rintro e w1 ⟨rfl, hb⟩
        have HB1 := Lib.hid hb
        clear hb
        go_wp2
        go_ret
        exact ⟨rfl, HB1.out⟩
  · obtain ⟨b1, b2, s1, s2⟩ := Classical.not_not.1 hbad
    by_cases hsm : nb0 ≤ 8 ∧ ns0 ≤ 4
    · obtain ⟨nb, rfl⟩ : ∃ nb : Nat, nb0 = nb := ⟨nb0.toNat, by omega⟩
      obtain ⟨ns, rfl⟩ : ∃ ns : Nat, ns0 = ns := ⟨ns0.toNat, by omega⟩
      have hd : decide ((nb : Int) ≤ 8 ∧ (ns : Int) ≤ 4) = true := by simpa using hsm
      have HSM := Lib.hid (small_any nb ns w)
      rw [hd] at HSM
      have HD := Lib.hid (new_good nb ns w ⟨by omega, by omega⟩ ⟨by omega, by omega⟩)
      have HR := Lib.hid (fun wx => rnew_good nb ns wx (by omega) (by omega) (by omega) (by omega))
      have n8 : (nb : Int) ≤ 8 := hsm.1
      have n4 : (ns : Int) ≤ 4 := hsm.2
      clear hbad hsm hd hl hln hm0 hm1
      go_enter Try.func3, Try.ntmps3
      go_wp2_with fail
      refine HSM.out.mono ?_
      rintro e w0 ⟨rfl, rfl⟩
      go_wp2_with fail
      refine HD.out.mono ?_
      rintro e w1 ⟨d, rfl, h1, h2, h3, e1, e2, e3, e4, e5⟩
      have HTN := Lib.hid (fun (w2 : World) (x : RV) => two_new (W := w) (w1 := w1) (w2 := w2) (nb := nb) (ns := ns) (d := d) (x := x) h1 h2 h3 e1 e2 e3 e4 e5)
      clear HSM HD h1 h2 h3 e1 e2 e3 e4 e5
      have hdp : d.ptr ≠ .pointer none := by unfold DV.ptr; simp
      unfold DV.ptr at HTN hdp ⊢
      generalize d.A = A0 at *
      go_wp2_with fail
      refine (HR.out w1).mono ?_
      rintro e w2 ⟨x, rfl, k1, k2, k3, k4⟩
      have HT := Lib.hid (show Two w (.pointer (some ⟨A0, 0, none⟩)) x.B nb ns (0 : Nat) w2 from HTN.out w2 x k1 k2 k3 k4)
      clear HTN HR k1 k2 k3 k4 hdp
      unfold RV.ptr
      generalize x.B = B at *
      go_wp2_with fail
      generalize (Value.pointer (some ⟨A0, 0, none⟩)) = p at *
      go_loopw [11, 12, 13, 14, 15, 16, 17] (fun i _ _ _ _ _ _ wr => ∃ k : Nat, k ≤ l.length ∧ k ≤ 50 ∧ i = .int .i64 k ∧ Hid (Two w p B nb ns k wr)) (fun i _ _ _ _ _ _ _ => 50 - (intOf i).toNat)
      case atStart => exact ⟨0, by omega, by omega, rfl, HT⟩
      case round =>
        clear HT
        obtain ⟨k, hk, hk50, rfl, HT⟩ := hrel
        by_cases hend : k < l.length ∧ k < 50
        · have g1 : (k : Int) < l.length := by omega
          have g2 : (k : Int) < 50 := by omega
          have hk1 : k + 1 ≤ l.length := by omega
          have hk2 : k + 1 ≤ 50 := by omega
          obtain ⟨g, off, rfl, c0, c1, c2, c3, c4⟩ := HL.out.cells HT.out.since hend.1
          have hok := HL.out.ok _ (List.getElem_mem hend.1)
          generalize l[k]'hend.1 = x at *
          obtain ⟨what, xB, xN, xc, xA, xn, xcap, keep⟩ := x
          have HOK := Lib.hid hok
          have hwl : (what : Int) < 256 := by have : what < 256 := hok.what; omega
          have HGR := Lib.hid (fun wx => great_any what xB xN xc xA xn xcap wx)
          have HTX := Lib.hid (fun wx => text_any what xB xN xc xA xn xcap wx)
          replace c0 : wr.cell? ⟨g, off + k * 5, none⟩ = some (.int .u8 (what : Int)) := c0
          replace c1 : wr.cell? ⟨g, off + k * 5 + 1, none⟩ = some (.int .i64 xB) := c1
          replace c2 : wr.cell? ⟨g, off + k * 5 + 2, none⟩ = some (.int .i64 xN) := c2
          replace c3 : wr.cell? ⟨g, off + k * 5 + 3, none⟩ = some (.int .u8 (xc : Int)) := c3
          replace c4 : wr.cell? ⟨g, off + k * 5 + 4, none⟩ = some (.slice xA xn xcap) := c4
          rw [show (actCells what xB xN xc xA xn xcap).toArray = #[.int .u8 (what : Int), .int .i64 xB, .int .i64 xN, .int .u8 (xc : Int), .slice xA xn xcap] from rfl] at HGR HTX
          have hb1 : Below wr.heap.size wr (wr.alloc (.cells #[.int .u8 (what : Int), .int .i64 xB, .int .i64 xN, .int .u8 (xc : Int), .slice xA xn xcap] 34)) := (Below.refl _ _).alloc (Nat.le_refl _) _
          have hr1 : Row (wr.alloc (.cells #[.int .u8 (what : Int), .int .i64 xB, .int .i64 xN, .int .u8 (xc : Int), .slice xA xn xcap] 34)) wr.heap.size 34 [.int .u8 (what : Int), .int .i64 xB, .int .i64 xN, .int .u8 (xc : Int), .slice xA xn xcap] (0, 0) := Row.new wr _ _ _
          clear hok hend hk hk50
          go_wp2_with fail
          generalize hw1 : wr.alloc (.cells #[.int .u8 (what : Int), .int .i64 xB, .int .i64 xN, .int .u8 (xc : Int), .slice xA xn xcap] 34) = w1 at *
          have HT1 := Lib.hid (HT.out.keeps hb1)
          clear hb1
          generalize wr.heap.size = X at *
          refine (HGR.out w1).mono ?_
          rintro e w2 ⟨rfl, hb2⟩
          have HS := Lib.hid (show Two w p B nb ns k w2 ∧ Row w2 X 34 [.int .u8 (what : Int), .int .i64 xB, .int .i64 xN, .int .u8 (xc : Int), .slice xA xn xcap] (0, 0) from ⟨HT1.out.keeps hb2, hr1.below hb2 hr1.lt⟩)
          have HXC := Lib.hid (show ∀ wx, Row wx X 34 [.int .u8 (what : Int), .int .i64 xB, .int .i64 xN, .int .u8 (xc : Int), .slice xA xn xcap] (0, 0) → wx.cell? ⟨X, 0, none⟩ = some (.int .u8 (what : Int)) ∧ wx.cell? ⟨X, 1, none⟩ = some (.int .i64 xB) ∧ wx.cell? ⟨X, 2, none⟩ = some (.int .i64 xN) ∧ wx.cell? ⟨X, 3, none⟩ = some (.int .u8 (xc : Int)) ∧ wx.cell? ⟨X, 4, none⟩ = some (.slice xA xn xcap) from fun wx hX => ⟨hX.cell 0, hX.cell 1, hX.cell 2, hX.cell 3, hX.cell 4⟩)
          clear HT HT1 hr1 hb2 hw1 c0 c1 c2 c3 c4 HGR
          by_cases h60 : 60 < xn
          · rw [show decide (60 < xn) = true by simpa using h60]
            have HS2 := Lib.hid HS.out.1.since
            clear HS HXC HTX
            go_wp2_with fail
            refine (HH.out _ HS2.out).mono ?_
            rintro e w3 ⟨rfl, hb⟩
            have HB1 := Lib.hid hb
            clear hb HS2
            go_wp2
            go_ret
            exact ⟨rfl, HB1.out⟩
          · rw [show decide (60 < xn) = false by simpa using h60]
            obtain ⟨z0, z1, z2, z3, z4⟩ := HXC.out w2 HS.out.2
            rcases (show what % 6 = 3 ∨ what % 6 = 4 ∨ what % 6 = 5 ∨ what % 6 < 3 by omega) with h6 | h6 | h6 | h6
            · have hw6 : (what : Int) % 6 = 3 := by omega
              have HSY := Lib.hid (HS.out.1.sync (by omega))
              clear h6 HXC HTX HS HOK
              go_wp2_with fail
              refine HSY.out.mono ?_
              rintro e w3 ⟨rfl, HS3⟩
              unfold bptr at HS3
              clear HSY z0 z1 z2 z3 z4
              go_wp2_with fail
              refine HS3.out.mono ?_
              rintro e w4 ⟨rfl, h4⟩
              have HTW := Lib.hid (h4.more (show k ≤ k + 1 by omega))
              clear HS3 h4
              obtain ⟨m, A1, cc1, A2, cc2, hm, hns, hnb, HLC, HPD, HBK, HSZ⟩ := HTW.out.look
              have HLC2 := Lib.hid (show ∀ wx, Below w4.heap.size w4 wx → Below w4.heap.size w4 wx ∧ wx.cell? ⟨B, 0, none⟩ = some (.int .i64 (ns : Int)) ∧ wx.cell? ⟨B, 1, none⟩ = some (.slice A1 nb cc1) ∧ wx.cell? ⟨B, 2, none⟩ = some (.slice A2 m cc2) from fun wx hb => ⟨hb, HLC.out wx hb⟩)
              have hk0 : Below w4.heap.size w4 w4.drew := (Below.refl _ w4).drew
              have hmm : (m : Int) ≤ 1000 := by omega
              have hwns : IntKind.i64.wrap (64 * (ns : Int)) = 64 * (ns : Int) := IntWalk.i64_in _ (by omega)
              go_wp2_with fail
              go_region_held3 (fun wx => Below w4.heap.size w4 wx ∧ wx.cell? ⟨B, 0, none⟩ = some (.int .i64 (ns : Int)) ∧ wx.cell? ⟨B, 1, none⟩ = some (.slice A1 nb cc1) ∧ wx.cell? ⟨B, 2, none⟩ = some (.slice A2 m cc2)) (first | exact HLC2.out _ (by assumption) | go_keep)
                (first
                  | ((with_reducible refine (HPD.out _ (by assumption)).mono ?_); rintro e wa ⟨rfl, rfl⟩)
                  | ((with_reducible refine (HBK.out _ (by assumption)).mono ?_); rintro e wa ⟨rfl, rfl⟩)
                  | ((with_reducible refine (HSZ.out _ (by assumption)).mono ?_); rintro e wa ⟨rfl, rfl⟩))
              have HTD := Lib.hid (show Two w p B nb ns (k + 1) w4.drew from HTW.out.drewN 1)
              clear HTW HLC HLC2 HPD HBK HSZ hk0
              go_wp2_with fail
              go_loopw [13, 14, 15, 16, 17] (fun b _ _ _ _ wr2 => ∃ i : Int, b = .int .i64 i ∧ -1 ≤ i ∧ i ≤ nb + 1 ∧ Hid (Two w p B nb ns (k + 1) wr2)) (fun b _ _ _ _ _ => ((nb : Int) + 1 - intOf b).toNat)
              case atStart => exact ⟨_, rfl, by omega, by omega, HTD⟩
              case round =>
                clear HTD
                obtain ⟨i, rfl, hi0, hi1, HI⟩ := hrel
                obtain ⟨m2, A3, cc3, A4, cc4, -, -, -, HLC, -, -, -⟩ := HI.out.look
                obtain ⟨-, y1, -⟩ := HLC.out wr (Below.refl _ _)
                clear HLC
                by_cases hin : i ≤ nb
                · obtain ⟨s, a, hrd⟩ := HI.out.read (by omega) i
                  have HRD := Lib.hid hrd
                  clear hrd HI
                  go_wp2_with fail
                  refine HRD.out.mono ?_
                  rintro e w5 ⟨rfl, HR2⟩
                  unfold bptr at HR2
                  clear HRD y1
                  go_wp2_with fail
                  refine HR2.out.mono ?_
                  rintro e w6 ⟨rfl, h6⟩
                  have H6 := Lib.hid h6
                  clear HR2 h6
                  go_wp2_with fail
                  go_roundw
                  case rel => exact ⟨i + 1, by go_num, by omega, by omega, H6⟩
                  case measure => simp [intOf]; omega
                · have hin2 : ¬ i ≤ (nb : Int) := hin
                  go_wp2_with fail
                  go_roundw
                  case rel => exact ⟨k + 1, hk1, hk2, by go_num, HI⟩
                  case measure => simp [intOf]; omega
            · have hw6 : (what : Int) % 6 = 4 := by omega
              have HSY := Lib.hid (HS.out.1.crash (by omega) HOK.out.keep xcap)
              have hXr := HS.out.2
              clear h6 HTX HS
              go_wp2_with fail
              refine HSY.out.mono ?_
              rintro e w3 ⟨rfl, hst, HS3⟩
              unfold bptr at HS3
              have hX3 := hst X _ hXr
              clear z0 z1 z2 z3 z4
              obtain ⟨z0, z1, z2, z3, z4⟩ := HXC.out w3 hX3
              clear HSY hXr hX3 hst HXC
              go_wp2_with fail
              refine HS3.out.mono ?_
              rintro e w4 ⟨rfl, h4⟩
              have HTW := Lib.hid (h4.more (show k ≤ k + 1 by omega))
              clear HS3 h4 HOK z0 z1 z2 z3 z4
              obtain ⟨m, A1, cc1, A2, cc2, hm, hns, hnb, HLC, HPD, HBK, HSZ⟩ := HTW.out.look
              have HLC2 := Lib.hid (show ∀ wx, Below w4.heap.size w4 wx → Below w4.heap.size w4 wx ∧ wx.cell? ⟨B, 0, none⟩ = some (.int .i64 (ns : Int)) ∧ wx.cell? ⟨B, 1, none⟩ = some (.slice A1 nb cc1) ∧ wx.cell? ⟨B, 2, none⟩ = some (.slice A2 m cc2) from fun wx hb => ⟨hb, HLC.out wx hb⟩)
              have hk0 : Below w4.heap.size w4 w4.drew := (Below.refl _ w4).drew
              have hmm : (m : Int) ≤ 1000 := by omega
              have hwns : IntKind.i64.wrap (64 * (ns : Int)) = 64 * (ns : Int) := IntWalk.i64_in _ (by omega)
              go_wp2_with fail
              go_region_held3 (fun wx => Below w4.heap.size w4 wx ∧ wx.cell? ⟨B, 0, none⟩ = some (.int .i64 (ns : Int)) ∧ wx.cell? ⟨B, 1, none⟩ = some (.slice A1 nb cc1) ∧ wx.cell? ⟨B, 2, none⟩ = some (.slice A2 m cc2)) (first | exact HLC2.out _ (by assumption) | go_keep)
                (first
                  | ((with_reducible refine (HPD.out _ (by assumption)).mono ?_); rintro e wa ⟨rfl, rfl⟩)
                  | ((with_reducible refine (HBK.out _ (by assumption)).mono ?_); rintro e wa ⟨rfl, rfl⟩)
                  | ((with_reducible refine (HSZ.out _ (by assumption)).mono ?_); rintro e wa ⟨rfl, rfl⟩))
              have HTD := Lib.hid (show Two w p B nb ns (k + 1) w4.drew from HTW.out.drewN 1)
              clear HTW HLC HLC2 HPD HBK HSZ hk0
              go_wp2_with fail
              go_loopw [13, 14, 15, 16, 17] (fun b _ _ _ _ wr2 => ∃ i : Int, b = .int .i64 i ∧ -1 ≤ i ∧ i ≤ nb + 1 ∧ Hid (Two w p B nb ns (k + 1) wr2)) (fun b _ _ _ _ _ => ((nb : Int) + 1 - intOf b).toNat)
              case atStart => exact ⟨_, rfl, by omega, by omega, HTD⟩
              case round =>
                clear HTD
                obtain ⟨i, rfl, hi0, hi1, HI⟩ := hrel
                obtain ⟨m2, A3, cc3, A4, cc4, -, -, -, HLC, -, -, -⟩ := HI.out.look
                obtain ⟨-, y1, -⟩ := HLC.out wr (Below.refl _ _)
                clear HLC
                by_cases hin : i ≤ nb
                · obtain ⟨s, a, hrd⟩ := HI.out.read (by omega) i
                  have HRD := Lib.hid hrd
                  clear hrd HI
                  go_wp2_with fail
                  refine HRD.out.mono ?_
                  rintro e w5 ⟨rfl, HR2⟩
                  unfold bptr at HR2
                  clear HRD y1
                  go_wp2_with fail
                  refine HR2.out.mono ?_
                  rintro e w6 ⟨rfl, h6⟩
                  have H6 := Lib.hid h6
                  clear HR2 h6
                  go_wp2_with fail
                  go_roundw
                  case rel => exact ⟨i + 1, by go_num, by omega, by omega, H6⟩
                  case measure => simp [intOf]; omega
                · have hin2 : ¬ i ≤ (nb : Int) := hin
                  go_wp2_with fail
                  go_roundw
                  case rel => exact ⟨k + 1, hk1, hk2, by go_num, HI⟩
                  case measure => simp [intOf]; omega
            · have hw6 : (what : Int) % 6 = 5 := by omega
              have HTW := Lib.hid (HS.out.1.more (show k ≤ k + 1 by omega))
              clear h6 HTX HS HXC HOK
              obtain ⟨m, A1, cc1, A2, cc2, hm, hns, hnb, HLC, HPD, HBK, HSZ⟩ := HTW.out.look
              have HLC2 := Lib.hid (show ∀ wx, Below w2.heap.size w2 wx → Below w2.heap.size w2 wx ∧ wx.cell? ⟨B, 0, none⟩ = some (.int .i64 (ns : Int)) ∧ wx.cell? ⟨B, 1, none⟩ = some (.slice A1 nb cc1) ∧ wx.cell? ⟨B, 2, none⟩ = some (.slice A2 m cc2) from fun wx hb => ⟨hb, HLC.out wx hb⟩)
              have hk0 : Below w2.heap.size w2 w2.drew := (Below.refl _ w2).drew
              have hmm : (m : Int) ≤ 1000 := by omega
              have hwns : IntKind.i64.wrap (64 * (ns : Int)) = 64 * (ns : Int) := IntWalk.i64_in _ (by omega)
              go_wp2_with fail
              go_region_held3 (fun wx => Below w2.heap.size w2 wx ∧ wx.cell? ⟨B, 0, none⟩ = some (.int .i64 (ns : Int)) ∧ wx.cell? ⟨B, 1, none⟩ = some (.slice A1 nb cc1) ∧ wx.cell? ⟨B, 2, none⟩ = some (.slice A2 m cc2)) (first | exact HLC2.out _ (by assumption) | go_keep)
                (first
                  | ((with_reducible refine (HPD.out _ (by assumption)).mono ?_); rintro e wa ⟨rfl, rfl⟩)
                  | ((with_reducible refine (HBK.out _ (by assumption)).mono ?_); rintro e wa ⟨rfl, rfl⟩)
                  | ((with_reducible refine (HSZ.out _ (by assumption)).mono ?_); rintro e wa ⟨rfl, rfl⟩))
              have HTD := Lib.hid (show Two w p B nb ns (k + 1) w2.drew from HTW.out.drewN 1)
              clear HTW HLC HLC2 HPD HBK HSZ hk0
              go_wp2_with fail
              go_loopw [13, 14, 15, 16, 17] (fun b _ _ _ _ wr2 => ∃ i : Int, b = .int .i64 i ∧ -1 ≤ i ∧ i ≤ nb + 1 ∧ Hid (Two w p B nb ns (k + 1) wr2)) (fun b _ _ _ _ _ => ((nb : Int) + 1 - intOf b).toNat)
              case atStart => exact ⟨_, rfl, by omega, by omega, HTD⟩
              case round =>
                clear HTD
                obtain ⟨i, rfl, hi0, hi1, HI⟩ := hrel
                obtain ⟨m2, A3, cc3, A4, cc4, -, -, -, HLC, -, -, -⟩ := HI.out.look
                obtain ⟨-, y1, -⟩ := HLC.out wr (Below.refl _ _)
                clear HLC
                by_cases hin : i ≤ nb
                · obtain ⟨s, a, hrd⟩ := HI.out.read (by omega) i
                  have HRD := Lib.hid hrd
                  clear hrd HI
                  go_wp2_with fail
                  refine HRD.out.mono ?_
                  rintro e w5 ⟨rfl, HR2⟩
                  unfold bptr at HR2
                  clear HRD y1
                  go_wp2_with fail
                  refine HR2.out.mono ?_
                  rintro e w6 ⟨rfl, h6⟩
                  have H6 := Lib.hid h6
                  clear HR2 h6
                  go_wp2_with fail
                  go_roundw
                  case rel => exact ⟨i + 1, by go_num, by omega, by omega, H6⟩
                  case measure => simp [intOf]; omega
                · have hin2 : ¬ i ≤ (nb : Int) := hin
                  go_wp2_with fail
                  go_roundw
                  case rel => exact ⟨k + 1, hk1, hk2, by go_num, HI⟩
                  case measure => simp [intOf]; omega
            · have hw3 : ¬ (what : Int) % 6 = 3 := by omega
              have hw4 : ¬ (what : Int) % 6 = 4 := by omega
              have hw5 : ¬ (what : Int) % 6 = 5 := by omega
              obtain ⟨P0, hP0⟩ : ∃ P0 : World → Prop, (fun wx => Two w p B nb ns k wx ∧ Row wx X 34 [.int .u8 (what : Int), .int .i64 xB, .int .i64 xN, .int .u8 (xc : Int), .slice xA xn xcap] (0, 0)) = P0 := ⟨_, rfl⟩
              obtain ⟨P1, hP1⟩ : ∃ P1 : World → Prop, (fun wx => Row wx X 34 [.int .u8 (what : Int), .int .i64 xB, .int .i64 xN, .int .u8 (xc : Int), .slice xA xn xcap] (0, 0) ∧ ∀ w1', Below wx.heap.size wx w1' → Calls Try.prog 19 #[bptr B, .int .i64 xB, .string (textOf xN xc)] w1' fun e w2 => e = .returned (.int .i64 (wans nb ns xB (textOf xN xc))) ∧ Stay w1' w2 ∧ Hid (Two w p B nb ns (k + 1) w2)) = P1 := ⟨_, rfl⟩
              obtain ⟨P2, hP2⟩ : ∃ P2 : World → Prop, (fun wx => Two w p B nb ns (k + 1) wx ∧ Row wx X 34 [.int .u8 (what : Int), .int .i64 xB, .int .i64 xN, .int .u8 (xc : Int), .slice xA xn xcap] (0, 0)) = P2 := ⟨_, rfl⟩
              have hq0 : P0 w2.drew := by rw [← hP0]; exact ⟨HS.out.1.drewN 1, HS.out.2⟩
              have HC0 := Lib.hid (show ∀ wx, P0 wx → _ from fun wx hq => HXC.out wx (by rw [← hP0] at hq; exact hq.2))
              have HC1 := Lib.hid (show ∀ wx, P1 wx → _ from fun wx hq => HXC.out wx (by rw [← hP1] at hq; exact hq.1))
              have HC2 := Lib.hid (show ∀ wx, P2 wx → _ from fun wx hq => HXC.out wx (by rw [← hP2] at hq; exact hq.2))
              have HT0 := Lib.hid (show ∀ wx, P0 wx → Calls Try.prog 18 #[.agg #[.int .u8 (what : Int), .int .i64 xB, .int .i64 xN, .int .u8 (xc : Int), .slice xA xn xcap]] wx fun e w' => e = .returned (.string (textOf xN xc)) ∧ P0 w' from fun wx hq => (HTX.out wx).mono fun e w' hh => ⟨hh.1, by rw [← hP0] at hq ⊢; exact ⟨hq.1.keeps hh.2, hq.2.below hh.2 hq.2.lt⟩⟩)
              have HT1 := Lib.hid (show ∀ wx, P1 wx → Calls Try.prog 18 #[.agg #[.int .u8 (what : Int), .int .i64 xB, .int .i64 xN, .int .u8 (xc : Int), .slice xA xn xcap]] wx fun e w' => e = .returned (.string (textOf xN xc)) ∧ P1 w' from fun wx hq => (HTX.out wx).mono fun e w' hh => ⟨hh.1, by rw [← hP1] at hq ⊢; exact ⟨hq.1.below hh.2 hq.1.lt, fun w1' hb => hq.2 w1' (hh.2.trans (hb.mono hh.2.size))⟩⟩)
              have HW0 := Lib.hid (show ∀ wx, P0 wx → Calls Try.prog 17 #[p, .int .i64 xB, .string (textOf xN xc)] wx fun e w' => e = .returned (.int .i64 (wans nb ns xB (textOf xN xc))) ∧ P1 w' from fun wx hq => by
                rw [← hP0] at hq
                refine (hq.1.write (by omega) xB (textOf xN xc) (by rw [textOf_size]; have := many_le xN; omega)).mono fun e w' hh => ⟨hh.1, ?_⟩
                rw [← hP1]
                exact ⟨hh.2.1 _ _ hq.2, hh.2.2.2.out⟩)
              have HQ1 := Lib.hid (show ∀ wx, P1 wx → Calls Try.prog 19 #[.pointer (some ⟨B, 0, none⟩), .int .i64 xB, .string (textOf xN xc)] wx fun e w' => e = .returned (.int .i64 (wans nb ns xB (textOf xN xc))) ∧ P2 w' from fun wx hq => by
                rw [← hP1] at hq
                refine (hq.2 wx (Below.refl _ _)).mono fun e w' hh => ⟨hh.1, ?_⟩
                rw [← hP2]
                exact ⟨hh.2.2.out, hh.2.1 _ _ hq.1⟩)
              have HP2 := Lib.hid (show ∀ wx, P2 wx → Two w p B nb ns (k + 1) wx from fun wx hq => by rw [← hP2] at hq; exact hq.1)
              generalize wans nb ns xB (textOf xN xc) = wa0 at *
              generalize textOf xN xc = tx at *
              clear hP0 hP1 hP2 HTX HOK h6 HXC HS
              go_wp2_with fail
              go_region_held3 (fun wx => wx.cell? ⟨X, 0, none⟩ = some (.int .u8 (what : Int)) ∧ wx.cell? ⟨X, 1, none⟩ = some (.int .i64 xB) ∧ wx.cell? ⟨X, 2, none⟩ = some (.int .i64 xN) ∧ wx.cell? ⟨X, 3, none⟩ = some (.int .u8 (xc : Int)) ∧ wx.cell? ⟨X, 4, none⟩ = some (.slice xA xn xcap)) (first | exact HC0.out _ (by assumption) | exact HC1.out _ (by assumption) | exact HC2.out _ (by assumption) | go_keep)
                (first
                  | ((with_reducible refine (HT0.out _ (by assumption)).mono ?_); rintro e wa ⟨rfl, hqa⟩)
                  | ((with_reducible refine (HW0.out _ (by assumption)).mono ?_); rintro e wb ⟨rfl, hqb⟩)
                  | ((with_reducible refine (HT1.out _ (by assumption)).mono ?_); rintro e wc ⟨rfl, hqc⟩)
                  | ((with_reducible refine (HQ1.out _ (by assumption)).mono ?_); rintro e wd ⟨rfl, hqd⟩))
              have HTW := Lib.hid (HP2.out _ hqd)
              clear hqd HP2 HC0 HC1 HC2 HT0 HT1 HW0 HQ1 hq0 z0 z1 z2 z3 z4
              obtain ⟨m, A1, cc1, A2, cc2, hm, hns, hnb, HLC, HPD, HBK, HSZ⟩ := HTW.out.look
              have HLC2 := Lib.hid (show ∀ wx, Below wd.heap.size wd wx → Below wd.heap.size wd wx ∧ wx.cell? ⟨B, 0, none⟩ = some (.int .i64 (ns : Int)) ∧ wx.cell? ⟨B, 1, none⟩ = some (.slice A1 nb cc1) ∧ wx.cell? ⟨B, 2, none⟩ = some (.slice A2 m cc2) from fun wx hb => ⟨hb, HLC.out wx hb⟩)
              have hk0 : Below wd.heap.size wd wd.drew := (Below.refl _ wd).drew
              have hmm : (m : Int) ≤ 1000 := by omega
              have hwns : IntKind.i64.wrap (64 * (ns : Int)) = 64 * (ns : Int) := IntWalk.i64_in _ (by omega)
              go_wp2_with fail
              go_region_held3 (fun wx => Below wd.heap.size wd wx ∧ wx.cell? ⟨B, 0, none⟩ = some (.int .i64 (ns : Int)) ∧ wx.cell? ⟨B, 1, none⟩ = some (.slice A1 nb cc1) ∧ wx.cell? ⟨B, 2, none⟩ = some (.slice A2 m cc2)) (first | exact HLC2.out _ (by assumption) | go_keep)
                (first
                  | ((with_reducible refine (HPD.out _ (by assumption)).mono ?_); rintro e wa ⟨rfl, rfl⟩)
                  | ((with_reducible refine (HBK.out _ (by assumption)).mono ?_); rintro e wa ⟨rfl, rfl⟩)
                  | ((with_reducible refine (HSZ.out _ (by assumption)).mono ?_); rintro e wa ⟨rfl, rfl⟩))
              have HTD := Lib.hid (show Two w p B nb ns (k + 1) wd.drew from HTW.out.drewN 1)
              clear HTW HLC HLC2 HPD HBK HSZ hk0
              go_wp2_with fail
              go_loopw [13, 14, 15, 16, 17] (fun b _ _ _ _ wr2 => ∃ i : Int, b = .int .i64 i ∧ -1 ≤ i ∧ i ≤ nb + 1 ∧ Hid (Two w p B nb ns (k + 1) wr2)) (fun b _ _ _ _ _ => ((nb : Int) + 1 - intOf b).toNat)
              case atStart => exact ⟨_, rfl, by omega, by omega, HTD⟩
              case round =>
                clear HTD
                obtain ⟨i, rfl, hi0, hi1, HI⟩ := hrel
                obtain ⟨m2, A3, cc3, A4, cc4, -, -, -, HLC, -, -, -⟩ := HI.out.look
                obtain ⟨-, y1, -⟩ := HLC.out wr (Below.refl _ _)
                clear HLC
                by_cases hin : i ≤ nb
                · obtain ⟨s, a, hrd⟩ := HI.out.read (by omega) i
                  have HRD := Lib.hid hrd
                  clear hrd HI
                  go_wp2_with fail
                  refine HRD.out.mono ?_
                  rintro e w5 ⟨rfl, HR2⟩
                  unfold bptr at HR2
                  clear HRD y1
                  go_wp2_with fail
                  refine HR2.out.mono ?_
                  rintro e w6 ⟨rfl, h6⟩
                  have H6 := Lib.hid h6
                  clear HR2 h6
                  go_wp2_with fail
                  go_roundw
                  case rel => exact ⟨i + 1, by go_num, by omega, by omega, H6⟩
                  case measure => simp [intOf]; omega
                · have hin2 : ¬ i ≤ (nb : Int) := hin
                  go_wp2_with fail
                  go_roundw
                  case rel => exact ⟨k + 1, hk1, hk2, by go_num, HI⟩
                  case measure => simp [intOf]; omega
        · have hcase : (l.length : Int) ≤ k ∨ ((k : Int) < l.length ∧ (50 : Int) ≤ k) := by omega
          have HB := Lib.hid HT.out.since
          clear hend HT
          rcases hcase with h4 | ⟨h4, h5⟩
          · go_wp2_with fail
            refine (HH.out _ HB.out).mono ?_
            rintro e w4 ⟨rfl, hb⟩
            have HB1 := Lib.hid hb
            clear hb
            go_wp2
            go_ret
            exact ⟨rfl, HB1.out⟩
          · go_wp2_with fail
            refine (HH.out _ HB.out).mono ?_
            rintro e w4 ⟨rfl, hb⟩
            have HB1 := Lib.hid hb
            clear hb
            go_wp2
            go_ret
            exact ⟨rfl, HB1.out⟩
    · have HSM := Lib.hid (small_any nb0 ns0 w)
      rw [decide_eq_false hsm] at HSM
      have HB := Lib.hid (HH.out w (Below.refl _ _))
      clear hl hln HL hbad hm0 hm1 HH
      go_enter Try.func3, Try.ntmps3
      go_wp2_with fail
      refine HSM.out.mono ?_
      rintro e w0 ⟨rfl, rfl⟩
      go_wp2_with fail
      refine HB.out.mono ?_
      rintro e w1 ⟨rfl, hb⟩
      have HB1 := Lib.hid hb
      clear hb
      go_wp2
      go_ret
      exact ⟨rfl, HB1.out⟩
end Go.Proofs.Ytbinfinfoobhaaa
