/-
  MasterPlays walked.
-/
import Derived.Test.YtnmfgmlmjbfdcaaMasAct
import Derived.Test.YtnmfgmlmjbfdcaaDraw
namespace Go.Proofs.Ytnmfgmlmjbfdcaa
open Go.RowKit

set_option maxRecDepth 100000 in
set_option maxHeartbeats 8000000 in
theorem plays_law (nb0 ns0 : Int) (LA : Option Addr) (lc : Nat) (l : List ActM) (w : World) (hl : ActsM w LA l) (hln : l.length ≤ 9223372036854775807) (hm0 : -9223372036854775808 ≤ nb0 ∧ nb0 ≤ 9223372036854775807) (hm1 : -9223372036854775808 ≤ ns0 ∧ ns0 ≤ 9223372036854775807) :
    Calls Try.prog 5 #[.int .i64 nb0, .int .i64 ns0, .slice LA l.length lc] w fun e w' => e = .returned (.bool true) ∧ Below w.heap.size w w' := by
  have HL := Lib.hid hl
  have l1 : (l.length : Int) ≤ 9223372036854775807 := by omega
  have HH := Lib.hid (fun wx (hb : Below w.heap.size w wx) => (head_any wx).mono fun e w' (hh : _ ∧ _) => show e = .returned (.bool true) ∧ Below w.heap.size w w' from ⟨hh.1, hb.trans (hh.2.mono hb.size)⟩)
  by_cases hbig : 4 < nb0 ∨ 4 < ns0
  · rcases (show 4 < nb0 ∨ (¬ 4 < nb0 ∧ 4 < ns0) by omega) with h1 | ⟨h1, h2⟩
    all_goals
      clear hbig hl hln HL hm0 hm1
      go_enter Try.func5, Try.ntmps5
      go_wp2_with fail
      refine (HH.out _ (Below.refl _ _)).mono ?_
      rintro e w9 ⟨rfl, hb9⟩
      have HB9 := Lib.hid hb9
      clear hb9
      go_wp2
      go_ret
      exact ⟨rfl, HB9.out⟩
  by_cases hbad : ¬ (1 ≤ nb0 ∧ nb0 ≤ 1000 ∧ 1 ≤ ns0 ∧ ns0 ≤ 256)
  · have HD := Lib.hid (fun wx => new_bad nb0 ns0 wx hbad)
    have HR := Lib.hid (fun wx => rnew_bad nb0 ns0 wx hbad)
    have g1 : ¬ 4 < nb0 := by omega
    have g2 : ¬ 4 < ns0 := by omega
    clear hl hln HL hbad hbig hm0 hm1
    go_enter Try.func5, Try.ntmps5
    go_wp2_with fail
    refine (HD.out _).mono ?_
    rintro e w1 ⟨rfl, rfl⟩
    go_wp2_with fail
    refine (HR.out _).mono ?_
    rintro e w1 ⟨rfl, rfl⟩
    go_wp2_with fail
    refine (HH.out _ (Below.refl _ _)).mono ?_
    rintro e w9 ⟨rfl, hb9⟩
    have HB9 := Lib.hid hb9
    clear hb9
    go_wp2
    go_ret
    exact ⟨rfl, HB9.out⟩
  obtain ⟨b1, b2, s1, s2⟩ := Classical.not_not.1 hbad
  obtain ⟨nb, rfl⟩ : ∃ nb : Nat, nb0 = nb := ⟨nb0.toNat, by omega⟩
  obtain ⟨ns, rfl⟩ : ∃ ns : Nat, ns0 = ns := ⟨ns0.toNat, by omega⟩
  have HD := Lib.hid (new_good nb ns w ⟨by omega, by omega⟩ ⟨by omega, by omega⟩)
  have HR := Lib.hid (fun wx => rnew_good nb ns wx (by omega) (by omega) (by omega) (by omega))
  have n8 : ¬ (4 : Int) < (nb : Int) := by omega
  have n4 : ¬ (4 : Int) < (ns : Int) := by omega
  have nbI : (nb : Int) ≤ 4 := by omega
  clear hbad hbig hl hln hm0 hm1
  go_enter Try.func5, Try.ntmps5
  go_wp2_with fail
  refine HD.out.mono ?_
  rintro e w1 ⟨d, rfl, h1, h2, h3, e1, e2, e3, e4, e5⟩
  have HTN := Lib.hid (fun (w2 : World) (x : RV) => mtwo_new (W := w) (w1 := w1) (w2 := w2) (nb := nb) (ns := ns) (d := d) (x := x) h1 h2 h3 e1 e2 e3 e4 e5)
  clear HD h1 h2 h3 e1 e2 e3 e4 e5
  unfold DV.ptr at HTN ⊢
  generalize d.A = A0 at *
  go_wp2_with fail
  refine (HR.out w1).mono ?_
  rintro e w2 ⟨x, rfl, k1, k2, k3, k4⟩
  have HT := Lib.hid (show Two w (.pointer (some ⟨A0, 0, none⟩)) x.B nb ns (0 : Nat) w2 from HTN.out w2 x k1 k2 k3 k4)
  clear HTN HR k1 k2 k3 k4
  unfold RV.ptr
  generalize x.B = B at *
  by_cases hone : nb = 1
  · have HO := Lib.hid (HT.out.opens_one hone)
    clear HT hone
    go_wp2_with fail
    refine HO.out.mono ?_
    rintro e w3 ⟨rfl, HO2⟩
    clear HO
    go_wp2_with fail
    refine HO2.out.mono ?_
    rintro e w4 ⟨rfl, h4⟩
    have HT4 := Lib.hid h4.since
    clear HO2 h4
    go_wp2_with fail
    go_loopw [8, 10, 11, 12, 13, 14, 15, 16, 17, 18, 19] (fun e f m n i _ _ _ _ _ _ wr => e = .int .i64 2 ∧ f = .int .i64 2 ∧ m = .pointer none ∧ n = .pointer none ∧ i = .int .i64 0 ∧ wr = w4) (fun _ _ _ _ _ _ _ _ _ _ _ _ => 0)
    case atStart => exact ⟨rfl, rfl, rfl, rfl, rfl, rfl⟩
    case round =>
      obtain ⟨rfl, rfl, rfl, rfl, rfl, rfl⟩ := hrel
      by_cases hz : 0 < l.length
      · have hzI : (0 : Int) < (l.length : Int) := by omega
        go_wp2_with fail
        refine (HH.out _ HT4.out).mono ?_
        rintro e w9 ⟨rfl, hb9⟩
        have HB9 := Lib.hid hb9
        clear hb9
        go_wp2
        go_ret
        exact ⟨rfl, HB9.out⟩
      · have hzI : (l.length : Int) ≤ 0 := by omega
        have hzJ : ¬ (0 : Int) < (l.length : Int) := by omega
        go_wp2_with fail
        refine (HH.out _ HT4.out).mono ?_
        rintro e w9 ⟨rfl, hb9⟩
        have HB9 := Lib.hid hb9
        clear hb9
        go_wp2
        go_ret
        exact ⟨rfl, HB9.out⟩
  have h2 : 2 ≤ nb := by omega
  have HO := Lib.hid (HT.out.opens (by decide) h2)
  clear HT hone
  go_wp2_with fail
  refine HO.out.mono ?_
  rintro e w3 ⟨Aa, rfl, HO2⟩
  clear HO
  go_wp2_with fail
  refine HO2.out.mono ?_
  rintro e w4 ⟨A, m, rfl, h4⟩
  have HT := Lib.hid h4
  clear HO2 h4
  generalize (Value.pointer (some ⟨A0, 0, none⟩)) = p at *
  go_wp2_with fail
  go_loopw [8, 10, 11, 12, 13, 14, 15, 16, 17, 18, 19] (fun e f mm nn i _ _ _ _ _ _ wr => ∃ (k Aa A : Nat) (m : MS), k ≤ l.length ∧ k ≤ 40 ∧ e = .int .i64 0 ∧ f = .int .i64 0 ∧ mm = .pointer (some ⟨Aa, 0, none⟩) ∧ nn = .pointer (some ⟨A, 0, none⟩) ∧ i = .int .i64 (k : Int) ∧ Hid (Duo w p B (.pointer (some ⟨Aa, 0, none⟩)) A nb ns m k wr)) (fun _ _ _ _ i _ _ _ _ _ _ _ => 40 - (intOf i).toNat)
  case atStart => exact ⟨0, Aa, A, m, by omega, by omega, rfl, rfl, rfl, rfl, rfl, HT⟩
  case round =>
    clear HT
    obtain ⟨k, Aa, A, m, hk, hk40, rfl, rfl, rfl, rfl, rfl, HT⟩ := hrel
    by_cases hend : k < l.length ∧ k < 40
    · have g1 : (k : Int) < (l.length : Int) := by omega
      have g2 : (k : Int) < 40 := by omega
      have hk1 : k + 1 ≤ l.length := by omega
      have hk2 : k + 1 ≤ 40 := by omega
      obtain ⟨g, off, rfl, HCX⟩ : ∃ g off, LA = some ⟨g, off, none⟩ ∧ Hid (∀ wx, Below w.heap.size w wx → wx.cell? ⟨g, off + k * 4, none⟩ = some (.int .u8 (l[k].what : Int)) ∧ wx.cell? ⟨g, off + k * 4 + 1, none⟩ = some (.string l[k].s) ∧ wx.cell? ⟨g, off + k * 4 + 2, none⟩ = some (.int .i64 l[k].B) ∧ wx.cell? ⟨g, off + k * 4 + 3, none⟩ = some (.slice l[k].A l[k].n l[k].cap)) := by
        obtain ⟨g, off, hg, _⟩ := HL.out.cells HT.out.since hend.1
        refine ⟨g, off, hg, Lib.hid fun wx hb => ?_⟩
        obtain ⟨g', off', hg', hc⟩ := HL.out.cells hb hend.1
        rw [hg] at hg'
        injection hg' with hg'
        injection hg' with e1 e2
        subst e1 e2
        exact hc
      have hok := HL.out.ok _ (List.getElem_mem hend.1)
      generalize l[k]'hend.1 = x at *
      obtain ⟨what, xs, xB, xA, xn, xcap, keep⟩ := x
      have HOK := Lib.hid hok
      have hwl : (what : Int) < 256 := by have : what < 256 := hok.what; omega
      have HGR := Lib.hid (fun wx => mgreat_any what xs xB xA xn xcap wx)
      obtain ⟨wd, hwd⟩ : ∃ wd, wr.drew = wd := ⟨_, rfl⟩
      have HTd := Lib.hid (show Duo w p B (.pointer (some ⟨Aa, 0, none⟩)) A nb ns m k wd from hwd ▸ HT.out.drewN 1)
      obtain ⟨t1, t2, t3, t4, t5, t6⟩ := HTd.out.tells
      have HT1 := Lib.hid t1
      have HT2 := Lib.hid t2
      have HT3 := Lib.hid t3
      have hHeld := And.intro t4 (And.intro t5 t6)
      obtain ⟨ms, hms⟩ : ∃ ms, tb m.s = ms := ⟨_, rfl⟩
      obtain ⟨mv, hmv⟩ : ∃ mv, m.v = mv := ⟨_, rfl⟩
      obtain ⟨mw, hmw⟩ : ∃ mw, m.way = mw := ⟨_, rfl⟩
      rw [hms] at HT1 hHeld
      rw [hmv] at HT2 hHeld
      rw [hmw] at HT3 hHeld
      have HWD := Lib.hid (fun _ : Unit => hwd)
      clear t1 t2 t3 t4 t5 t6 hms hmv hmw hok hend hk hk40 hwd
      go_wp2_with fail
      refine wp_region_noPanic ?_
      refine wp_region_sch (fun wx => wx.cell? ⟨A, 2, none⟩ = some (.string ms) ∧ wx.cell? ⟨A, 3, none⟩ = some (.int .u64 (mv : Int)) ∧ wx.cell? ⟨A, 4, none⟩ = some (.bool mw)) (fun i => [1, 9, 18].contains i)
        (.takes [0, 2, 3, 4, 5] (.run 1 (.takes [6, 7, 8, 10, 11, 12, 13] (.run 9 (.takes [14, 15, 16, 17, 19, 20, 21, 22] (.run 18 (.takes [23, 24] .done))))))) (by kernel_rfl) (fun _ _ _ _ _ h => h) (by kernel_rfl) ?_
      rw [HWD.out ()]
      iterate 5 (
        refine sch_takes_cons ?_
        first
          | (refine sch_take (v := ?_) rfl (by assumption) (by rfl) ?_ ?_; rotate_left; (focus (intro wy hSy; (try dsimp only at hSy); go_simp; (try with_reducible rfl))))
          | (refine sch_pass rfl (by assumption) (by rfl) ?_)
        simp only [Act.put, List.setIfInBounds_toArray, List.set_cons_zero, List.set_cons_succ])
      refine sch_takes_nil ?_
      refine sch_run rfl (fun K hK => ?_)
      go_simp
      with_reducible refine HT1.out.mono ?_
      rintro e we ⟨rfl, rfl⟩
      refine hK.out _ _ (fun _ => hHeld) ?_
      clear hK K
      try simp only [Act.put, List.setIfInBounds_toArray, List.set_cons_zero, List.set_cons_succ]
      iterate 7 (
        refine sch_takes_cons ?_
        first
          | (refine sch_take (v := ?_) rfl (by assumption) (by rfl) ?_ ?_; rotate_left; (focus (intro wy hSy; (try dsimp only at hSy); go_simp; (try with_reducible rfl))))
          | (refine sch_pass rfl (by assumption) (by rfl) ?_)
        simp only [Act.put, List.setIfInBounds_toArray, List.set_cons_zero, List.set_cons_succ])
      refine sch_takes_nil ?_
      refine sch_run rfl (fun K hK => ?_)
      go_simp
      with_reducible refine HT2.out.mono ?_
      rintro e we ⟨rfl, rfl⟩
      refine hK.out _ _ (fun _ => hHeld) ?_
      clear hK K
      try simp only [Act.put, List.setIfInBounds_toArray, List.set_cons_zero, List.set_cons_succ]
      iterate 8 (
        refine sch_takes_cons ?_
        first
          | (refine sch_take (v := ?_) rfl (by assumption) (by rfl) ?_ ?_; rotate_left; (focus (intro wy hSy; (try dsimp only at hSy); go_simp; (try with_reducible rfl))))
          | (refine sch_pass rfl (by assumption) (by rfl) ?_)
        simp only [Act.put, List.setIfInBounds_toArray, List.set_cons_zero, List.set_cons_succ])
      refine sch_takes_nil ?_
      refine sch_run rfl (fun K hK => ?_)
      go_simp
      with_reducible refine HT3.out.mono ?_
      rintro e we ⟨rfl, rfl⟩
      refine hK.out _ _ (fun _ => hHeld) ?_
      clear hK K
      try simp only [Act.put, List.setIfInBounds_toArray, List.set_cons_zero, List.set_cons_succ]
      iterate 2 (
        refine sch_takes_cons ?_
        first
          | (refine sch_take (v := ?_) rfl (by assumption) (by rfl) ?_ ?_; rotate_left; (focus (intro wy hSy; (try dsimp only at hSy); go_simp; (try with_reducible rfl))))
          | (refine sch_pass rfl (by assumption) (by rfl) ?_)
        simp only [Act.put, List.setIfInBounds_toArray, List.set_cons_zero, List.set_cons_succ])
      refine sch_takes_nil ?_
      refine sch_done ?_
      refine NoPanic.normal ?_
      clear hHeld HT1 HT2 HT3 HWD
      obtain ⟨c0, c1, c2, c3⟩ := HCX.out wd HTd.out.since
      replace c0 : wd.cell? ⟨g, off + k * 4, none⟩ = some (.int .u8 (what : Int)) := c0
      replace c1 : wd.cell? ⟨g, off + k * 4 + 1, none⟩ = some (.string xs) := c1
      replace c2 : wd.cell? ⟨g, off + k * 4 + 2, none⟩ = some (.int .i64 xB) := c2
      replace c3 : wd.cell? ⟨g, off + k * 4 + 3, none⟩ = some (.slice xA xn xcap) := c3
      have hb1 : Below wd.heap.size wd (wd.alloc (.cells #[.int .u8 (what : Int), .string xs, .int .i64 xB, .slice xA xn xcap] 56)) := (Below.refl _ _).alloc (Nat.le_refl _) _
      have hr1 : Row (wd.alloc (.cells #[.int .u8 (what : Int), .string xs, .int .i64 xB, .slice xA xn xcap] 56)) wd.heap.size 56 [.int .u8 (what : Int), .string xs, .int .i64 xB, .slice xA xn xcap] (0, 0) := Row.new wd _ _ _
      clear HCX
      go_wp2_with fail
      generalize hw1 : wd.alloc (.cells #[.int .u8 (what : Int), .string xs, .int .i64 xB, .slice xA xn xcap] 56) = w1 at *
      have HU1 := Lib.hid (HTd.out.keeps hb1)
      clear hb1
      generalize wd.heap.size = X at *
      refine (HGR.out w1).mono ?_
      rintro e w2 ⟨rfl, hb2⟩
      have HS := Lib.hid (show Duo w p B (.pointer (some ⟨Aa, 0, none⟩)) A nb ns m k w2 ∧ Row w2 X 56 [.int .u8 (what : Int), .string xs, .int .i64 xB, .slice xA xn xcap] (0, 0) from ⟨HU1.out.keeps hb2, hr1.below hb2 hr1.lt⟩)
      have HXC := Lib.hid (show ∀ wx, Row wx X 56 [.int .u8 (what : Int), .string xs, .int .i64 xB, .slice xA xn xcap] (0, 0) → wx.cell? ⟨X, 0, none⟩ = some (.int .u8 (what : Int)) ∧ wx.cell? ⟨X, 1, none⟩ = some (.string xs) ∧ wx.cell? ⟨X, 2, none⟩ = some (.int .i64 xB) ∧ wx.cell? ⟨X, 3, none⟩ = some (.slice xA xn xcap) from fun wx hX => ⟨hX.cell 0, hX.cell 1, hX.cell 2, hX.cell 3⟩)
      clear HTd HU1 hr1 hb2 hw1 c0 c1 c2 c3 HGR HT
      by_cases hgr : 400 < xs.size ∨ 20 < xn
      · rw [show decide (400 < xs.size ∨ 20 < xn) = true from decide_eq_true hgr]
        have HS2 := Lib.hid HS.out.1.since
        clear HS HXC
        go_wp2_with fail
        refine (HH.out _ HS2.out).mono ?_
        rintro e w9 ⟨rfl, hb9⟩
        have HB9 := Lib.hid hb9
        clear hb9
        go_wp2
        go_ret
        exact ⟨rfl, HB9.out⟩
      rw [show decide (400 < xs.size ∨ 20 < xn) = false from decide_eq_false hgr]
      obtain ⟨z0, z1, z2, z3⟩ := HXC.out w2 HS.out.2
      rcases (show what % 6 = 2 ∨ what % 6 = 3 ∨ what % 6 = 4 ∨ what % 6 = 5 ∨ what % 6 = 0 ∨ what % 6 = 1 by omega) with h6 | h6 | h6 | h6 | h6 | h6
      · have hw6 : (what : Int) % 6 = 2 := by omega
        obtain ⟨E, hsy⟩ := HS.out.1.sync (by omega)
        have HSY := Lib.hid hsy
        clear h6 HXC HS HOK hsy
        go_wp2_with fail
        refine HSY.out.mono ?_
        rintro e w5 ⟨rfl, HS3⟩
        clear HSY z0 z1 z2 z3
        go_wp2_with fail
        refine HS3.out.mono ?_
        rintro e w6 ⟨rfl, m2, h4⟩
        have HTW := Lib.hid (h4.more (show k ≤ k + 1 by omega))
        clear HS3 h4
        go_wp2_with fail
        go_loopw [15, 16, 17, 18, 19] (fun b _ _ _ _ wr2 => ∃ j : Nat, j ≤ nb ∧ b = .int .i64 (j : Int) ∧ Hid (Duo w p B (.pointer (some ⟨Aa, 0, none⟩)) A nb ns m2 (k + 1) wr2)) (fun b _ _ _ _ _ => nb - (intOf b).toNat)
        case atStart => exact ⟨0, Nat.zero_le _, rfl, HTW⟩
        case round =>
          clear HTW
          obtain ⟨j, hj, rfl, HI⟩ := hrel
          by_cases hin : j < nb
          · have hinI : (j : Int) < (nb : Int) := by omega
            obtain ⟨s, hrd⟩ := HI.out.read (by omega) j hin
            have HRD := Lib.hid hrd
            clear hrd HI
            go_wp2_with fail
            refine HRD.out.mono ?_
            rintro e w5 ⟨rfl, HR2⟩
            clear HRD
            go_wp2_with fail
            refine HR2.out.mono ?_
            rintro e w6 ⟨rfl, h6⟩
            have H6 := Lib.hid h6
            clear HR2 h6
            go_wp2_with fail
            go_roundw
            case rel => exact ⟨j + 1, by omega, by go_num, H6⟩
            case measure => simp [intOf]; omega
          · have hinI : ¬ (j : Int) < (nb : Int) := by omega
            go_wp2_with fail
            go_roundw
            case rel => exact ⟨k + 1, Aa, A, m2, hk1, hk2, rfl, rfl, rfl, rfl, by go_num, HI⟩
            case measure => simp [intOf]; omega
      · have hw6 : (what : Int) % 6 = 3 := by omega
        have hw7 : Int.tmod (what : Int) 6 = 3 := by rw [Int.tmod_eq_emod_of_nonneg (by omega)]; exact hw6
        have HSY := Lib.hid (HS.out.1.two.crash_stay (by omega) HOK.out.keep xcap)
        have hXr := HS.out.2
        clear h6 HS
        go_wp2_with fail
        refine HSY.out.mono ?_
        rintro e w5 ⟨rfl, hst, HS3⟩
        unfold bptr at HS3
        have hX5 := hst X _ hXr
        clear z0 z1 z2 z3 HSY hXr hst
        obtain ⟨z0, z1, z2, z3⟩ := HXC.out w5 hX5
        go_wp2_with fail
        refine HS3.out.mono ?_
        rintro e w6 ⟨rfl, hst2, h4⟩
        have hX6 := hst2 X _ hX5
        clear z0 z1 z2 z3 HS3 hst2 hX5
        obtain ⟨we, hwe⟩ : ∃ we, w6.drew = we := ⟨_, rfl⟩
        have HTO := Lib.hid (show Two w p B nb ns (k + 1) we from hwe ▸ (h4.more (show k ≤ k + 1 by omega)).drewN 1)
        have hHeld := (show we.cell? ⟨X, 0, none⟩ = some (.int .u8 (what : Int)) ∧ we.cell? ⟨X, 1, none⟩ = some (.string xs) ∧ we.cell? ⟨X, 2, none⟩ = some (.int .i64 xB) from hwe ▸ ⟨(HXC.out w6 hX6).1, (HXC.out w6 hX6).2.1, (HXC.out w6 hX6).2.2.1⟩)
        clear h4 HXC HOK hX6
        go_wp2_with fail
        refine wp_region_noPanic ?_
        refine wp_region_sch (fun wx => wx.cell? ⟨X, 0, none⟩ = some (.int .u8 (what : Int)) ∧ wx.cell? ⟨X, 1, none⟩ = some (.string xs) ∧ wx.cell? ⟨X, 2, none⟩ = some (.int .i64 xB)) (fun i => [10, 16].contains i)
          (.takes [0, 1, 2, 3, 4, 5, 6, 7, 8, 9, 11, 12, 13, 14, 15] (.run 10 (.run 16 (.takes [17, 18] .done)))) (by kernel_rfl) (fun _ _ _ _ _ h => h) (by kernel_rfl) ?_
        rw [hwe]
        iterate 15 (
          refine sch_takes_cons ?_
          first
            | (refine sch_take (v := ?_) rfl (by assumption) (by rfl) ?_ ?_; rotate_left; (focus (intro wy hSy; (try dsimp only at hSy); go_simp; (try with_reducible rfl))))
            | (refine sch_pass rfl (by assumption) (by rfl) ?_)
          simp only [Act.put, List.setIfInBounds_toArray, List.set_cons_zero, List.set_cons_succ])
        refine sch_takes_nil ?_
        refine sch_run rfl (fun K hK => ?_)
        go_simp
        try rw [if_neg (by first | decide | simp | (intro h; cases h))]
        refine hK.out _ _ (fun _ => hHeld) ?_
        clear hK K
        try simp only [Act.put, List.setIfInBounds_toArray, List.set_cons_zero, List.set_cons_succ]
        refine sch_run rfl (fun K hK => ?_)
        go_simp
        try rw [if_neg (by first | decide | simp | (intro h; cases h))]
        refine hK.out _ _ (fun _ => hHeld) ?_
        clear hK K
        try simp only [Act.put, List.setIfInBounds_toArray, List.set_cons_zero, List.set_cons_succ]
        iterate 2 (
          refine sch_takes_cons ?_
          first
            | (refine sch_take (v := ?_) rfl (by assumption) (by rfl) ?_ ?_; rotate_left; (focus (intro wy hSy; (try dsimp only at hSy); go_simp; (try with_reducible rfl))))
            | (refine sch_pass rfl (by assumption) (by rfl) ?_)
          simp only [Act.put, List.setIfInBounds_toArray, List.set_cons_zero, List.set_cons_succ])
        refine sch_takes_nil ?_
        refine sch_done ?_
        refine NoPanic.normal ?_
        clear hHeld
        have HOP := Lib.hid (HTO.out.opens (by omega) h2)
        clear HTO
        go_wp2_with fail
        refine HOP.out.mono ?_
        rintro e wo1 ⟨Ab, rfl, HOP2⟩
        clear HOP
        go_wp2_with fail
        refine HOP2.out.mono ?_
        rintro e wo2 ⟨Ac, m2, rfl, ho2⟩
        have HTW := Lib.hid ho2
        clear HOP2 ho2
        go_wp2_with fail
        go_loopw [15, 16, 17, 18, 19] (fun b _ _ _ _ wr2 => ∃ j : Nat, j ≤ nb ∧ b = .int .i64 (j : Int) ∧ Hid (Duo w p B (.pointer (some ⟨Ab, 0, none⟩)) Ac nb ns m2 (k + 1) wr2)) (fun b _ _ _ _ _ => nb - (intOf b).toNat)
        case atStart => exact ⟨0, Nat.zero_le _, rfl, HTW⟩
        case round =>
          clear HTW
          obtain ⟨j, hj, rfl, HI⟩ := hrel
          by_cases hin : j < nb
          · have hinI : (j : Int) < (nb : Int) := by omega
            obtain ⟨s, hrd⟩ := HI.out.read (by omega) j hin
            have HRD := Lib.hid hrd
            clear hrd HI
            go_wp2_with fail
            refine HRD.out.mono ?_
            rintro e w5 ⟨rfl, HR2⟩
            clear HRD
            go_wp2_with fail
            refine HR2.out.mono ?_
            rintro e w6 ⟨rfl, h6⟩
            have H6 := Lib.hid h6
            clear HR2 h6
            go_wp2_with fail
            go_roundw
            case rel => exact ⟨j + 1, by omega, by go_num, H6⟩
            case measure => simp [intOf]; omega
          · have hinI : ¬ (j : Int) < (nb : Int) := by omega
            go_wp2_with fail
            go_roundw
            case rel => exact ⟨k + 1, Ab, Ac, m2, hk1, hk2, rfl, rfl, rfl, rfl, by go_num, HI⟩
            case measure => simp [intOf]; omega
      · have hw6 : (what : Int) % 6 = 4 := by omega
        have hw7 : Int.tmod (what : Int) 6 = 4 := by rw [Int.tmod_eq_emod_of_nonneg (by omega)]; exact hw6
        obtain ⟨we, hwe⟩ : ∃ we, w2.drew = we := ⟨_, rfl⟩
        have HTO := Lib.hid (show Two w p B nb ns (k + 1) we from hwe ▸ (HS.out.1.two.more (show k ≤ k + 1 by omega)).drewN 1)
        have hHeld := (show we.cell? ⟨X, 0, none⟩ = some (.int .u8 (what : Int)) ∧ we.cell? ⟨X, 1, none⟩ = some (.string xs) ∧ we.cell? ⟨X, 2, none⟩ = some (.int .i64 xB) from hwe ▸ ⟨z0, z1, z2⟩)
        clear HS HXC HOK h6
        go_wp2_with fail
        refine wp_region_noPanic ?_
        refine wp_region_sch (fun wx => wx.cell? ⟨X, 0, none⟩ = some (.int .u8 (what : Int)) ∧ wx.cell? ⟨X, 1, none⟩ = some (.string xs) ∧ wx.cell? ⟨X, 2, none⟩ = some (.int .i64 xB)) (fun i => [10, 16].contains i)
          (.takes [0, 1, 2, 3, 4, 5, 6, 7, 8, 9, 11, 12, 13, 14, 15] (.run 10 (.run 16 (.takes [17, 18] .done)))) (by kernel_rfl) (fun _ _ _ _ _ h => h) (by kernel_rfl) ?_
        rw [hwe]
        iterate 15 (
          refine sch_takes_cons ?_
          first
            | (refine sch_take (v := ?_) rfl (by assumption) (by rfl) ?_ ?_; rotate_left; (focus (intro wy hSy; (try dsimp only at hSy); go_simp; (try with_reducible rfl))))
            | (refine sch_pass rfl (by assumption) (by rfl) ?_)
          simp only [Act.put, List.setIfInBounds_toArray, List.set_cons_zero, List.set_cons_succ])
        refine sch_takes_nil ?_
        refine sch_run rfl (fun K hK => ?_)
        go_simp
        try rw [if_neg (by first | decide | simp | (intro h; cases h))]
        refine hK.out _ _ (fun _ => hHeld) ?_
        clear hK K
        try simp only [Act.put, List.setIfInBounds_toArray, List.set_cons_zero, List.set_cons_succ]
        refine sch_run rfl (fun K hK => ?_)
        go_simp
        try rw [if_neg (by first | decide | simp | (intro h; cases h))]
        refine hK.out _ _ (fun _ => hHeld) ?_
        clear hK K
        try simp only [Act.put, List.setIfInBounds_toArray, List.set_cons_zero, List.set_cons_succ]
        iterate 2 (
          refine sch_takes_cons ?_
          first
            | (refine sch_take (v := ?_) rfl (by assumption) (by rfl) ?_ ?_; rotate_left; (focus (intro wy hSy; (try dsimp only at hSy); go_simp; (try with_reducible rfl))))
            | (refine sch_pass rfl (by assumption) (by rfl) ?_)
          simp only [Act.put, List.setIfInBounds_toArray, List.set_cons_zero, List.set_cons_succ])
        refine sch_takes_nil ?_
        refine sch_done ?_
        refine NoPanic.normal ?_
        clear hHeld
        have HOP := Lib.hid (HTO.out.opens (by omega) h2)
        clear HTO
        go_wp2_with fail
        refine HOP.out.mono ?_
        rintro e wo1 ⟨Ab, rfl, HOP2⟩
        clear HOP
        go_wp2_with fail
        refine HOP2.out.mono ?_
        rintro e wo2 ⟨Ac, m2, rfl, ho2⟩
        have HTW := Lib.hid ho2
        clear HOP2 ho2
        go_wp2_with fail
        go_loopw [15, 16, 17, 18, 19] (fun b _ _ _ _ wr2 => ∃ j : Nat, j ≤ nb ∧ b = .int .i64 (j : Int) ∧ Hid (Duo w p B (.pointer (some ⟨Ab, 0, none⟩)) Ac nb ns m2 (k + 1) wr2)) (fun b _ _ _ _ _ => nb - (intOf b).toNat)
        case atStart => exact ⟨0, Nat.zero_le _, rfl, HTW⟩
        case round =>
          clear HTW
          obtain ⟨j, hj, rfl, HI⟩ := hrel
          by_cases hin : j < nb
          · have hinI : (j : Int) < (nb : Int) := by omega
            obtain ⟨s, hrd⟩ := HI.out.read (by omega) j hin
            have HRD := Lib.hid hrd
            clear hrd HI
            go_wp2_with fail
            refine HRD.out.mono ?_
            rintro e w5 ⟨rfl, HR2⟩
            clear HRD
            go_wp2_with fail
            refine HR2.out.mono ?_
            rintro e w6 ⟨rfl, h6⟩
            have H6 := Lib.hid h6
            clear HR2 h6
            go_wp2_with fail
            go_roundw
            case rel => exact ⟨j + 1, by omega, by go_num, H6⟩
            case measure => simp [intOf]; omega
          · have hinI : ¬ (j : Int) < (nb : Int) := by omega
            go_wp2_with fail
            go_roundw
            case rel => exact ⟨k + 1, Ab, Ac, m2, hk1, hk2, rfl, rfl, rfl, rfl, by go_num, HI⟩
            case measure => simp [intOf]; omega
      · have hw6 : (what : Int) % 6 = 5 := by omega
        have hw7 : Int.tmod (what : Int) 6 = 5 := by rw [Int.tmod_eq_emod_of_nonneg (by omega)]; exact hw6
        obtain ⟨we, hwe⟩ : ∃ we, w2.drew = we := ⟨_, rfl⟩
        have hXe : Row we X 56 [.int .u8 (what : Int), .string xs, .int .i64 xB, .slice xA xn xcap] (0, 0) := hwe ▸ HS.out.2
        have hwr := (show Two w p B nb ns k we from hwe ▸ HS.out.1.two.drewN 1).write (by omega) xB xs HOK.out.s
        obtain ⟨wa, hwa⟩ : ∃ wa, wans nb ns xB xs = wa := ⟨_, rfl⟩
        rw [hwa] at hwr
        have HWR := Lib.hid hwr
        have hHeld := (show we.cell? ⟨X, 0, none⟩ = some (.int .u8 (what : Int)) ∧ we.cell? ⟨X, 1, none⟩ = some (.string xs) ∧ we.cell? ⟨X, 2, none⟩ = some (.int .i64 xB) from hwe ▸ ⟨z0, z1, z2⟩)
        clear HS HOK h6 hwr hwa
        go_wp2_with fail
        refine wp_region_noPanic ?_
        refine wp_region_sch (fun wx => wx.cell? ⟨X, 0, none⟩ = some (.int .u8 (what : Int)) ∧ wx.cell? ⟨X, 1, none⟩ = some (.string xs) ∧ wx.cell? ⟨X, 2, none⟩ = some (.int .i64 xB)) (fun i => [10, 16].contains i)
          (.takes [0, 1, 2, 3, 4, 5, 6, 7, 8, 9, 11, 12, 13, 14, 15] (.run 10 (.run 16 (.takes [17, 18] .done)))) (by kernel_rfl) (fun _ _ _ _ _ h => h) (by kernel_rfl) ?_
        rw [hwe]
        iterate 15 (
          refine sch_takes_cons ?_
          first
            | (refine sch_take (v := ?_) rfl (by assumption) (by rfl) ?_ ?_; rotate_left; (focus (intro wy hSy; (try dsimp only at hSy); go_simp; (try with_reducible rfl))))
            | (refine sch_pass rfl (by assumption) (by rfl) ?_)
          simp only [Act.put, List.setIfInBounds_toArray, List.set_cons_zero, List.set_cons_succ])
        refine sch_takes_nil ?_
        refine sch_run rfl (fun K hK => ?_)
        go_simp
        with_reducible refine HWR.out.mono ?_
        rintro e w5 ⟨rfl, hst, -, HW2⟩
        have hX5 := hst X _ hXe
        have HW3 := Lib.hid (HW2.out w5 (Below.refl _ _))
        have hHeld := (show w5.cell? ⟨X, 0, none⟩ = some (.int .u8 (what : Int)) ∧ w5.cell? ⟨X, 1, none⟩ = some (.string xs) ∧ w5.cell? ⟨X, 2, none⟩ = some (.int .i64 xB) from ⟨(HXC.out w5 hX5).1, (HXC.out w5 hX5).2.1, (HXC.out w5 hX5).2.2.1⟩)
        unfold bptr at HW3
        clear HWR HW2 hst
        refine hK.out _ _ (fun _ => hHeld) ?_
        clear hK K
        try simp only [Act.put, List.setIfInBounds_toArray, List.set_cons_zero, List.set_cons_succ]
        refine sch_run rfl (fun K hK => ?_)
        go_simp
        with_reducible refine HW3.out.mono ?_
        rintro e w6 ⟨rfl, hst2, HTO⟩
        have hX6 := hst2 X _ hX5
        have hHeld := (show w6.cell? ⟨X, 0, none⟩ = some (.int .u8 (what : Int)) ∧ w6.cell? ⟨X, 1, none⟩ = some (.string xs) ∧ w6.cell? ⟨X, 2, none⟩ = some (.int .i64 xB) from ⟨(HXC.out w6 hX6).1, (HXC.out w6 hX6).2.1, (HXC.out w6 hX6).2.2.1⟩)
        clear HW3 hst2
        refine hK.out _ _ (fun _ => hHeld) ?_
        clear hK K
        try simp only [Act.put, List.setIfInBounds_toArray, List.set_cons_zero, List.set_cons_succ]
        iterate 2 (
          refine sch_takes_cons ?_
          first
            | (refine sch_take (v := ?_) rfl (by assumption) (by rfl) ?_ ?_; rotate_left; (focus (intro wy hSy; (try dsimp only at hSy); go_simp; (try with_reducible rfl))))
            | (refine sch_pass rfl (by assumption) (by rfl) ?_)
          simp only [Act.put, List.setIfInBounds_toArray, List.set_cons_zero, List.set_cons_succ])
        refine sch_takes_nil ?_
        refine sch_done ?_
        refine NoPanic.normal ?_
        clear hHeld hX5 hX6 hXe HXC
        have HOP := Lib.hid (HTO.out.opens (by omega) h2)
        clear HTO
        go_wp2_with fail
        refine HOP.out.mono ?_
        rintro e wo1 ⟨Ab, rfl, HOP2⟩
        clear HOP
        go_wp2_with fail
        refine HOP2.out.mono ?_
        rintro e wo2 ⟨Ac, m2, rfl, ho2⟩
        have HTW := Lib.hid ho2
        clear HOP2 ho2
        go_wp2_with fail
        go_loopw [15, 16, 17, 18, 19] (fun b _ _ _ _ wr2 => ∃ j : Nat, j ≤ nb ∧ b = .int .i64 (j : Int) ∧ Hid (Duo w p B (.pointer (some ⟨Ab, 0, none⟩)) Ac nb ns m2 (k + 1) wr2)) (fun b _ _ _ _ _ => nb - (intOf b).toNat)
        case atStart => exact ⟨0, Nat.zero_le _, rfl, HTW⟩
        case round =>
          clear HTW
          obtain ⟨j, hj, rfl, HI⟩ := hrel
          by_cases hin : j < nb
          · have hinI : (j : Int) < (nb : Int) := by omega
            obtain ⟨s, hrd⟩ := HI.out.read (by omega) j hin
            have HRD := Lib.hid hrd
            clear hrd HI
            go_wp2_with fail
            refine HRD.out.mono ?_
            rintro e w5 ⟨rfl, HR2⟩
            clear HRD
            go_wp2_with fail
            refine HR2.out.mono ?_
            rintro e w6 ⟨rfl, h6⟩
            have H6 := Lib.hid h6
            clear HR2 h6
            go_wp2_with fail
            go_roundw
            case rel => exact ⟨j + 1, by omega, by go_num, H6⟩
            case measure => simp [intOf]; omega
          · have hinI : ¬ (j : Int) < (nb : Int) := by omega
            go_wp2_with fail
            go_roundw
            case rel => exact ⟨k + 1, Ab, Ac, m2, hk1, hk2, rfl, rfl, rfl, rfl, by go_num, HI⟩
            case measure => simp [intOf]; omega
      · have hw6 : (what : Int) % 6 = 0 := by omega
        obtain ⟨we, hwe⟩ : ∃ we, w2.drew = we := ⟨_, rfl⟩
        have hXe : Row we X 56 [.int .u8 (what : Int), .string xs, .int .i64 xB, .slice xA xn xcap] (0, 0) := hwe ▸ HS.out.2
        obtain ⟨E, hpu⟩ := (show Duo w p B (.pointer (some ⟨Aa, 0, none⟩)) A nb ns m k we from hwe ▸ HS.out.1.drewN 1).put (by omega) (txt xs) (by show xs.size ≤ _; omega)
        rw [show tb (txt xs) = xs from tb_of xs] at hpu
        have HPU := Lib.hid hpu
        have hHeld := (show we.cell? ⟨X, 1, none⟩ = some (.string xs) from hwe ▸ z1)
        clear HS HOK h6 hpu
        go_wp2_with fail
        refine wp_region_noPanic ?_
        refine wp_region_sch (fun wx => wx.cell? ⟨X, 1, none⟩ = some (.string xs)) (fun i => [3, 7].contains i)
          (.takes [0, 1, 2, 4, 5, 6] (.run 3 (.run 7 (.takes [8] .done)))) (by kernel_rfl) (fun _ _ _ _ _ h => h) (by kernel_rfl) ?_
        rw [hwe]
        iterate 6 (
          refine sch_takes_cons ?_
          first
            | (refine sch_take (v := ?_) rfl (by assumption) (by rfl) ?_ ?_; rotate_left; (focus (intro wy hSy; (try dsimp only at hSy); go_simp; (try with_reducible rfl))))
            | (refine sch_pass rfl (by assumption) (by rfl) ?_)
          simp only [Act.put, List.setIfInBounds_toArray, List.set_cons_zero, List.set_cons_succ])
        refine sch_takes_nil ?_
        refine sch_run rfl (fun K hK => ?_)
        go_simp
        with_reducible refine HPU.out.mono ?_
        rintro e w5 ⟨rfl, hst, HP2⟩
        have hX5 := hst X _ hXe
        have hHeld := (HXC.out w5 hX5).2.1
        clear HPU hst
        refine hK.out _ _ (fun _ => hHeld) ?_
        clear hK K
        try simp only [Act.put, List.setIfInBounds_toArray, List.set_cons_zero, List.set_cons_succ]
        refine sch_run rfl (fun K hK => ?_)
        go_simp
        with_reducible refine HP2.out.mono ?_
        rintro e w6 ⟨rfl, hst2, HD6⟩
        have hX6 := hst2 X _ hX5
        have hHeld := (HXC.out w6 hX6).2.1
        clear HP2 hst2
        refine hK.out _ _ (fun _ => hHeld) ?_
        clear hK K
        try simp only [Act.put, List.setIfInBounds_toArray, List.set_cons_zero, List.set_cons_succ]
        refine sch_takes_cons ?_
        first
          | (refine sch_take (v := ?_) rfl (by assumption) (by rfl) ?_ ?_; rotate_left; (focus (intro wy hSy; (try dsimp only at hSy); go_simp; (try with_reducible rfl))))
          | (refine sch_pass rfl (by assumption) (by rfl) ?_)
        simp only [Act.put, List.setIfInBounds_toArray, List.set_cons_zero, List.set_cons_succ]
        refine sch_takes_nil ?_
        refine sch_done ?_
        refine NoPanic.normal ?_
        clear hHeld hX5 hX6 hXe HXC
        obtain ⟨m2, hd6⟩ := HD6.out
        have HTW := Lib.hid hd6
        clear hd6 HD6
        go_wp2_with fail
        go_loopw [15, 16, 17, 18, 19] (fun b _ _ _ _ wr2 => ∃ j : Nat, j ≤ nb ∧ b = .int .i64 (j : Int) ∧ Hid (Duo w p B (.pointer (some ⟨Aa, 0, none⟩)) A nb ns m2 (k + 1) wr2)) (fun b _ _ _ _ _ => nb - (intOf b).toNat)
        case atStart => exact ⟨0, Nat.zero_le _, rfl, HTW⟩
        case round =>
          clear HTW
          obtain ⟨j, hj, rfl, HI⟩ := hrel
          by_cases hin : j < nb
          · have hinI : (j : Int) < (nb : Int) := by omega
            obtain ⟨s, hrd⟩ := HI.out.read (by omega) j hin
            have HRD := Lib.hid hrd
            clear hrd HI
            go_wp2_with fail
            refine HRD.out.mono ?_
            rintro e w5 ⟨rfl, HR2⟩
            clear HRD
            go_wp2_with fail
            refine HR2.out.mono ?_
            rintro e w6 ⟨rfl, h6⟩
            have H6 := Lib.hid h6
            clear HR2 h6
            go_wp2_with fail
            go_roundw
            case rel => exact ⟨j + 1, by omega, by go_num, H6⟩
            case measure => simp [intOf]; omega
          · have hinI : ¬ (j : Int) < (nb : Int) := by omega
            go_wp2_with fail
            go_roundw
            case rel => exact ⟨k + 1, Aa, A, m2, hk1, hk2, rfl, rfl, rfl, rfl, by go_num, HI⟩
            case measure => simp [intOf]; omega
      · have hw6 : (what : Int) % 6 = 1 := by omega
        obtain ⟨we, hwe⟩ : ∃ we, w2.drew = we := ⟨_, rfl⟩
        have hXe : Row we X 56 [.int .u8 (what : Int), .string xs, .int .i64 xB, .slice xA xn xcap] (0, 0) := hwe ▸ HS.out.2
        obtain ⟨E, hpu⟩ := (show Duo w p B (.pointer (some ⟨Aa, 0, none⟩)) A nb ns m k we from hwe ▸ HS.out.1.drewN 1).put (by omega) (txt xs) (by show xs.size ≤ _; omega)
        rw [show tb (txt xs) = xs from tb_of xs] at hpu
        have HPU := Lib.hid hpu
        have hHeld := (show we.cell? ⟨X, 1, none⟩ = some (.string xs) from hwe ▸ z1)
        clear HS HOK h6 hpu
        go_wp2_with fail
        refine wp_region_noPanic ?_
        refine wp_region_sch (fun wx => wx.cell? ⟨X, 1, none⟩ = some (.string xs)) (fun i => [3, 7].contains i)
          (.takes [0, 1, 2, 4, 5, 6] (.run 3 (.run 7 (.takes [8] .done)))) (by kernel_rfl) (fun _ _ _ _ _ h => h) (by kernel_rfl) ?_
        rw [hwe]
        iterate 6 (
          refine sch_takes_cons ?_
          first
            | (refine sch_take (v := ?_) rfl (by assumption) (by rfl) ?_ ?_; rotate_left; (focus (intro wy hSy; (try dsimp only at hSy); go_simp; (try with_reducible rfl))))
            | (refine sch_pass rfl (by assumption) (by rfl) ?_)
          simp only [Act.put, List.setIfInBounds_toArray, List.set_cons_zero, List.set_cons_succ])
        refine sch_takes_nil ?_
        refine sch_run rfl (fun K hK => ?_)
        go_simp
        with_reducible refine HPU.out.mono ?_
        rintro e w5 ⟨rfl, hst, HP2⟩
        have hX5 := hst X _ hXe
        have hHeld := (HXC.out w5 hX5).2.1
        clear HPU hst
        refine hK.out _ _ (fun _ => hHeld) ?_
        clear hK K
        try simp only [Act.put, List.setIfInBounds_toArray, List.set_cons_zero, List.set_cons_succ]
        refine sch_run rfl (fun K hK => ?_)
        go_simp
        with_reducible refine HP2.out.mono ?_
        rintro e w6 ⟨rfl, hst2, HD6⟩
        have hX6 := hst2 X _ hX5
        have hHeld := (HXC.out w6 hX6).2.1
        clear HP2 hst2
        refine hK.out _ _ (fun _ => hHeld) ?_
        clear hK K
        try simp only [Act.put, List.setIfInBounds_toArray, List.set_cons_zero, List.set_cons_succ]
        refine sch_takes_cons ?_
        first
          | (refine sch_take (v := ?_) rfl (by assumption) (by rfl) ?_ ?_; rotate_left; (focus (intro wy hSy; (try dsimp only at hSy); go_simp; (try with_reducible rfl))))
          | (refine sch_pass rfl (by assumption) (by rfl) ?_)
        simp only [Act.put, List.setIfInBounds_toArray, List.set_cons_zero, List.set_cons_succ]
        refine sch_takes_nil ?_
        refine sch_done ?_
        refine NoPanic.normal ?_
        clear hHeld hX5 hX6 hXe HXC
        obtain ⟨m2, hd6⟩ := HD6.out
        have HTW := Lib.hid hd6
        clear hd6 HD6
        go_wp2_with fail
        go_loopw [15, 16, 17, 18, 19] (fun b _ _ _ _ wr2 => ∃ j : Nat, j ≤ nb ∧ b = .int .i64 (j : Int) ∧ Hid (Duo w p B (.pointer (some ⟨Aa, 0, none⟩)) A nb ns m2 (k + 1) wr2)) (fun b _ _ _ _ _ => nb - (intOf b).toNat)
        case atStart => exact ⟨0, Nat.zero_le _, rfl, HTW⟩
        case round =>
          clear HTW
          obtain ⟨j, hj, rfl, HI⟩ := hrel
          by_cases hin : j < nb
          · have hinI : (j : Int) < (nb : Int) := by omega
            obtain ⟨s, hrd⟩ := HI.out.read (by omega) j hin
            have HRD := Lib.hid hrd
            clear hrd HI
            go_wp2_with fail
            refine HRD.out.mono ?_
            rintro e w5 ⟨rfl, HR2⟩
            clear HRD
            go_wp2_with fail
            refine HR2.out.mono ?_
            rintro e w6 ⟨rfl, h6⟩
            have H6 := Lib.hid h6
            clear HR2 h6
            go_wp2_with fail
            go_roundw
            case rel => exact ⟨j + 1, by omega, by go_num, H6⟩
            case measure => simp [intOf]; omega
          · have hinI : ¬ (j : Int) < (nb : Int) := by omega
            go_wp2_with fail
            go_roundw
            case rel => exact ⟨k + 1, Aa, A, m2, hk1, hk2, rfl, rfl, rfl, rfl, by go_num, HI⟩
            case measure => simp [intOf]; omega
    · rcases (show (l.length : Int) ≤ (k : Int) ∨ ((k : Int) < (l.length : Int) ∧ (40 : Int) ≤ (k : Int)) by omega) with g1 | ⟨g1, g2⟩
      all_goals
        have HB := Lib.hid HT.out.since
        clear hend HT
        go_wp2_with fail
        refine (HH.out _ HB.out).mono ?_
        rintro e w9 ⟨rfl, hb9⟩
        have HB9 := Lib.hid hb9
        clear hb9
        go_wp2
        go_ret
        exact ⟨rfl, HB9.out⟩
end Go.Proofs.Ytnmfgmlmjbfdcaa
