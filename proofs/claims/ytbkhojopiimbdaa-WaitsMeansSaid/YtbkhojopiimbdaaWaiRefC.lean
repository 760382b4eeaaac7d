/-
  The document's answer for package waits, part C: the walk of Ring.
-/
import Derived.Test.YtbkhojopiimbdaaWaiRefB
namespace Go.Proofs.Ytbkhojopiimbdaa
open Go.RowKit

/-- Distances in memory of the call's own. -/
def HoldsF (W : World) (v : Value) (ways : List (Nat × Nat)) (wr : World) : Prop :=
  wr.ownsRow W.heap.size 38 2 v ways.length (fv ways) ∧ Keep W wr
/-- How long a slice is. -/
def slen : Value → Nat
  | .slice _ n _ => n
  | _ => 0
/-- What Ring hands back. -/
def RingV (l : List Edge) (tx : Nat) (w : World) (e : Ending) (w' : World) : Prop :=
  ∃ A n c r, e = .returned (.slice A n c) ∧ r.length = n ∧ n ≤ c ∧ (A = none → c = 0) ∧ Lie w' A (nv r) ∧ RingOf l tx r ∧ Below w.heap.size w w'
/-- Behind the rounds. -/
def CutF (l : List Edge) (tx : Nat) (W : World) (v : Value) (wr : World) : Prop := ∃ ways, Whole l tx ways ∧ ways.length ≤ 100000 ∧ HoldsF W v ways wr

set_option maxRecDepth 100000 in
set_option maxHeartbeats 2000000 in
theorem wring_any (l : List Edge) (A : Option Addr) (c tx : Nat) (w : World) (h : Lie w A (ev l)) (_hc : l.length ≤ c) (hn : l.length ≤ 200) :
    Calls Try.prog 9 #[.slice A l.length c, .int .u64 (tx : Int)] w (RingV l tx w) := by
  obtain ⟨POST, hPO⟩ : ∃ POST, RingV l tx w = POST := ⟨_, rfl⟩
  have HFIN := Lib.hid (fun A n c r w' (h1 : r.length = n) (h2 : n ≤ c) (h3 : A = none → c = 0) (h4 : Lie w' A (nv r)) (h5 : RingOf l tx r) (h6 : Below w.heap.size w w') => show POST (.returned (.slice A n c)) w' from hPO ▸ ⟨A, n, c, r, rfl, h1, h2, h3, h4, h5, h6⟩)
  rw [hPO]
  clear hPO
  have HL := Lib.hid h
  clear h
  have hn2 : ¬ (5000 : Int) < (l.length : Int) := by omega
  go_enter Try.func9, Try.ntmps9
  obtain ⟨iF, hiF, hzF, hsF, hbF⟩ := info_parts Try.infoFar
  obtain ⟨iN, hiN, hzN, hsN, hbN⟩ := info_parts Try.infoU64
  go_upto_block 0 with fail
  have H0 := Lib.hid (show HoldsF w (.slice (some ⟨w.heap.size, 0, none⟩) 1 1) [(tx, 0)] (w.alloc (.cells #[.int .u64 (tx : Int), .int .i64 0] 38)) from
    ⟨World.ownsRow_lit w #[.int .u64 (tx : Int), .int .i64 0] 1 (Nat.le_refl _) (by decide) rfl, (Keep.refl w).alloc _⟩)
  obtain ⟨W1, hW1⟩ : ∃ W1, w.alloc (.cells #[.int .u64 (tx : Int), .int .i64 0] 38) = W1 := ⟨_, rfl⟩
  rw [hW1] at H0 ⊢
  clear hW1
  generalize hwh : w.heap.size = wH at *
  go_cut [5] (fun v wx => CutF l tx w v wx)
  case first =>
    go_wp2_with fail
    go_loopw [5, 6] (fun v i wr => ∃ (n : Nat) (ways : List (Nat × Nat)), n ≤ l.length ∧ i = .int .i64 ((n + 1 : Nat) : Int) ∧ Hid (Levels l tx (n + 1) ways) ∧ ways.length ≤ 1 + n * l.length ∧ Hid (HoldsF w v ways wr)) (fun _ i _ => l.length + 1 - (intOf i).toNat)
    case atStart => exact ⟨0, [(tx, 0)], by omega, by first | rfl | go_num, Lib.hid Levels.start, by simp, H0⟩
    case round =>
      clear H0
      obtain ⟨n, ways, hnl, rfl, HV, hwl, HH⟩ := hrel
      obtain ⟨N, hN⟩ : ∃ N, n + 1 = N := ⟨_, rfl⟩
      have hwl2 : ways.length ≤ 100000 := by
        have : n * l.length ≤ 200 * 200 := Nat.mul_le_mul (by omega) hn
        omega
      by_cases hlt : N ≤ l.length
      · have hI : (N : Int) ≤ (l.length : Int) := by omega
        have hI2 : (N : Int) ≤ 200 := by omega
        have hI3 : (1 : Int) ≤ (N : Int) := by omega
        obtain ⟨g, off, rfl, hcell⟩ := HL.out.edges (by omega)
        have HC := Lib.hid hcell
        obtain ⟨Aw, cw, rfl, hcw, hcw0, hlw⟩ := ownsRow_lit HH.out.1
        have HAW := Lib.hid (fun wx (x : Nat) (hk : Keep wr wx) => wat_any ways Aw cw x wx (hlw.keep hk) hcw (by omega))
        clear hcell hlw
        rw [hN] at HV ⊢
        obtain ⟨wo, rfl⟩ : ∃ wo, wo = wr := ⟨wr, rfl⟩
        go_wp2_with fail
        go_loopw [7, 8] (fun m j wr2 => ∃ k : Nat, k ≤ l.length ∧ j = .int .i64 k ∧ Hid (wr2.ownsRow wo.heap.size 38 2 m (moreF ways N (l.take k)).length (fv (moreF ways N (l.take k))) ∧ Keep wo wr2)) (fun _ j _ => l.length - (intOf j).toNat)
        case atStart => exact ⟨0, by omega, rfl, Lib.hid ⟨World.ownsRow_nil _ _ _ _, Keep.refl wo⟩⟩
        case round =>
          obtain ⟨k, hk, rfl, HM⟩ := hrel
          have hml := moreF_length ways N (l.take k)
          rw [List.length_take, Nat.min_eq_left hk] at hml
          obtain ⟨Am, cm, rfl, hcm, hcm0, hlm⟩ := ownsRow_lit HM.out.1
          by_cases hkl : k < l.length
          · have hJ : (k : Int) < (l.length : Int) := by omega
            have HS := Lib.hid (moreF_take ways N l k hkl)
            have HC2 := Lib.hid (fun wx hkx => HC.out wx (HH.out.2.trans (HM.out.2.trans hkx)) k hkl)
            have HA1 := Lib.hid (fun wx (x : Nat) (hkx : Keep wr wx) => HAW.out wx x (HM.out.2.trans hkx))
            generalize moreF ways N (l.take k) = M at *
            have HA2 := Lib.hid (fun wx (x : Nat) (hkx : Keep wr wx) => wat_any M Am cm x wx (hlm.keep hkx) hcm (by omega))
            clear hlm hcm hcm0
            obtain ⟨e2, he2⟩ : ∃ e2, l[k].2 = e2 := ⟨_, rfl⟩
            obtain ⟨e1, he1⟩ : ∃ e1, l[k].1 = e1 := ⟨_, rfl⟩
            have HS := Lib.hid (show moreF ways N (l.take (k + 1)) = if atF ways e2 = (N : Int) - 1 ∧ atF ways e1 < 0 ∧ atF M e1 < 0 then M ++ [(e1, N)] else M by rw [HS.out]; unfold mstep; rw [he1, he2])
            rw [he1, he2] at HC2
            have HK1 := Lib.hid (HC2.out wr (Keep.refl wr))
            obtain ⟨c0, c1⟩ := HC2.out wr (Keep.refl wr)
            clear he1 he2
            have HQ2 := Lib.hid (fun wx hk => HA1.out wx e2 hk)
            have HQ1 := Lib.hid (fun wx hk => HA1.out wx e1 hk)
            have HQ0 := Lib.hid (fun wx hk => HA2.out wx e1 hk)
            obtain ⟨d2, hd2⟩ : ∃ d2, atF ways e2 = d2 := ⟨_, rfl⟩
            obtain ⟨d1, hd1⟩ : ∃ d1, atF ways e1 = d1 := ⟨_, rfl⟩
            obtain ⟨d0, hd0⟩ : ∃ d0, atF M e1 = d0 := ⟨_, rfl⟩
            rw [hd2, hd1, hd0] at HS
            rw [hd2] at HQ2
            rw [hd1] at HQ1
            rw [hd0] at HQ0
            have HKM := Lib.hid (show ∀ wx, Keep wr wx → wx.ownsRow wo.heap.size 38 2 (.slice Am M.length cm) M.length (fv M) ∧ Keep wo wx from fun wx hkx => ⟨HM.out.1.keeps hkx, HM.out.2.trans hkx⟩)
            clear hd2 hd1 hd0 HA1 HA2 HK1 HM
            have hw1 : IntKind.i64.wrap ((N : Int) - 1) = (N : Int) - 1 := IntWalk.i64_in _ (by omega)
            by_cases h2 : d2 = (N : Int) - 1
            · have b2 : (d2 == (N : Int) - 1) = true := by simpa using h2
              by_cases h1 : d1 < 0
              · by_cases h0 : d0 < 0
                · have HS2 := Lib.hid (HS.out.trans (if_pos ⟨h2, h1, h0⟩))
                  clear HS h2
                  go_wp2_with fail
                  refine (HQ2.out _ (Keep.refl wr)).mono ?_
                  rintro e w1 ⟨rfl, hb⟩
                  clear c0 c1
                  obtain ⟨c0, c1⟩ := HC2.out w1 hb
                  have HB := Lib.hid (show Keep wr w1 from hb)
                  clear hb
                  go_wp2_with fail
                  refine (HQ1.out _ HB.out).mono ?_
                  rintro e w2 ⟨rfl, hb⟩
                  have hb2 := HB.out.then hb
                  clear c0 c1 HB hb
                  obtain ⟨c0, c1⟩ := HC2.out w2 hb2
                  have HB := Lib.hid hb2
                  clear hb2
                  go_wp2_with fail
                  refine (HQ0.out _ HB.out).mono ?_
                  rintro e w3 ⟨rfl, hb⟩
                  have hb2 := HB.out.then hb
                  clear c0 c1 HB hb
                  obtain ⟨c0, c1⟩ := HC2.out w3 hb2
                  have HKX := Lib.hid (HKM.out w3 hb2)
                  clear hb2
                  have hml2 : M.length ≤ 200 := by omega
                  go_wp2_with (at_builtin; refine wpList_append_lies _ rfl (.tmp 63) (.tmp 71) 39 (by rfl) wo.heap.size 38 iF _ 2 16 Try.underlying39 hiF hzF hsF hbF rfl (by decide) _ M.length (fv M) (by rfl) (World.ownsRow.alloc HKX.out.1 _) ⟨w3.heap.size, 0, none⟩ 1 1 [.int .u64 (e1 : Int), .int .i64 (N : Int)] (by rfl) rfl (new_two w3 _ _ _) (two_one _ _) (by decide) (by unfold maxLen; omega) (by omega) (by have := HKX.out.2.size; simp; omega) _ rfl ?_)
                  intro g4 c4 w4 h5 h6 h7 h8
                  have HNX := Lib.hid (show w4.ownsRow wo.heap.size 38 2 (.slice (some ⟨g4, 0, none⟩) (M.length + 1) c4) (moreF ways N (l.take (k + 1))).length (fv (moreF ways N (l.take (k + 1)))) ∧ Keep wo w4 by
                    rw [HS2.out, List.length_append, fv_append]
                    exact ⟨h5, Below.grown (HKX.out.2.alloc _) h6 (Nat.le_trans HKX.out.2.size (by simp)) (fun g hg2 => (HKX.out.1.lt g hg2).1)⟩)
                  clear h5 h6 h7 h8
                  go_wp2_with fail
                  go_roundw
                  case rel => exact ⟨k + 1, by omega, by go_num, Lib.hid (by
                    have hlen : (moreF ways N (l.take (k + 1))).length = M.length + 1 := by rw [HS2.out]; simp
                    first | exact HNX.out | (rw [hlen] at HNX ⊢; exact HNX.out))⟩
                  case measure => simp [intOf]; omega
                · have HS2 := Lib.hid (HS.out.trans (if_neg fun h => h0 h.2.2))
                  clear HS h2
                  go_wp2_with fail
                  refine (HQ2.out _ (Keep.refl wr)).mono ?_
                  rintro e w1 ⟨rfl, hb⟩
                  clear c0 c1
                  obtain ⟨c0, c1⟩ := HC2.out w1 hb
                  have HB := Lib.hid (show Keep wr w1 from hb)
                  clear hb
                  go_wp2_with fail
                  refine (HQ1.out _ HB.out).mono ?_
                  rintro e w2 ⟨rfl, hb⟩
                  have hb2 := HB.out.then hb
                  clear c0 c1 HB hb
                  obtain ⟨c0, c1⟩ := HC2.out w2 hb2
                  have HB := Lib.hid hb2
                  clear hb2
                  go_wp2_with fail
                  refine (HQ0.out _ HB.out).mono ?_
                  rintro e w3 ⟨rfl, hb⟩
                  have hb2 := HB.out.then hb
                  clear c0 c1 HB hb
                  have HKX := Lib.hid (HKM.out w3 hb2)
                  clear hb2
                  go_wp2_with fail
                  go_roundw
                  case rel => exact ⟨k + 1, by omega, by go_num, Lib.hid (by rw [HS2.out]; exact HKX.out)⟩
                  case measure => simp [intOf]; omega
              · have HS2 := Lib.hid (HS.out.trans (if_neg fun h => h1 h.2.1))
                clear HS h2
                go_wp2_with fail
                refine (HQ2.out _ (Keep.refl wr)).mono ?_
                rintro e w1 ⟨rfl, hb⟩
                clear c0 c1
                obtain ⟨c0, c1⟩ := HC2.out w1 hb
                have HB := Lib.hid (show Keep wr w1 from hb)
                clear hb
                go_wp2_with fail
                refine (HQ1.out _ HB.out).mono ?_
                rintro e w2 ⟨rfl, hb⟩
                have hb2 := HB.out.then hb
                clear c0 c1 HB hb
                have HKX := Lib.hid (HKM.out w2 hb2)
                clear hb2
                go_wp2_with fail
                go_roundw
                case rel => exact ⟨k + 1, by omega, by go_num, Lib.hid (by rw [HS2.out]; exact HKX.out)⟩
                case measure => simp [intOf]; omega
            · have b2 : (d2 == (N : Int) - 1) = false := by simpa using h2
              have HS2 := Lib.hid (HS.out.trans (if_neg fun h => h2 h.1))
              clear HS h2
              go_wp2_with fail
              refine (HQ2.out _ (Keep.refl wr)).mono ?_
              rintro e w1 ⟨rfl, hb⟩
              clear c0 c1
              have HKX := Lib.hid (HKM.out w1 hb)
              clear hb
              go_wp2_with fail
              go_roundw
              case rel => exact ⟨k + 1, by omega, by go_num, Lib.hid (by rw [HS2.out]; exact HKX.out)⟩
              case measure => simp [intOf]; omega
          · have hJ : ¬ (k : Int) < (l.length : Int) := by omega
            obtain rfl : k = l.length := by omega
            rw [List.take_length] at HM hlm hml hcm
            rw [List.take_length]
            obtain ⟨M, hM⟩ : ∃ M, moreF ways N l = M := ⟨_, rfl⟩
            rw [hM] at HM hlm hml hcm ⊢
            by_cases h0 : M.length = 0
            · have HX := Lib.hid (show CutF l tx w (.slice Aw ways.length cw) wr from ⟨ways, by subst hN; exact HV.out.stop (hM.trans (List.eq_nil_of_length_eq_zero h0)), hwl2, HH.out.1.keeps HM.out.2, HH.out.2.trans HM.out.2⟩)
              have h0' : (M.length : Int) = 0 := by omega
              clear HM hlm hml hcm hM HV HC HAW
              go_wp2_with fail
              try go_frame
              go_meet
              exact HX.out
            · obtain ⟨g2, off2, rfl, hcl⟩ := hlm.cells (by rw [fv_length]; omega)
              have h0' : ¬ (M.length : Int) = 0 := by omega
              have HLV := Lib.hid (show Levels l tx (N + 1) (ways ++ M) by subst hN; rw [← hM]; exact HV.out.round)
              have HHX := Lib.hid (show wr.ownsRow w.heap.size 38 2 (.slice Aw ways.length cw) ways.length (fv ways) ∧ Keep w wr from ⟨HH.out.1.keeps HM.out.2, HH.out.2.trans HM.out.2⟩)
              have HNW := Lib.hid (show ∀ j u, (fv M)[j]? = some u → wr.cell? ((⟨g2, off2, none⟩ : Addr).add j) = some u from fun j u hj => by rw [Addr.add_lit]; exact hcl j u hj)
              have hwx : ways.length + M.length ≤ 1 + N * l.length := by
                have : N * l.length = n * l.length + l.length := by rw [← hN, Nat.succ_mul]
                omega
              clear HM hlm hcl hM HV HC HAW HH
              go_wp2_with (at_builtin; refine wpList_append_lies _ rfl (.tmp 76) (.tmp 77) 39 (by rfl) w.heap.size 38 iF _ 2 16 Try.underlying39 hiF hzF hsF hbF rfl (by decide) _ ways.length (fv ways) (by rfl) HHX.out.1 ⟨g2, off2, none⟩ M.length cm (fv M) (by rfl) (fv_length M) HNW.out (fv_one M) (by omega) (by unfold maxLen; omega) (by omega) HHX.out.2.size _ rfl ?_)
              intro g4 c4 w4 h5 h6 h7 h8
              have HNX := Lib.hid (show HoldsF w (.slice (some ⟨g4, 0, none⟩) (ways.length + M.length) c4) (ways ++ M) w4 from ⟨by rw [List.length_append, fv_append, hwh]; exact h5, Below.grown HHX.out.2 h6 HHX.out.2.size (fun g hg2 => (HHX.out.1.lt g hg2).1)⟩)
              clear h5 h6 h7 h8 HHX HNW
              go_wp2_with fail
              go_roundw
              case rel => exact ⟨N, ways ++ M, by omega, by go_num, HLV, by rw [List.length_append]; exact hwx, HNX⟩
              case measure => simp [intOf]; omega
      · have hI : ¬ (N : Int) ≤ (l.length : Int) := by omega
        have HX := Lib.hid (show ∀ v, HoldsF w v ways wr → CutF l tx w v wr from fun v h => ⟨ways, by
          have h1 := HV.out
          rw [show n + 1 = l.length + 1 by omega] at h1
          exact h1.all, hwl2, h⟩)
        rw [hN]
        go_wp2_with fail
        try go_frame
        go_meet
        exact HX.out _ HH.out
  case rest =>
    obtain ⟨ways, hwhole, hwl, hh⟩ := hcut
    obtain ⟨Aw, cw, rfl, hcw, hcw0, hlw⟩ := ownsRow_lit hh.1
    have HW := Lib.hid hwhole
    have HKW := Lib.hid (show Keep w wc from hh.2)
    have HAW := Lib.hid (fun wy (x : Nat) (hk : Keep wc wy) => wat_any ways Aw cw x wy (hlw.keep hk) hcw (by omega))
    clear hwhole hh hlw H0
    have HR0 := Lib.hid (show (wc.alloc (.cells #[.int .u64 (tx : Int)] 23)).ownsRow wc.heap.size 23 1 (.slice (some ⟨wc.heap.size, 0, none⟩) 1 1) 1 (nv [tx]) ∧ Keep wc (wc.alloc (.cells #[.int .u64 (tx : Int)] 23)) from
      ⟨World.ownsRow_lit wc #[.int .u64 (tx : Int)] 1 (Nat.le_refl _) (by decide) rfl, (Keep.refl wc).alloc _⟩)
    go_wp2_with fail
    obtain ⟨W2, hW2⟩ : ∃ W2, wc.alloc (.cells #[.int .u64 (tx : Int)] 23) = W2 := ⟨_, rfl⟩
    rw [hW2] at HR0 ⊢
    clear hW2
    generalize hxh : wc.heap.size = xH at *
    go_loopw [9] (fun r wr => ∃ (row : List Nat) (x : Nat), Hid (Mid l tx row x) ∧ slen r = row.length ∧ Hid (wr.ownsRow wc.heap.size 23 1 r row.length (nv row) ∧ Keep wc wr)) (fun r _ => l.length + 1 - slen r)
    case atStart => exact ⟨[tx], tx, Lib.hid Mid.start, rfl, Lib.hid ⟨by rw [hxh]; exact HR0.out.1, HR0.out.2⟩⟩
    case round =>
      clear HR0
      obtain ⟨row, x, HM, hsl, HR⟩ := hrel
      obtain ⟨Ar, cr, rfl, hcr, hcr0, hlr⟩ := ownsRow_lit HR.out.1
      clear hsl
      by_cases hlt : row.length ≤ l.length
      · have hpos : 0 < row.length := by
          obtain ⟨r, hr, _⟩ := HM.out
          rw [hr]; simp
        obtain ⟨g, off, rfl, hcell⟩ := HL.out.edges (by omega)
        have HC := Lib.hid hcell
        obtain ⟨R, hR⟩ : ∃ R, row.length = R + 1 := ⟨row.length - 1, by omega⟩
        have hlast : row[R]'(by omega) = x := by
          obtain ⟨r, hr, hx, _⟩ := HM.out
          rw [List.getLast?_eq_getElem?, hR] at hx
          simpa using (List.getElem?_eq_some_iff.1 hx).2
        obtain ⟨gr, offr, rfl, hrc⟩ := hlr.cells (by rw [nv_length]; omega)
        have hrl := hrc R _ (nv_get row R (by omega))
        rw [hlast] at hrl
        have HRC := Lib.hid (show ∀ wy, Keep wr wy → wy.cell? ⟨gr, offr + R, none⟩ = some (.int .u64 (x : Int)) from fun wy hk => by
          have := (World.block_lt_of_cell? _ _ hrl)
          exact (World.cell?_of_block (hk.block _ this)).trans hrl)
        clear hcell hlast hrc hrl hlr
        have HQL := Lib.hid hR
        obtain ⟨q, hq⟩ : ∃ q, row.length = q := ⟨_, rfl⟩
        rw [hq] at hR hlt hpos hcr ⊢
        have hI : (q : Int) ≤ (l.length : Int) := by omega
        have hI2 : (q : Int) ≤ 200 := by omega
        have hI3 : (1 : Int) ≤ (q : Int) := by omega
        have hI4 : (R : Int) < (q : Int) := by omega
        have hw1 : IntKind.i64.wrap ((q : Int) - 1) = (R : Int) := (IntWalk.i64_in _ (by omega)).trans (by omega)
        have HQ2 := Lib.hid hR
        have HQ3 := Lib.hid hq
        clear hR hq
        obtain ⟨wo, rfl⟩ : ∃ wo, wo = wr := ⟨wr, rfl⟩
        go_wp2_with fail
        go_loopw [10, 11, 12, 13] (fun nx f b i wr4 => ∃ (k nxN : Nat) (fB : Bool) (bI : Int), k ≤ l.length ∧ nx = .int .u64 (nxN : Int) ∧ f = .bool fB ∧ b = .int .i64 bI ∧ i = .int .i64 k ∧ Hid (BestTo l ways x k fB nxN bI) ∧ Hid (Keep wo wr4)) (fun _ _ _ i _ => l.length - (intOf i).toNat)
        case atStart => exact ⟨0, 0, false, 0, by omega, rfl, rfl, rfl, rfl, Lib.hid BestTo.start, Lib.hid (Keep.refl wo)⟩
        case round =>
          obtain ⟨k, nx, f, b, hk, rfl, rfl, rfl, rfl, HB, HKR⟩ := hrel
          by_cases hkl : k < l.length
          · have hJ : (k : Int) < (l.length : Int) := by omega
            have HC2 := Lib.hid (fun wy (hy : Keep wo wy) => HC.out wy (HKW.out.trans (HR.out.2.trans hy)) k hkl)
            have HQ1 := Lib.hid (fun wy (x : Nat) (hy : Keep wo wy) => HAW.out wy x (HR.out.2.trans hy))
            obtain ⟨e2, he2⟩ : ∃ e2, l[k].2 = e2 := ⟨_, rfl⟩
            obtain ⟨e1, he1⟩ : ∃ e1, l[k].1 = e1 := ⟨_, rfl⟩
            have HSK := Lib.hid (show (e1 = x → atF ways e2 < 0) → BestTo l ways x (k + 1) f nx b from fun h => HB.out.skip hkl (by rw [he1, he2]; exact h))
            have HTU := Lib.hid (show e1 = x → 0 ≤ atF ways e2 → (f = false ∨ atF ways e2 < b ∨ (atF ways e2 = b ∧ e2 < nx)) → BestTo l ways x (k + 1) true e2 (atF ways e2) from fun h1 h2 h3 => by
              have := HB.out.turn hkl (by rw [he1]; exact h1) (by rw [he2]; exact h2) (by rw [he2]; exact h3)
              rwa [he2] at this)
            have HST := Lib.hid (show f = true → (b < atF ways e2 ∨ (atF ways e2 = b ∧ nx ≤ e2)) → BestTo l ways x (k + 1) true nx b from fun h1 h2 => by
              have hB := HB.out
              rw [h1] at hB
              exact hB.stay hkl (by rw [he2]; exact h2))
            rw [he1, he2] at HC2
            obtain ⟨c0, c1⟩ := HC2.out _ HKR.out
            clear he1 he2
            have HQ := Lib.hid (fun wy hy => HQ1.out wy e2 hy)
            obtain ⟨d, hd⟩ : ∃ d, atF ways e2 = d := ⟨_, rfl⟩
            rw [hd] at HQ HSK HTU HST
            clear hd HQ1 HB
            by_cases hx : e1 = x
            · by_cases h0 : d < 0
              · have HN := Lib.hid (HSK.out fun _ => h0)
                clear HSK HTU HST
                subst hx
                have bx : ((e1 : Int) == (e1 : Int)) = true := beq_self_eq_true _
                have b0 : decide (d < 0) = true := decide_eq_true h0
                go_wp2_with fail
                refine (HQ.out _ HKR.out).mono ?_
                rintro e w1 ⟨rfl, hb⟩
                clear c0 c1
                have hk1 : Keep wo w1 := HKR.out.then hb
                obtain ⟨c0, c1⟩ := HC2.out w1 hk1
                have c2 := HRC.out w1 hk1
                have HK1 := Lib.hid hk1
                clear hk1 hb
                go_wp2_with (go_quiet (fail))
                go_wp2_with fail
                exact ⟨⟨k + 1, nx, f, b, by omega, rfl, rfl, rfl, by go_num, HN, Lib.hid (HK1.out.drewN _)⟩, by simp [intOf]; omega⟩
              · have b0 : decide (d < 0) = false := decide_eq_false h0
                have h00 : (0 : Int) ≤ d := by omega
                clear HSK
                cases f
                · have HN := Lib.hid (HTU.out hx h00 (.inl rfl))
                  clear HTU HST
                  subst hx
                  have bx : ((e1 : Int) == (e1 : Int)) = true := beq_self_eq_true _
                  go_wp2_with fail
                  refine (HQ.out _ HKR.out).mono ?_
                  rintro e w1 ⟨rfl, hb⟩
                  clear c0 c1
                  have hk1 : Keep wo w1 := HKR.out.then hb
                  obtain ⟨c0, c1⟩ := HC2.out w1 hk1
                  have c2 := HRC.out w1 hk1
                  have HK1 := Lib.hid hk1
                  clear hk1 hb
                  go_wp2_with (go_quiet (fail))
                  go_wp2_with fail
                  exact ⟨⟨k + 1, e2, true, d, by omega, rfl, rfl, rfl, by go_num, HN, Lib.hid (HK1.out.drewN _)⟩, by simp [intOf]; omega⟩
                · rcases Int.lt_trichotomy d b with hdb | hdb | hdb
                  · have HN := Lib.hid (HTU.out hx h00 (.inr (.inl hdb)))
                    clear HTU HST
                    subst hx
                    have bx : ((e1 : Int) == (e1 : Int)) = true := beq_self_eq_true _
                    go_wp2_with fail
                    refine (HQ.out _ HKR.out).mono ?_
                    rintro e w1 ⟨rfl, hb⟩
                    clear c0 c1
                    have hk1 : Keep wo w1 := HKR.out.then hb
                    obtain ⟨c0, c1⟩ := HC2.out w1 hk1
                    have c2 := HRC.out w1 hk1
                    have HK1 := Lib.hid hk1
                    clear hk1 hb
                    go_wp2_with (go_quiet (fail))
                    go_wp2_with fail
                    exact ⟨⟨k + 1, e2, true, d, by omega, rfl, rfl, rfl, by go_num, HN, Lib.hid (HK1.out.drewN _)⟩, by simp [intOf]; omega⟩
                  · subst hdb
                    have q1 : ¬ d < d := by omega
                    by_cases hen : e2 < nx
                    · have HN := Lib.hid (HTU.out hx h00 (.inr (.inr ⟨rfl, hen⟩)))
                      clear HTU HST
                      have q2 : (e2 : Int) < (nx : Int) := by omega
                      subst hx
                      have bx : ((e1 : Int) == (e1 : Int)) = true := beq_self_eq_true _
                      go_wp2_with fail
                      refine (HQ.out _ HKR.out).mono ?_
                      rintro e w1 ⟨rfl, hb⟩
                      clear c0 c1
                      have hk1 : Keep wo w1 := HKR.out.then hb
                      obtain ⟨c0, c1⟩ := HC2.out w1 hk1
                      have c2 := HRC.out w1 hk1
                      have HK1 := Lib.hid hk1
                      clear hk1 hb
                      go_wp2_with (go_quiet (fail))
                      go_wp2_with fail
                      exact ⟨⟨k + 1, e2, true, d, by omega, rfl, rfl, rfl, by go_num, HN, Lib.hid (HK1.out.drewN _)⟩, by simp [intOf]; omega⟩
                    · have HN := Lib.hid (HST.out rfl (.inr ⟨rfl, by omega⟩))
                      clear HTU HST
                      have q2 : ¬ (e2 : Int) < (nx : Int) := by omega
                      subst hx
                      have bx : ((e1 : Int) == (e1 : Int)) = true := beq_self_eq_true _
                      go_wp2_with fail
                      refine (HQ.out _ HKR.out).mono ?_
                      rintro e w1 ⟨rfl, hb⟩
                      clear c0 c1
                      have hk1 : Keep wo w1 := HKR.out.then hb
                      obtain ⟨c0, c1⟩ := HC2.out w1 hk1
                      have c2 := HRC.out w1 hk1
                      have HK1 := Lib.hid hk1
                      clear hk1 hb
                      go_wp2_with (go_quiet (fail))
                      go_wp2_with fail
                      exact ⟨⟨k + 1, nx, true, d, by omega, rfl, rfl, rfl, by go_num, HN, Lib.hid (HK1.out.drewN _)⟩, by simp [intOf]; omega⟩
                  · have HN := Lib.hid (HST.out rfl (.inl hdb))
                    clear HTU HST
                    have q1 : ¬ d < b := by omega
                    have q2 : ¬ d = b := by omega
                    have q3 : (d == b) = false := beq_false_of_ne q2
                    subst hx
                    have bx : ((e1 : Int) == (e1 : Int)) = true := beq_self_eq_true _
                    go_wp2_with fail
                    refine (HQ.out _ HKR.out).mono ?_
                    rintro e w1 ⟨rfl, hb⟩
                    clear c0 c1
                    have hk1 : Keep wo w1 := HKR.out.then hb
                    obtain ⟨c0, c1⟩ := HC2.out w1 hk1
                    have c2 := HRC.out w1 hk1
                    have HK1 := Lib.hid hk1
                    clear hk1 hb
                    go_wp2_with (go_quiet (fail))
                    go_wp2_with fail
                    exact ⟨⟨k + 1, nx, true, b, by omega, rfl, rfl, rfl, by go_num, HN, Lib.hid (HK1.out.drewN _)⟩, by simp [intOf]; omega⟩
            · have HN := Lib.hid (HSK.out fun h => absurd h hx)
              clear HSK HTU HST
              have bx : ((e1 : Int) == (x : Int)) = false := beq_false_of_ne (by omega)
              have bx2 : ¬ (e1 : Int) = (x : Int) := by omega
              have bx3 : decide ((e1 : Int) = (x : Int)) = false := decide_eq_false bx2
              go_wp2_with fail
              refine (HQ.out _ HKR.out).mono ?_
              rintro e w1 ⟨rfl, hb⟩
              clear c0 c1
              have hk1 : Keep wo w1 := HKR.out.then hb
              obtain ⟨c0, c1⟩ := HC2.out w1 hk1
              have c2 := HRC.out w1 hk1
              have HK1 := Lib.hid hk1
              clear hk1 hb
              go_wp2_with (go_quiet (fail))
              go_wp2_with fail
              exact ⟨⟨k + 1, nx, f, b, by omega, rfl, rfl, rfl, by go_num, HN, Lib.hid (HK1.out.drewN _)⟩, by simp [intOf]; omega⟩
          · have hJ : ¬ (k : Int) < (l.length : Int) := by omega
            obtain rfl : k = l.length := by omega
            have HRK := Lib.hid (show wr.ownsRow wc.heap.size 23 1 (.slice (some ⟨gr, offr, none⟩) q cr) q (nv row) ∧ Below w.heap.size w wr ∧ Keep wc wr from ⟨by rw [← HQ3.out]; exact HR.out.1.keeps HKR.out, HKW.out.trans (HR.out.2.trans HKR.out), HR.out.2.trans HKR.out⟩)
            clear HAW HC HRC HR HKR
            cases f
            · have HF := Lib.hid (HFIN.out none 0 0 [] wr rfl (Nat.le_refl _) (fun _ => rfl) (Lie.nil _ _) (HM.out.none (HB.out.none HW.out)) (by rw [← hwh]; exact HRK.out.2.1))
              clear HB HM HRK
              go_wp2_with fail
              exact HF.out
            · have HBB := Lib.hid (HB.out.best HW.out)
              by_cases he : nx = tx
              · subst he
                have HF := Lib.hid (HFIN.out (some ⟨gr, offr, none⟩) q cr row wr HQ3.out hcr (fun h => by cases h) (Lie.owns HRK.out.1) (HM.out.ends HBB.out) (by rw [← hwh]; exact HRK.out.2.1))
                clear HB HM HRK HBB
                have bx : ((nx : Int) == (nx : Int)) = true := beq_self_eq_true _
                go_wp2_with fail
                exact HF.out
              · have HN := Lib.hid (HM.out.step HBB.out he)
                have bx : ((nx : Int) == (tx : Int)) = false := beq_false_of_ne (by omega)
                have bx2 : ¬ (nx : Int) = (tx : Int) := by omega
                clear HB HM HBB
                go_wp2_with (at_builtin; refine wpList_append_lies _ rfl (.tmp 148) (.tmp 150) 26 (by rfl) wc.heap.size 23 iN _ 1 8 Try.underlying26 hiN hzN hsN hbN rfl (by decide) _ q (nv row) (by rfl) (World.ownsRow.alloc HRK.out.1 _) ⟨wr.heap.size, 0, none⟩ 1 1 [.int .u64 (nx : Int)] (by rfl) rfl (new_one wr _ _) (nv_one [nx]) (by decide) (by unfold maxLen; omega) (by omega) (by have := HRK.out.2.2.size; simp; omega) _ rfl ?_)
                intro g4 c4 w4 h5 h6 h7 h8
                have HNX := Lib.hid (show w4.ownsRow wc.heap.size 23 1 (.slice (some ⟨g4, 0, none⟩) (q + 1) c4) (row ++ [nx]).length (nv (row ++ [nx])) ∧ Keep wc w4 from
                  ⟨by rw [List.length_append, nv_append, HQ3.out, hxh]; exact h5, Below.grown (HRK.out.2.2.alloc _) h6 (Nat.le_trans HRK.out.2.2.size (by simp)) (fun g hg2 => (HRK.out.1.lt g hg2).1)⟩)
                clear h5 h6 h7 h8 HRK
                go_wp2_with fail
                go_roundw
                case rel => exact ⟨row ++ [nx], nx, HN, by rw [List.length_append, HQ3.out]; rfl, HNX⟩
                case measure => simp [slen]; omega
      · have hI : ¬ (row.length : Int) ≤ (l.length : Int) := by omega
        have HF := Lib.hid (show ∀ wy, Below w.heap.size w wy → POST (.returned (.slice none 0 0)) wy from fun wy hy => by
          refine HFIN.out none 0 0 [] wy rfl (Nat.le_refl _) (fun _ => rfl) (Lie.nil _ _) (HM.out.none fun y k hy => ?_) (by rw [← hwh]; exact hy)
          rcases HM.out.len with h1 | ⟨h1, _⟩
          · exact absurd h1 hlt
          · rw [h1] at hy; cases hy)
        have HF2 := Lib.hid (HF.out wr (HKW.out.trans HR.out.2))
        clear HM HF hlr HR
        go_wp2_with fail
        exact HF2.out
end Go.Proofs.Ytbkhojopiimbdaa
