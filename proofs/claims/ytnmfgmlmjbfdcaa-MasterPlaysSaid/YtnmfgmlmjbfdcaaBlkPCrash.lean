/-
  The document's device: Crash.
-/
import Derived.Test.YtnmfgmlmjbfdcaaBlkPSync
namespace Go.Proofs.Ytnmfgmlmjbfdcaa
open Go.RowKit

/-- Numbers of an argument, that stay while the device is turned. -/
structure KeepA (x : RV) (w : World) (A : Option Addr) (keep : List Nat) : Prop where
  at_ : ∀ i (hi : i < keep.length), ∃ kg koff, A = some ⟨kg, koff, none⟩ ∧ ∀ wr, Only x.mine w wr → wr.cell? ⟨kg, koff + i, none⟩ = some (.int .u64 (keep[i] : Int))
  lt : ∀ m ∈ keep, m < 18446744073709551616

theorem drop_cons_at {α : Type} (l : List α) (k : Nat) (h : k < l.length) : l.drop k = l[k] :: l.drop (k + 1) := List.drop_eq_getElem_cons h
theorem drop_headD (l : List Nat) (k : Nat) : (l.drop k).headD 0 = l.getD k 0 := by
  rw [List.headD_eq_head?_getD, List.head?_drop, List.getD_eq_getElem?_getD]
theorem crashAll_step (ns : Nat) (S : List (List UInt8)) (opens : List (Nat × List UInt8)) (keep : List Nat) (k : Nat) (h : k < opens.length) :
    crashAll ns S (opens.drop k) (keep.drop k) = crashAll ns (crashOne ns S opens[k] (keep.getD k 0)) (opens.drop (k + 1)) (keep.drop (k + 1)) := by
  rw [drop_cons_at opens k h]
  show crashAll ns (crashOne ns S opens[k] ((keep.drop k).headD 0)) _ (keep.drop k).tail = _
  rw [drop_headD, List.tail_drop]

theorem mix_snoc (ns m : Nat) (A B : List UInt8) (hA : A.length = ns * 64) (hB : B.length = ns * 64) (j : Nat) (hj : j < ns) :
    strs (secs j (mix ns m A B)) ++ [.string (if m / 2 ^ (j % 64) % 2 = 1 then ⟨(seg A (j * 64) 64).toArray⟩ else ⟨(seg B (j * 64) 64).toArray⟩)] = strs (secs (j + 1) (mix ns m A B)) := by
  rw [secs_succ, (mix_spec ns m A B hA hB ns (Nat.le_refl _)).2 j hj]
  simp only [strs, List.map_append, List.map_cons, List.map_nil]
  congr 3
  split <;> rfl

set_option maxRecDepth 100000 in
set_option maxHeartbeats 4000000 in
theorem rcrash_any (x : RV) (w : World) (A : Option Addr) (n c : Nat) (keep : List Nat) (h : x.In w) (hm : x.R.opens.length ≤ 1000000) (hn : keep.length = n) (hnm : n ≤ 9223372036854775807) (hK : KeepA x w A keep) :
    Calls Try.prog 27 #[x.ptr, .slice A n c] w (RTurned x w { x.R with sure := crashAll x.R.ns x.R.sure x.R.opens keep, opens := [] } (.tuple #[])) := by
  obtain ⟨g, cap, cs, e, -⟩ := h.slot
  obtain ⟨oa, oc, hov⟩ : ∃ (a : Option Addr) (c : Nat), x.vO = .slice a x.R.opens.length c := by
    rcases h.oslot with ⟨e1, e2⟩ | ⟨g, c, e1, _⟩
    · exact ⟨none, 0, by rw [e1, e2]; rfl⟩
    · exact ⟨_, _, e1⟩
  have h8 := h.b8
  have h4 := h.n4
  have n1 := h.n1
  have q2 : (x.R.sure.length : Int) ≤ 8 := by omega
  have q3 : (x.R.ns : Int) ≤ 4 := by omega
  have q4 : (x.R.opens.length : Int) ≤ 1000000 := by omega
  have q5 : (n : Int) ≤ 9223372036854775807 := by omega
  have H0 := Lib.hid (show Mid x w x.R.sure w ∧ crashAll x.R.ns x.R.sure (x.R.opens.drop 0) (keep.drop 0) = crashAll x.R.ns x.R.sure x.R.opens keep from ⟨⟨x, rfl, rfl, rfl, rfl, h, Only.refl _ _⟩, rfl⟩)
  have HC := Lib.hid (show ∀ S wr, Mid x w S wr → wr.cell? ⟨x.B, 0, none⟩ = some (.int .i64 (x.R.ns : Int)) ∧ wr.cell? ⟨x.B, 1, none⟩ = some (.slice (some ⟨g, 0, none⟩) x.R.sure.length cap) ∧ wr.cell? ⟨x.B, 2, none⟩ = some (.slice oa x.R.opens.length oc) ∧ wr.frozen? ⟨x.B, 2, none⟩ = false from fun S wr hM => by
    obtain ⟨k0, k1, k2, k3, -⟩ := hM.cells
    exact ⟨k0, by rw [k1, e], by rw [k2, hov], k3⟩)
  -- what one round wants
  have HST := Lib.hid (show ∀ (k : Nat) (hk : k < x.R.opens.length) S wr, Mid x w S wr → ∃ (og vg vc ug uc o1 : Nat) (LA LB : List UInt8), oa = some ⟨og, 0, none⟩ ∧ o1 < x.R.sure.length ∧ wr.cell? ⟨og, k * 2, none⟩ = some (.int .i64 (o1 : Int)) ∧ wr.cell? ⟨og, k * 2 + 1, none⟩ = some (.slice (some ⟨vg, 0, none⟩) x.R.ns vc) ∧
      LA.length = x.R.ns * 64 ∧ LB.length = x.R.ns * 64 ∧
      Hid (∀ wx, Below wr.heap.size wr wx → wx.cell? ⟨x.B, 0, none⟩ = some (.int .i64 (x.R.ns : Int)) ∧ wx.cell? ⟨x.B, 1, none⟩ = some (.slice (some ⟨g, 0, none⟩) x.R.sure.length cap) ∧ wx.cell? ⟨g, o1, none⟩ = some (.slice (some ⟨ug, 0, none⟩) x.R.ns uc) ∧ wx.frozen? ⟨g, o1, none⟩ = false ∧
        (∀ j, j < x.R.ns → wx.cell? ⟨vg, j, none⟩ = some (.string ⟨(seg LA (j * 64) 64).toArray⟩) ∧ wx.cell? ⟨ug, j, none⟩ = some (.string ⟨(seg LB (j * 64) 64).toArray⟩)) ∧
        ∀ v m, BlkV wx x.R.ns v (mix x.R.ns m LA LB) → m = keep.getD k 0 → ∀ wy, wy = wx.drew.setCell ⟨g, o1, none⟩ v → Mid x w (crashOne x.R.ns S x.R.opens[k] (keep.getD k 0)) wy) from fun k hk S wr hM => by
    obtain ⟨og, v, p1, p2, p3, p4, p5, p6⟩ := hM.open hov k hk
    rw [hM.len h] at p6
    obtain ⟨⟨u, hu, hub⟩, hf, hgl⟩ := hM.sureAt h e (x.R.opens[k].1) p6
    obtain ⟨vg, vc, rfl⟩ := p5.lit
    obtain ⟨ug, uc, rfl⟩ := hub.lit
    refine ⟨og, vg, vc, ug, uc, x.R.opens[k].1, x.R.opens[k].2, S.getD x.R.opens[k].1 [], p1, p6, p3, p4, p5.1, hub.1, Lib.hid fun wx hb => ?_⟩
    obtain ⟨k0, k1, k2, k3, k4⟩ := (hM.keeps hb).cells
    obtain ⟨⟨u', hu', hub'⟩, hf', _⟩ := (hM.keeps hb).sureAt h e (x.R.opens[k].1) p6
    have hux : wx.cell? ⟨g, x.R.opens[k].1, none⟩ = some (.slice (some ⟨ug, 0, none⟩) x.R.ns uc) := (hb.cell (p := ⟨g, x.R.opens[k].1, none⟩) hgl).trans hu
    refine ⟨k0, by rw [k1, e], hux, hf', fun j hj => ?_, fun v m hv hmm wy hy => ?_⟩
    · obtain ⟨g2, cap2, e2, _, hs2⟩ := (p5.keeps hb).cell
      obtain ⟨g3, cap3, e3, _, hs3⟩ := (hub.keeps hb).cell
      injection e2 with e2
      injection e2 with e2
      injection e2 with e2
      injection e3 with e3
      injection e3 with e3
      injection e3 with e3
      subst e2 e3
      exact ⟨hs2 j hj, hs3 j hj⟩
    · subst hy hmm
      have hd : Below wx.heap.size wx wx.drew := (Below.refl _ wx).drew
      exact (hM.keeps (hb.trans (hd.mono hb.size))).put h e (x.R.opens[k].1) p6 (hv.keeps hd))
  have HSTEP := Lib.hid (fun S k hk => crashAll_step x.R.ns S x.R.opens keep k hk)
  have HFIN := Lib.hid (show ∀ S wr, Mid x w S wr → crashAll x.R.ns S (x.R.opens.drop x.R.opens.length) (keep.drop x.R.opens.length) = crashAll x.R.ns x.R.sure x.R.opens keep → RTurned x w { x.R with sure := crashAll x.R.ns x.R.sure x.R.opens keep, opens := [] } (.tuple #[]) (.returned (.tuple #[])) (wr.setCell ⟨x.B, 2, none⟩ (.slice none 0 0)) from fun S wr hM he => by
    rw [← he, List.drop_length]
    exact hM.done _)
  have HKE := Lib.hid (show ∀ S wr, Mid x w S wr → ∀ i (hi : i < keep.length), ∃ kg koff, A = some ⟨kg, koff, none⟩ ∧ wr.cell? ⟨kg, koff + i, none⟩ = some (.int .u64 ((keep.getD i 0 : Nat) : Int)) from fun S wr hM i hi => by
    obtain ⟨y, _, _, _, _, _, ho⟩ := hM
    obtain ⟨kg, koff, e1, e2⟩ := hK.at_ i hi
    refine ⟨kg, koff, e1, ?_⟩
    rw [e2 wr ho, List.getD_eq_getElem?_getD, List.getElem?_eq_getElem hi]; rfl)
  have HKL := Lib.hid (show ∀ i, keep.getD i 0 < 18446744073709551616 from fun i => by
    rw [List.getD_eq_getElem?_getD]
    by_cases hi : i < keep.length
    · rw [List.getElem?_eq_getElem hi]; exact hK.lt _ (List.getElem_mem hi)
    · rw [List.getElem?_eq_none (by omega)]; show 0 < _; omega)
  have HK0 := Lib.hid (show ∀ i, keep.length ≤ i → keep.getD i 0 = 0 from fun i hi => by rw [List.getD_eq_getElem?_getD, List.getElem?_eq_none hi]; rfl)
  obtain ⟨POST, hPO⟩ : ∃ POST, RTurned x w { x.R with sure := crashAll x.R.ns x.R.sure x.R.opens keep, opens := [] } (.tuple #[]) = POST := ⟨_, rfl⟩
  simp only [hPO] at HFIN ⊢
  clear hPO h hov e hm h8 hK
  unfold RV.ptr
  go_enter Try.func27, Try.ntmps27
  go_wp2_with fail
  go_loopw [4, 5, 6, 7, 8] (fun i _ _ _ _ wr => ∃ (k : Nat) (S : List (List UInt8)), k ≤ x.R.opens.length ∧ i = .int .i64 k ∧ Hid (Mid x w S wr ∧ crashAll x.R.ns S (x.R.opens.drop k) (keep.drop k) = crashAll x.R.ns x.R.sure x.R.opens keep)) (fun i _ _ _ _ _ => x.R.opens.length - (intOf i).toNat)
  case atStart => exact ⟨0, _, by omega, rfl, H0⟩
  case round =>
    clear H0
    obtain ⟨k, S, hk, rfl, HM⟩ := hrel
    obtain ⟨c0, c1, c2, f2⟩ := HC.out _ wr HM.out.1
    by_cases hkn : k = x.R.opens.length
    · have hkn2 : ¬ (k : Int) < x.R.opens.length := by omega
      have hM := HM.out
      rw [hkn] at hM
      have HE := Lib.hid (HFIN.out S wr hM.1 hM.2)
      clear hM HM HST HFIN HSTEP HKE HKL HK0 hkn hk
      go_wp2_with fail
      exact bodyPost_ret (v := .tuple #[]) (by simp [results, Try.results27, go_sem]) rfl HE.out
    · have hkN : k < x.R.opens.length := by omega
      have hk2 : (k : Int) < x.R.opens.length := by omega
      have hk1 : k + 1 ≤ x.R.opens.length := by omega
      obtain ⟨og, vg, vc, ug, uc, o1, LA, LB, rfl, ho1, d0, d1, hLA, hLB, HW⟩ := HST.out k hkN S wr HM.out.1
      have ho2 : (o1 : Int) < x.R.sure.length := by omega
      have HN := Lib.hid (show ∀ wy, Mid x w (crashOne x.R.ns S x.R.opens[k] (keep.getD k 0)) wy → Mid x w (crashOne x.R.ns S x.R.opens[k] (keep.getD k 0)) wy ∧ crashAll x.R.ns (crashOne x.R.ns S x.R.opens[k] (keep.getD k 0)) (x.R.opens.drop (k + 1)) (keep.drop (k + 1)) = crashAll x.R.ns x.R.sure x.R.opens keep from fun wy hy => ⟨hy, by rw [← HSTEP.out S k hkN]; exact HM.out.2⟩)
      generalize crashOne x.R.ns S x.R.opens[k] (keep.getD k 0) = S1 at *
      have hmask := HKL.out k
      have HMS := Lib.hid (fun j (hj : j < x.R.ns) => mix_snoc x.R.ns (keep.getD k 0) LA LB hLA hLB j hj)
      have HML := Lib.hid (mix_spec x.R.ns (keep.getD k 0) LA LB hLA hLB x.R.ns (Nat.le_refl _)).1
      have hKE := Lib.hid (fun hi => HKE.out S wr HM.out.1 k hi)
      have hK0 := Lib.hid (fun hi => HK0.out k hi)
      generalize hmk : keep.getD k 0 = mk at *
      clear HST HFIN HSTEP HKE HKL HK0 HC hkn hk hmk HM
      by_cases hkk : k < n
      · obtain ⟨kg, koff, hAe, hkc⟩ := hKE.out (by omega)
        subst hAe
        have hkk2 : (k : Int) < n := by omega
        clear hK0 hKE hkk
        go_wp2_with fail
        have hb1 : Below wr.heap.size wr (wr.alloc (.cells #[.int .i64 (o1 : Int), .slice (some ⟨vg, 0, none⟩) x.R.ns vc] 114)) := (Below.refl _ _).alloc (Nat.le_refl _) _
        have hrw := Row.new wr 114 [.int .i64 (o1 : Int), .slice (some ⟨vg, 0, none⟩) x.R.ns vc] (0, 0)
        have hrw2 : Row (wr.alloc (.cells #[.int .i64 (o1 : Int), .slice (some ⟨vg, 0, none⟩) x.R.ns vc] 114)) wr.heap.size 114 [.int .i64 (o1 : Int), .slice (some ⟨vg, 0, none⟩) x.R.ns vc] (0, 0) := hrw
        generalize hw1 : wr.alloc (.cells #[.int .i64 (o1 : Int), .slice (some ⟨vg, 0, none⟩) x.R.ns vc] 114) = w1 at *
        have HB := Lib.hid (show ∀ wx, Below w1.heap.size w1 wx → wx.cell? ⟨wr.heap.size, 0, none⟩ = some (.int .i64 (o1 : Int)) ∧ wx.cell? ⟨wr.heap.size, 1, none⟩ = some (.slice (some ⟨vg, 0, none⟩) x.R.ns vc) ∧ Below wr.heap.size wr wx from fun wx hb => ⟨(hrw2.below hb hrw2.lt).cell 0, (hrw2.below hb hrw2.lt).cell 1, hb1.trans (hb.mono hb1.size)⟩)
        clear hw1 hb1 hrw hrw2
        generalize hwh : wr.heap.size = wr0H at *
        go_loopw [7, 8] (fun b j wr2 => ∃ i : Nat, i ≤ x.R.ns ∧ j = .int .i64 i ∧ Hid (wr2.ownsRow w1.heap.size 9 1 b i (strs (secs i (mix x.R.ns mk LA LB))) ∧ Below w1.heap.size w1 wr2)) (fun _ j _ => x.R.ns - (intOf j).toNat)
        case atStart => exact ⟨0, by omega, rfl, Lib.hid ⟨World.ownsRow_nil _ _ _ _, Below.refl _ _⟩⟩
        case round =>
          obtain ⟨i, hi, rfl, HI⟩ := hrel
          obtain ⟨z0, z1, hbx⟩ := HB.out _ HI.out.2
          obtain ⟨y0, y1, y2, y3, y4, y5⟩ := HW.out _ hbx
          by_cases hin : i = x.R.ns
          · have hi2 : ¬ (i : Int) < x.R.ns := by omega
            have hown := HI.out.1
            rw [hin] at hown
            have hbv := BlkV.of (ownsRow_zero hown) n1 HML.out
            obtain ⟨bg, bc, hbl⟩ := hbv.lit
            have HP := Lib.hid (fun wy hy => HN.out _ (y5 _ mk hbv rfl wy hy))
            clear hown y4 y5 HI HMS HN HW HB hin hi
            subst hbl
            go_wp2_with fail
            go_still_tail 8, (by kernel_rfl)
            change wpList _ _ _ _ _ wr.drew
            go_wp2_with fail
            go_roundw
            case rel => exact ⟨k + 1, _, hk1, by go_num, Lib.hid (HP.out _ rfl)⟩
            case measure => simp [intOf]; omega
          · have hi2 : (i : Int) < x.R.ns := by omega
            have hi3 : i < x.R.ns := by omega
            have hi4 : i + 1 ≤ x.R.ns := by omega
            have hi5 : (i : Int) < 4 := by omega
            obtain ⟨sA, sB⟩ := y4 i hi3
            have hms := HMS.out i hi3
            have hbit := low_bit mk i hmask
            have hown := HI.out.1
            have hsz := HI.out.2.size
            have HGR := Lib.hid (fun (wz w' : World) (bv : Value) (hz : Below w1.heap.size w1 wz) (hg : wz.grownBy w' bv.ownBlock) (ho : wr.ownsRow w1.heap.size 9 1 bv i (strs (secs i (mix x.R.ns mk LA LB)))) => Below.grown hz hg hz.size (fun g hg2 => (ho.lt g hg2).1))
            have HB2 := Lib.hid HI.out.2
            clear HI y4 y5 hin hi
            by_cases hb : mk / 2 ^ (i % 64) % 2 = 1
            · rw [if_pos hb] at hms
              rw [decide_eq_true hb] at hbit
              obtain ⟨T, hT⟩ : ∃ T : ByteArray, (⟨(seg LA (i * 64) 64).toArray⟩ : ByteArray) = T := ⟨_, rfl⟩
              rw [hT] at hms sA
              have HMX := Lib.hid hms
              have HOWN := Lib.hid hown
              clear hb hT hms hown sB
              go_wp2_with (at_builtin; refine wpList_onto (t := 99) (e := 9) Try.underlying99 Try.infoStr rfl (by decide) (by decide) rfl (.tmp 48) (.tmp 54) (by rfl) w1.heap.size _ i (strs (secs i (mix x.R.ns mk LA LB))) (by rfl) (World.ownsRow.alloc HOWN.out _) ⟨wr.heap.size, 0, none⟩ 1 [.string T] (by rfl) rfl (new_one wr 9 (.string T)) (by simp [Value.oneCell']) (by omega) (by simp; omega) ?_)
              intro g2 c2' w2 h5 h6 h7
              rw [HMX.out] at h5
              have HNX := Lib.hid (show w2.ownsRow w1.heap.size 9 1 (.slice (some ⟨g2, 0, none⟩) (i + 1) c2') (i + 1) (strs (secs (i + 1) (mix x.R.ns mk LA LB))) ∧ Below w1.heap.size w1 w2 from ⟨h5, HGR.out _ w2 _ (HB2.out.alloc HB2.out.size _) h6 HOWN.out⟩)
              clear h5 h6 h7 HGR HMX HOWN
              go_wp2
              go_roundw
              case rel => exact ⟨i + 1, hi4, by go_num, HNX⟩
              case measure => simp [intOf]; omega
            · rw [if_neg hb] at hms
              rw [decide_eq_false hb] at hbit
              obtain ⟨T, hT⟩ : ∃ T : ByteArray, (⟨(seg LB (i * 64) 64).toArray⟩ : ByteArray) = T := ⟨_, rfl⟩
              rw [hT] at hms sB
              have HMX := Lib.hid hms
              have HOWN := Lib.hid hown
              have HOWN2 := Lib.hid (show ∀ bv, wr.ownsRow w1.heap.size 9 1 bv i (strs (secs i (mix x.R.ns mk LA LB))) → (wr.drew.alloc (.cells #[.string T] 9)).ownsRow w1.heap.size 9 1 bv i (strs (secs i (mix x.R.ns mk LA LB))) from fun bv ho => World.ownsRow.alloc (w := wr.drew) ho _)
              have t0 : wr.drew.cell? ⟨wr0H, 0, none⟩ = some (.int .i64 (o1 : Int)) := z0
              have t1 : wr.drew.cell? ⟨x.B, 1, none⟩ = some (.slice (some ⟨g, 0, none⟩) x.R.sure.length cap) := y1
              have t2 : wr.drew.cell? ⟨g, o1, none⟩ = some (.slice (some ⟨ug, 0, none⟩) x.R.ns uc) := y2
              have t3 : wr.drew.cell? ⟨ug, i, none⟩ = some (.string T) := sB
              clear hb hT hms hown sA
              go_wp2_with fail
              go_region_law (first
                | (refine step_onto (t := 99) (e := 9) Try.underlying99 Try.infoStr rfl (by decide) (by decide) rfl (.tmp 56) (.tmp 68) (by rfl) w1.heap.size _ i (strs (secs i (mix x.R.ns mk LA LB))) (by rfl) (HOWN2.out _ HOWN.out) ⟨wr.heap.size, 0, none⟩ 1 [.string T] (by rfl) rfl (new_one wr.drew 9 (.string T)) (by simp [Value.oneCell']) (by omega) (by simp; omega) ?_; intro g2 c2' w2 h5 h6 h7)
                | fail "x")
              all_goals
                rw [HMX.out] at h5
                have HNX := Lib.hid (show w2.ownsRow w1.heap.size 9 1 (.slice (some ⟨g2, 0, none⟩) (i + 1) c2') (i + 1) (strs (secs (i + 1) (mix x.R.ns mk LA LB))) ∧ Below w1.heap.size w1 w2 from ⟨h5, HGR.out _ w2 _ (HB2.out.drew.alloc HB2.out.size _) h6 HOWN.out⟩)
                clear h5 h6 h7 HGR HMX HOWN HOWN2
                go_wp2
                go_roundw
                case rel => exact ⟨i + 1, hi4, by go_num, HNX⟩
                case measure => simp [intOf]; omega
      · obtain rfl := hK0.out (by omega)
        have hkk2 : (n : Int) ≤ k := by omega
        have hkk3 : decide (k < n) = false := by simpa using hkk2
        have hkk4 : decide ((k : Int) < (n : Int)) = false := by simp; omega
        have hkk5 : ¬ k < n := by omega
        clear hK0 hKE hkk
        go_wp2_with fail
        have hb1 : Below wr.heap.size wr (wr.alloc (.cells #[.int .i64 (o1 : Int), .slice (some ⟨vg, 0, none⟩) x.R.ns vc] 114)) := (Below.refl _ _).alloc (Nat.le_refl _) _
        have hrw := Row.new wr 114 [.int .i64 (o1 : Int), .slice (some ⟨vg, 0, none⟩) x.R.ns vc] (0, 0)
        have hrw2 : Row (wr.alloc (.cells #[.int .i64 (o1 : Int), .slice (some ⟨vg, 0, none⟩) x.R.ns vc] 114)) wr.heap.size 114 [.int .i64 (o1 : Int), .slice (some ⟨vg, 0, none⟩) x.R.ns vc] (0, 0) := hrw
        generalize hw1 : wr.alloc (.cells #[.int .i64 (o1 : Int), .slice (some ⟨vg, 0, none⟩) x.R.ns vc] 114) = w1 at *
        have HB := Lib.hid (show ∀ wx, Below w1.heap.size w1 wx → wx.cell? ⟨wr.heap.size, 0, none⟩ = some (.int .i64 (o1 : Int)) ∧ wx.cell? ⟨wr.heap.size, 1, none⟩ = some (.slice (some ⟨vg, 0, none⟩) x.R.ns vc) ∧ Below wr.heap.size wr wx from fun wx hb => ⟨(hrw2.below hb hrw2.lt).cell 0, (hrw2.below hb hrw2.lt).cell 1, hb1.trans (hb.mono hb1.size)⟩)
        clear hw1 hb1 hrw hrw2
        generalize hwh : wr.heap.size = wr0H at *
        go_loopw [7, 8] (fun b j wr2 => ∃ i : Nat, i ≤ x.R.ns ∧ j = .int .i64 i ∧ Hid (wr2.ownsRow w1.heap.size 9 1 b i (strs (secs i (mix x.R.ns 0 LA LB))) ∧ Below w1.heap.size w1 wr2)) (fun _ j _ => x.R.ns - (intOf j).toNat)
        case atStart => exact ⟨0, by omega, rfl, Lib.hid ⟨World.ownsRow_nil _ _ _ _, Below.refl _ _⟩⟩
        case round =>
          obtain ⟨i, hi, rfl, HI⟩ := hrel
          obtain ⟨z0, z1, hbx⟩ := HB.out _ HI.out.2
          obtain ⟨y0, y1, y2, y3, y4, y5⟩ := HW.out _ hbx
          by_cases hin : i = x.R.ns
          · have hi2 : ¬ (i : Int) < x.R.ns := by omega
            have hown := HI.out.1
            rw [hin] at hown
            have hbv := BlkV.of (ownsRow_zero hown) n1 HML.out
            obtain ⟨bg, bc, hbl⟩ := hbv.lit
            have HP := Lib.hid (fun wy hy => HN.out _ (y5 _ 0 hbv rfl wy hy))
            clear hown y4 y5 HI HMS HN HW HB hin hi
            subst hbl
            go_wp2_with fail
            go_still_tail 8, (by kernel_rfl)
            change wpList _ _ _ _ _ wr.drew
            go_wp2_with fail
            go_roundw
            case rel => exact ⟨k + 1, _, hk1, by go_num, Lib.hid (HP.out _ rfl)⟩
            case measure => simp [intOf]; omega
          · have hi2 : (i : Int) < x.R.ns := by omega
            have hi3 : i < x.R.ns := by omega
            have hi4 : i + 1 ≤ x.R.ns := by omega
            have hi5 : (i : Int) < 4 := by omega
            obtain ⟨sA, sB⟩ := y4 i hi3
            have hms := HMS.out i hi3
            have hbit : (bits BinOp.and IntKind.u64 0 1 == 1) = false := by decide
            have hown := HI.out.1
            have hsz := HI.out.2.size
            have HGR := Lib.hid (fun (wz w' : World) (bv : Value) (hz : Below w1.heap.size w1 wz) (hg : wz.grownBy w' bv.ownBlock) (ho : wr.ownsRow w1.heap.size 9 1 bv i (strs (secs i (mix x.R.ns 0 LA LB)))) => Below.grown hz hg hz.size (fun g hg2 => (ho.lt g hg2).1))
            have HB2 := Lib.hid HI.out.2
            clear HI y4 y5 hin hi
            by_cases hb : 0 / 2 ^ (i % 64) % 2 = 1
            · exact absurd hb (by simp)
            · rw [if_neg hb] at hms
              obtain ⟨T, hT⟩ : ∃ T : ByteArray, (⟨(seg LB (i * 64) 64).toArray⟩ : ByteArray) = T := ⟨_, rfl⟩
              rw [hT] at hms sB
              have HMX := Lib.hid hms
              have HOWN := Lib.hid hown
              have HOWN2 := Lib.hid (show ∀ bv, wr.ownsRow w1.heap.size 9 1 bv i (strs (secs i (mix x.R.ns 0 LA LB))) → (wr.drew.alloc (.cells #[.string T] 9)).ownsRow w1.heap.size 9 1 bv i (strs (secs i (mix x.R.ns 0 LA LB))) from fun bv ho => World.ownsRow.alloc (w := wr.drew) ho _)
              have t0 : wr.drew.cell? ⟨wr0H, 0, none⟩ = some (.int .i64 (o1 : Int)) := z0
              have t1 : wr.drew.cell? ⟨x.B, 1, none⟩ = some (.slice (some ⟨g, 0, none⟩) x.R.sure.length cap) := y1
              have t2 : wr.drew.cell? ⟨g, o1, none⟩ = some (.slice (some ⟨ug, 0, none⟩) x.R.ns uc) := y2
              have t3 : wr.drew.cell? ⟨ug, i, none⟩ = some (.string T) := sB
              clear hb hT hms hown sA
              go_wp2_with fail
              go_region_law (first
                | (refine step_onto (t := 99) (e := 9) Try.underlying99 Try.infoStr rfl (by decide) (by decide) rfl (.tmp 56) (.tmp 68) (by rfl) w1.heap.size _ i (strs (secs i (mix x.R.ns 0 LA LB))) (by rfl) (HOWN2.out _ HOWN.out) ⟨wr.heap.size, 0, none⟩ 1 [.string T] (by rfl) rfl (new_one wr.drew 9 (.string T)) (by simp [Value.oneCell']) (by omega) (by simp; omega) ?_; intro g2 c2' w2 h5 h6 h7)
                | fail "x")
              all_goals
                rw [HMX.out] at h5
                have HNX := Lib.hid (show w2.ownsRow w1.heap.size 9 1 (.slice (some ⟨g2, 0, none⟩) (i + 1) c2') (i + 1) (strs (secs (i + 1) (mix x.R.ns 0 LA LB))) ∧ Below w1.heap.size w1 w2 from ⟨h5, HGR.out _ w2 _ (HB2.out.drew.alloc HB2.out.size _) h6 HOWN.out⟩)
                clear h5 h6 h7 HGR HMX HOWN HOWN2
                go_wp2
                go_roundw
                case rel => exact ⟨i + 1, hi4, by go_num, HNX⟩
                case measure => simp [intOf]; omega
end Go.Proofs.Ytnmfgmlmjbfdcaa
