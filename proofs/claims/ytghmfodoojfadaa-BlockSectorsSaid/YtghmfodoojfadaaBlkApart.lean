/-
  BlockApart: the walk.
-/
import Derived.Test.YtghmfodoojfadaaBlkMove
import Derived.Test.YtghmfodoojfadaaBlkG
namespace Go.Proofs.Ytghmfodoojfadaa
open Go.RowKit

/-- Two devices that share nothing. -/
structure Two (W : World) (d c : DV) (w : World) : Prop where
  sd : Since W d w
  sc : Since W c w
  dis : ∀ k, d.mine k → ¬ c.mine k
theorem Two.drewN {W w : World} {d c : DV} (h : Two W d c w) (n : Nat) : Two W d c (w.drewN n) := ⟨h.sd.drewN n, h.sc.drewN n, h.dis⟩
theorem Two.keeps {W w w' : World} {d c : DV} (h : Two W d c w) (hb : Below w.heap.size w w') : Two W d c w' := ⟨h.sd.keeps hb, h.sc.keeps hb, h.dis⟩
theorem Two.right {W w w' : World} {d c c' : DV} (h : Two W d c w) (m : Moved W c w c' w') : Two W d c' w' :=
  ⟨⟨h.sd.dev.only m.only fun k hk hm => h.dis k hk hm, m.since.below, h.sd.new⟩, m.since, fun k hk hm => by
    rcases m.mine k hm with e | e
    · exact h.dis k hk e
    · have := h.sd.dev.mineLt k hk
      omega⟩
theorem Two.left {W w w' : World} {d c d' : DV} (h : Two W d c w) (m : Moved W d w d' w') : Two W d' c w' :=
  ⟨m.since, ⟨h.sc.dev.only m.only fun k hk hm => h.dis k hm hk, m.since.below, h.sc.new⟩, fun k hm hk => by
    rcases m.mine k hm with e | e
    · exact h.dis k e hk
    · have := h.sc.dev.mineLt k hk
      omega⟩

/-- A device behind k acts. -/
structure One (W : World) (A0 nb ns k : Nat) (d : DV) (w : World) : Prop where
  since : Since W d w
  ptr : d.ptr = .pointer (some ⟨A0, 0, none⟩)
  nb : d.nb = nb
  ns : d.ns = ns
  pend : d.pend.length ≤ k
theorem One.keeps {W w w' : World} {A0 nb ns k : Nat} {d : DV} (h : One W A0 nb ns k d w) (hb : Below w.heap.size w w') : One W A0 nb ns k d w' := { h with since := h.since.keeps hb }
theorem One.moved {W w w' : World} {A0 nb ns k : Nat} {d d' : DV} (h : One W A0 nb ns k d w) (m : Moved W d w d' w') : One W A0 nb ns (k + 1) d' w' :=
  ⟨m.since, by have := h.ptr; unfold DV.ptr at this ⊢; rw [m.A]; exact this, m.nb.trans h.nb, m.ns.trans h.ns, by have := m.pend; have := h.pend; omega⟩

set_option maxRecDepth 100000 in
set_option maxHeartbeats 8000000 in
theorem apart_any (LA : Option Addr) (lc : Nat) (l : List ActV) (MA : Option Addr) (mc : Nat) (m : List ActV) (w : World) (hl : Acts w LA l) (hln : l.length ≤ 9223372036854775807) (hm : Acts w MA m) (hmn : m.length ≤ 9223372036854775807) :
    Calls Try.prog 6 #[.slice LA l.length lc, .slice MA m.length mc] w fun e w' => e = .returned (.bool true) ∧ Below w.heap.size w w' := by
  have HL := Lib.hid hl
  have HM := Lib.hid hm
  clear hl hm
  go_enter Try.func6, Try.ntmps6
  go_wp2_with fail
  refine (new_good 4 2 w (by omega) (by omega)).mono ?_
  intro e w1 hnew
  obtain ⟨d, rfl, hs, e1, e2, e3, e4, e5⟩ := since_new hnew
  obtain ⟨A0, hptr⟩ : ∃ A0, d.ptr = .pointer (some ⟨A0, 0, none⟩) := ⟨d.A, rfl⟩
  have HO0 := Lib.hid (show One w A0 4 2 0 d w1 from ⟨hs, hptr, e1, e2, by rw [e5]; simp⟩)
  rw [hptr]
  clear hnew hs e1 e2 e3 e4 e5 hptr
  go_wp2_with fail
  go_loopw [7] (fun i wr => ∃ k : Nat, k ≤ 20 ∧ k ≤ l.length ∧ i = .int .i64 k ∧ ∃ d, Hid (One w A0 4 2 k d wr)) (fun i _ => 20 - (intOf i).toNat)
  case atStart => exact ⟨0, by omega, by omega, rfl, d, HO0⟩
  case round =>
    clear HO0
    clear d
    obtain ⟨k, hk, hk2, rfl, d, HO⟩ := hrel
    by_cases hlt : k < 20 ∧ k < l.length
    · obtain ⟨hlt1, hlt2⟩ := hlt
      obtain ⟨g, off, rfl, c0, c1, c2, c3, c4⟩ := HL.out.cells HO.out.since.below hlt2
      have HCE := Lib.hid (fun (wx : World) (hb : Below w.heap.size w wx) => HL.out.cells hb hlt2)
      have HOK := Lib.hid (HL.out.ok l[k] (List.getElem_mem _))
      obtain ⟨x, hx⟩ : ∃ x, l[k] = x := ⟨_, rfl⟩
      rw [hx] at c0 c1 c2 c3 c4 HCE HOK
      clear hx
      have hkl : (k : Int) < l.length := by omega
      have hk20 : (k : Int) < 20 := by omega
      by_cases hg : 60 < x.n
      · go_wp2_with fail
        refine (great_any x.what x.B x.N x.c x.A x.n x.cap wr).mono ?_
        rintro e w2 ⟨rfl, hb⟩
        rw [decide_eq_true hg]
        have HB := Lib.hid (HO.out.since.below.trans (hb.mono HO.out.since.below.size))
        clear hb hg
        go_wp2_with fail
        refine (head_any w2).mono ?_
        rintro e w3 ⟨rfl, hb⟩
        have HB3 := Lib.hid (HB.out.trans (hb.mono HB.out.size))
        clear hb
        go_wp2
        go_ret
        exact ⟨rfl, HB3.out⟩
      · go_wp2_with fail
        refine (great_any x.what x.B x.N x.c x.A x.n x.cap wr).mono ?_
        rintro e w2 ⟨rfl, hb⟩
        rw [decide_eq_false hg]
        have HO2 := Lib.hid (HO.out.keeps hb)
        clear hb hg c0 c1 c2 c3 c4
        obtain ⟨g', off', hA', c0, c1, c2, c3, c4⟩ := HCE.out w2 HO2.out.since.below
        simp only [Option.some.injEq, Addr.mk.injEq, and_true] at hA'
        obtain ⟨rfl, rfl⟩ := hA'
        have HAC := Lib.hid (act_any w d x w2 HO2.out.since HOK.out (by have := HO2.out.pend; omega))
        rw [HO2.out.ptr] at HAC
        go_wp2_with fail
        refine HAC.out.mono ?_
        rintro e w3 ⟨d', rfl, hmv⟩
        have HO3 := Lib.hid (HO2.out.moved hmv.out)
        clear hmv
        go_wp2
        go_roundw
        case rel => exact ⟨k + 1, by omega, by omega, by go_num, d', HO3⟩
        case measure => simp [intOf]; omega
    · have HCP := Lib.hid (copy_any d wr HO.out.since.dev (by have := HO.out.pend; omega))
      rw [HO.out.ptr] at HCP
      rcases (show (20 : Int) ≤ k ∨ ((k : Int) < 20 ∧ (l.length : Int) ≤ k) by omega) with hge | ⟨hge1, hge2⟩
      all_goals
        clear hlt
        go_wp2_with fail
        refine HCP.out.mono ?_
        rintro e w2 ⟨c, rfl, hcin, hcb, hcm, hc1, hc2, hc3, hc4, hc5⟩
        obtain ⟨C0, hcp⟩ : ∃ C0, c.ptr = .pointer (some ⟨C0, 0, none⟩) := ⟨c.A, rfl⟩
        have hsz := HO.out.since.below.size
        have HT2 := Lib.hid (show Two w d c w2 from ⟨HO.out.since.keeps hcb, ⟨hcin, HO.out.since.below.trans (hcb.mono hsz), fun k hk => Nat.le_trans hsz (hcm k hk)⟩, fun k hk hk2 => by
          have h1 := HO.out.since.dev.mineLt k hk
          have h2 := hcm k hk2
          omega⟩)
        have HC0 := Lib.hid (show One w C0 4 2 20 c w2 from ⟨HT2.out.sc, hcp, hc1.trans HO.out.nb, hc2.trans HO.out.ns, by rw [hc5]; have := HO.out.pend; omega⟩)
        have HPD := Lib.hid (pending_any d w2 HT2.out.sd.dev.toTop)
        have HPC := Lib.hid (pending_any c w2 HT2.out.sc.dev.toTop)
        have HAL := Lib.hid (all_any d w2 HT2.out.sd.dev)
        rw [hcp, hc5] at HPC
        rw [HO.out.ptr] at HPD HAL
        rw [hcp]
        have hdn : (d.pend.length : Int) ≤ 20 := by have := HO.out.pend; omega
        clear hcin hcb hcm hc1 hc2 hc3 hc4 hc5 hcp HCP hsz
        go_wp2_with fail
        refine HPC.out.mono ?_
        rintro e w3 ⟨rfl, rfl⟩
        go_wp2_with fail
        refine HPD.out.mono ?_
        rintro e w3 ⟨rfl, rfl⟩
        go_wp2_with fail
        refine HAL.out.mono ?_
        rintro e w3 ⟨rfl, n3, rfl⟩
        have HT3 := Lib.hid (HT2.out.drewN n3)
        have HC3 := Lib.hid (HC0.out.keeps (w' := w2.drewN n3) ⟨rfl, rfl, rfl, Nat.le_refl _, fun _ _ => rfl⟩)
        clear HPC HPD HAL HT2 HC0
        go_wp2_with fail
        go_loopw [10] (fun i wx => ∃ j : Nat, j ≤ 20 ∧ j ≤ m.length ∧ i = .int .i64 j ∧ ∃ c, Hid (One w C0 4 2 (20 + j) c wx) ∧ Hid (Two w d c wx)) (fun i _ => 20 - (intOf i).toNat)
        case atStart => exact ⟨0, by omega, by omega, rfl, c, HC3, HT3⟩
        case round =>
          clear HC3 HT3
          clear c
          obtain ⟨j, hj, hj2, rfl, c, HC, HT⟩ := hrel
          by_cases hlt : j < 20 ∧ j < m.length
          · obtain ⟨hlt1, hlt2⟩ := hlt
            obtain ⟨g, off, rfl, c0, c1, c2, c3, c4⟩ := HM.out.cells HC.out.since.below hlt2
            have HCE := Lib.hid (fun (wx : World) (hb : Below w.heap.size w wx) => HM.out.cells hb hlt2)
            have HOK := Lib.hid (HM.out.ok m[j] (List.getElem_mem _))
            obtain ⟨x, hx⟩ : ∃ x, m[j] = x := ⟨_, rfl⟩
            rw [hx] at c0 c1 c2 c3 c4 HCE HOK
            clear hx
            have hkl : (j : Int) < m.length := by omega
            have hk20 : (j : Int) < 20 := by omega
            by_cases hg : 60 < x.n
            · go_wp2_with fail
              refine (great_any x.what x.B x.N x.c x.A x.n x.cap wr).mono ?_
              rintro e w2 ⟨rfl, hb⟩
              rw [decide_eq_true hg]
              have HB := Lib.hid (HC.out.since.below.trans (hb.mono HC.out.since.below.size))
              clear hb hg
              go_wp2_with fail
              refine (head_any w2).mono ?_
              rintro e w3 ⟨rfl, hb⟩
              have HB3 := Lib.hid (HB.out.trans (hb.mono HB.out.size))
              clear hb
              go_wp2
              go_ret
              exact ⟨rfl, HB3.out⟩
            · go_wp2_with fail
              refine (great_any x.what x.B x.N x.c x.A x.n x.cap wr).mono ?_
              rintro e w2 ⟨rfl, hb⟩
              rw [decide_eq_false hg]
              have HC2 := Lib.hid (HC.out.keeps hb)
              have HT2 := Lib.hid (HT.out.keeps hb)
              clear hb hg c0 c1 c2 c3 c4
              obtain ⟨g', off', hA', c0, c1, c2, c3, c4⟩ := HCE.out w2 HC2.out.since.below
              simp only [Option.some.injEq, Addr.mk.injEq, and_true] at hA'
              obtain ⟨rfl, rfl⟩ := hA'
              have HAC := Lib.hid (act_any w c x w2 HC2.out.since HOK.out (by have := HC2.out.pend; omega))
              rw [HC2.out.ptr] at HAC
              go_wp2_with fail
              refine HAC.out.mono ?_
              rintro e w3 ⟨d', rfl, hmv⟩
              have HC3 := Lib.hid (HC2.out.moved hmv.out)
              have HT3 := Lib.hid (HT2.out.right hmv.out)
              clear hmv
              go_wp2
              go_roundw
              case rel => exact ⟨j + 1, by omega, by omega, by go_num, d', HC3, HT3⟩
              case measure => simp [intOf]; omega
          · have HA1 := Lib.hid (all_any d wr HT.out.sd.dev)
            have HA2 := Lib.hid (fun n => all_any c (wr.drewN n) (HT.out.drewN n).sc.dev)
            rw [HO.out.ptr] at HA1
            rw [HC.out.ptr] at HA2
            rcases (show (20 : Int) ≤ j ∨ ((j : Int) < 20 ∧ (m.length : Int) ≤ j) by omega) with hjge | ⟨hjge1, hjge2⟩
            all_goals
              clear hlt
              go_wp2_with fail
              refine HA1.out.mono ?_
              rintro e w4 ⟨rfl, n4, rfl⟩
              go_wp2_with fail
              refine (HA2.out n4).mono ?_
              rintro e w5 ⟨rfl, n5, rfl⟩
              have HT5 := Lib.hid (HT.out.drewN (n4 + n5))
              have HCR := Lib.hid (crash_moved (show Old w none 0 [] from ⟨rfl, by omega, ⟨fun i hi => by simp at hi, fun m hm => by simp at hm⟩, fun h => by omega⟩) HT5.out.sd 0)
              rw [HO.out.ptr] at HCR
              clear HA1 HA2
              go_wp2_with fail
              refine HCR.out.mono ?_
              rintro e w6 ⟨rfl, hm6⟩
              have HT6 := Lib.hid (HT5.out.left hm6.out)
              have HWR := Lib.hid (write_moved HT6.out.sd 0 ⟨#[122]⟩ (by show 0 ≤ _; omega))
              rw [show (d.crashed []).ptr = .pointer (some ⟨A0, 0, none⟩) from HO.out.ptr] at HWR
              clear hm6 HCR HT5
              go_wp2_with fail
              refine HWR.out.mono ?_
              rintro e w7 ⟨mm, d7, rfl, hm7⟩
              have HT7 := Lib.hid (HT6.out.left hm7.out)
              have HA3 := Lib.hid (all_any c w7 HT7.out.sc.dev)
              rw [HC.out.ptr] at HA3
              clear hm7 HWR HT6
              go_wp2_with fail
              refine HA3.out.mono ?_
              rintro e w8 ⟨rfl, n8, rfl⟩
              have HB8 := Lib.hid (HT7.out.drewN n8).sc.below
              go_wp2_with fail
              refine (head_any _).mono ?_
              rintro e w9 ⟨rfl, hb⟩
              have HB9 := Lib.hid (HB8.out.trans (hb.mono HB8.out.size))
              clear hb
              go_wp2
              go_ret
              exact ⟨rfl, HB9.out⟩

end Go.Proofs.Ytghmfodoojfadaa
