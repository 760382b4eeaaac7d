/-
  The code's master: Put, where it puts; all of Put.
-/
import Derived.Test.YtnmfgmlmjbfdcaaMasCodeD
namespace Go.Proofs.Ytnmfgmlmjbfdcaa
open Go.RowKit

section
variable {x : MV} {w : World}
/-- The world in the middle of a Put: the master as it was, the text that will be under way. -/
structure MidW (x : MV) (w : World) (g : Nat) (l : List Value) (wr : World) : Prop where
  below : Below w.heap.size w wr
  mas : x.In wr
  gn : w.heap.size ≤ g
  held : Row wr g 74 l (0, 0)
theorem MidW.keeps {g : Nat} {l : List Value} {wr w' : World} (k : MidW x w g l wr) (hb : Below wr.heap.size wr w') : MidW x w g l w' :=
  ⟨k.below.trans (hb.mono k.below.size), k.mas.keeps hb, k.gn, k.held.below hb k.held.lt⟩
theorem MidW.three {g : Nat} {a b c : Value} {wr : World} (k : MidW x w g [a, b, c] wr) (a' b' c' : Value) : MidW x w g [a', b', c'] (((wr.setCell ⟨g, 0, none⟩ a').setCell ⟨g, 1, none⟩ b').setCell ⟨g, 2, none⟩ c') := by
  have ho : Only (· = g) wr (((wr.setCell ⟨g, 0, none⟩ a').setCell ⟨g, 1, none⟩ b').setCell ⟨g, 2, none⟩ c') :=
    (((Only.refl (· = g) wr).setCell (p := ⟨g, 0, none⟩) rfl _).setCell (p := ⟨g, 1, none⟩) rfl _).setCell (p := ⟨g, 2, none⟩) rfl _
  refine ⟨((k.below.setCell (p := ⟨g, 0, none⟩) k.gn _).setCell (p := ⟨g, 1, none⟩) k.gn _).setCell (p := ⟨g, 2, none⟩) k.gn _, k.mas.only ho fun j hj e => ?_, k.gn, ((k.held.put 0 _).put 1 _).put 2 _⟩
  rcases hj with hj | hj
  · exact k.mas.row.ne_ k.held (by decide) (hj.symm.trans e)
  · exact k.mas.dev.notMine k.held (by decide) (by decide) (by decide) (e ▸ hj)

set_option maxRecDepth 100000 in
set_option maxHeartbeats 4000000 in
theorem mput_good (h : x.In w) (s : List UInt8) (hw : x.m.way = false) (hl : s.length + 4 ≤ x.d.ns * 56) (ht : x.d.top < 9223372036854775808) (hpl : x.d.pend.length ≤ 1000000) : Calls Try.prog 30 #[x.ptr, .string (tb s)] w (MPutP x s w) := by
  have HN := Lib.hid (mnone_any x.A x.d.A w h.c0)
  have HB := Lib.hid (mbusy_any h)
  have HS := Lib.hid (size_any x.d w h.dev.toTop)
  have HR := Lib.hid (room_ns x.d w h.dev.ns2)
  obtain ⟨hp, htp⟩ := mput_reads h
  have HP := Lib.hid (hp w (Below.refl _ _))
  have HT := Lib.hid htp
  have c0 := h.c0
  have hns := h.dev.ns2
  rw [hw] at HB
  have hE : x.d.putE x.m s = 0 := by unfold DV.putE; rw [if_neg (by rw [hw]; decide), if_neg (by omega), if_neg (by omega)]
  have hfit := put_fits h.dev hE
  have hone := h.one
  have HCL := Lib.hid (fun wx => clone_str (tb s) wx (by rw [tb_size]; omega))
  -- the text is written
  have HDP := Lib.hid (show ∀ g wx, MidW x w g [.int .i64 ((1 - x.m.at_ : Nat) : Int), .int .u64 ((x.d.top + 1 : Nat) : Int), .string (tb s)] wx →
      Calls Try.prog 61 #[.agg #[.pointer (some ⟨x.d.A, 0, none⟩)], .agg #[.int .i64 ((1 - x.m.at_ : Nat) : Int), .int .u64 ((x.d.top + 1 : Nat) : Int), .string (tb s)]] wx fun e w' =>
        e = .returned (.int .i64 0) ∧ w'.cell? ⟨x.A, 0, none⟩ = some (.pointer (some ⟨x.d.A, 0, none⟩)) ∧ w'.cell? ⟨g, 0, none⟩ = some (.int .i64 ((1 - x.m.at_ : Nat) : Int)) ∧ w'.cell? ⟨g, 1, none⟩ = some (.int .u64 ((x.d.top + 1 : Nat) : Int)) ∧ w'.cell? ⟨g, 2, none⟩ = some (.string (tb s)) ∧
        w'.cell? ⟨x.A, 4, none⟩ = some (.int .i64 0) ∧ w'.cell? ⟨x.A, 5, none⟩ = some (.int .u64 0) ∧ w'.cell? ⟨x.A, 6, none⟩ = some (.string ⟨#[]⟩) ∧ (∀ i, w'.frozen? ⟨x.A, i, none⟩ = false) ∧
        ∀ w'', w'' = ((w'.setCell ⟨x.A, 4, none⟩ (.int .i64 ((1 - x.m.at_ : Nat) : Int))).setCell ⟨x.A, 5, none⟩ (.int .u64 ((x.d.top + 1 : Nat) : Int))).setCell ⟨x.A, 6, none⟩ (.string (tb s)) → MPutP x s w (.returned (.int .i64 0)) w'' from fun g wx hm => by
    refine (dput_any x.d (1 - x.m.at_) (x.d.top + 1) s wx hm.mas.dev (by have := h.two; omega) hfit hpl).mono ?_
    rintro e w' ⟨p, k1, k2, k3, k4⟩
    have hnd := hm.mas.notDev
    have hng : ¬ x.d.mine g := hm.mas.dev.notMine hm.held (by decide) (by decide) (by decide)
    have rh := hm.held.only k3 hng
    have rm := hm.mas.row.only k3 hnd
    unfold MV.cells at rm
    rw [nextV_no hw] at rm
    refine ⟨k1, rm.cell 0, rh.cell 0, rh.cell 1, rh.cell 2, rm.cell 4, rm.cell 5, rm.cell 6, fun i => rm.loose i, fun w'' e'' => ?_⟩
    subst e''
    refine ⟨by rw [hE]; rfl, .inr ⟨hE, p, ?_, ?_, fun k hk => (k4 k hk).imp id (Nat.le_trans hm.below.size)⟩⟩
    · have ho : Only (· = x.A) w' (((w'.setCell ⟨x.A, 4, none⟩ (.int .i64 ((1 - x.m.at_ : Nat) : Int))).setCell ⟨x.A, 5, none⟩ (.int .u64 ((x.d.top + 1 : Nat) : Int))).setCell ⟨x.A, 6, none⟩ (.string (tb s))) :=
        (((Only.refl (· = x.A) w').setCell (p := ⟨x.A, 4, none⟩) rfl _).setCell (p := ⟨x.A, 5, none⟩) rfl _).setCell (p := ⟨x.A, 6, none⟩) rfl _
      have hnw : ¬ (x.d.wrote (1 - x.m.at_) (tb (packed (x.d.top + 1) s x.d.ns)) p).mine x.A := k2.notMine rm (by decide) (by decide) (by decide)
      refine ⟨((rm.put 4 _).put 5 _).put 6 _, k2.only ho (fun k hk e => hnw (e ▸ hk)), h.two, h.one, h.vlt, fun _ => ⟨?_, by show x.d.top + 1 ≠ 0; omega⟩⟩
      exact (top_wrote h.dev h.two hE (show 1 - x.m.at_ ≤ 1 by omega) p).symm
    · refine (Only.below hm.below x.mine).trans ((k3.imp fun k _ hk => .inr hk).trans ?_)
      exact (((Only.refl x.mine w').setCell (p := ⟨x.A, 4, none⟩) (.inl rfl) _).setCell (p := ⟨x.A, 5, none⟩) (.inl rfl) _).setCell (p := ⟨x.A, 6, none⟩) (.inl rfl) _)
  obtain ⟨Q, hQ⟩ : ∃ Q, MPutP x s w = Q := ⟨_, rfl⟩
  rw [hQ] at HDP ⊢
  obtain ⟨t, htt⟩ : ∃ t, x.d.top = t := ⟨_, rfl⟩
  obtain ⟨t2, ht2⟩ : ∃ t2, t + 1 = t2 := ⟨_, rfl⟩
  obtain ⟨q, hq⟩ : ∃ q, x.m.at_ = q := ⟨_, rfl⟩
  obtain ⟨q2, hq2⟩ : ∃ q2, 1 - q = q2 := ⟨_, rfl⟩
  simp only [htt, ht2, hq, hq2] at HDP HT ht
  rw [hq] at hone
  have HT2 := Lib.hid (fun _ : Unit => ht2)
  have HQ2 := Lib.hid (fun _ : Unit => hq2)
  have HQ1 := Lib.hid (fun _ : Unit => hone)
  have HQA := Lib.hid (fun _ : Unit => hq)
  have HHT := Lib.hid (fun _ : Unit => ht)
  have hMid := Lib.hid h
  have hz : (tb s).size = s.length := tb_size s
  have g6 : ¬ (x.d.ns : Int) * 56 - 4 < (s.length : Int) := by omega
  have g7 : (x.d.ns : Int) ≤ 256 := by omega

  obtain ⟨sz, hsz⟩ : ∃ sz, x.d.sz = sz := ⟨_, rfl⟩
  rw [hsz] at HS HR
  obtain ⟨a, ha⟩ : ∃ a, tb (x.d.bl 0) = a := ⟨_, rfl⟩
  obtain ⟨b, hb⟩ : ∃ b, tb (x.d.bl 1) = b := ⟨_, rfl⟩
  rw [ha, hb] at HP HT
  clear h hw hsz hl hns hp htp ha hb ht hE hfit hQ hpl hone htt ht2 hq hq2
  unfold MV.ptr at HB ⊢
  unfold DV.ptr at HS
  go_enter Try.func30, Try.ntmps30
  go_wp2_with fail
  refine HN.out.mono ?_
  rintro e w1 ⟨rfl, rfl⟩
  go_wp2_with fail
  refine HB.out.mono ?_
  rintro e w1 ⟨rfl, rfl⟩
  go_wp2_with fail
  refine HS.out.mono ?_
  rintro e w1 ⟨rfl, rfl⟩
  go_wp2_with fail
  refine HR.out.mono ?_
  rintro e w1 ⟨rfl, rfl⟩
  go_wp2_with fail
  refine HP.out.mono ?_
  rintro e w2 ⟨rfl, hb2⟩
  have HB3 := Lib.hid (hb2.alloc hb2.size (.cells #[.string a, .string b] 102))
  have hr3 := Row.new w2 102 [.string a, .string b] (0, 0)
  rw [show ([.string a, .string b] : List Value).toArray = #[.string a, .string b] from rfl] at hr3
  have HR3 := Lib.hid hr3
  clear hb2 hr3 c0
  obtain ⟨w3, hw3⟩ : ∃ w3, w2.alloc (.cells #[.string a, .string b] 102) = w3 := ⟨_, rfl⟩
  rw [hw3] at HB3 HR3
  have d0 := HR3.out.cell 0
  have d1 := HR3.out.cell 1
  simp only [List.getElem?_cons_zero, List.getElem?_cons_succ] at d0 d1
  have HW3 := Lib.hid hw3
  clear hw3
  go_wp2_with (rw [HW3.out])
  refine (HT.out _).mono ?_
  rintro e w4 ⟨rfl, hb4⟩
  have HB4 := Lib.hid (HB3.out.trans (hb4.mono HB3.out.size))
  clear hb4 d0 d1 HB3 HR3 HN HB HS HR HP HT HW3
  obtain ⟨w5, hw5⟩ : ∃ w5, w4.drew = w5 := ⟨_, rfl⟩
  have HB5 := Lib.hid (show Below w.heap.size w w5 from hw5 ▸ drewP HB4.out)
  have HM5 := Lib.hid (show x.In w5 from hMid.out.keeps HB5.out)
  have HW5 := Lib.hid hw5
  clear hw5 HB4 hMid
  have hHeld := HM5.out.c1
  rw [HQA.out ()] at hHeld
  have g8 : ¬ (9223372036854775808 : Int) ≤ (t : Int) := by have := HHT.out (); omega
  dsimp only
  iterate 19 go_step
  refine wp_cond_split rfl (fun h => ?_) (fun h => ?_)
  · cases h
  clear h g8
  have go : (q : Int) ≤ 1 := by have := HQ1.out (); omega
  have g8 : (t : Int) < 9223372036854775808 := by have := HHT.out (); omega
  go_wp2_with fail
  refine wp_region_noPanic ?_
  refine wp_region_sch (fun wx => wx.cell? ⟨x.A, 1, none⟩ = some (.int .i64 (q : Int))) (fun i => [9, 11, 12].contains i)
    (.takes [0, 1, 2, 3, 4, 5, 6, 7, 8] (.fork [9, 11] (fun k => if k = 9 then (.takes [10] (.run 11 (.run 12 .done))) else (.run 9 (.takes [10] (.run 12 .done)))))) (by kernel_rfl) (fun _ _ _ _ _ h => h) (by kernel_rfl) ?_
  rw [HW5.out]
  iterate 9 (
    refine sch_takes_cons ?_
    first
      | (refine sch_take (v := ?_) rfl (by assumption) (by rfl) ?_ ?_; rotate_left; (focus (intro wy hSy; (try dsimp only at hSy); go_simp; (try with_reducible rfl))))
      | (refine sch_pass rfl (by assumption) (by rfl) ?_)
    simp only [Act.put, List.setIfInBounds_toArray, List.set_cons_zero, List.set_cons_succ])
  refine sch_takes_nil ?_
  refine sch_fork rfl (fun K hK => ?_) (sch_fork rfl (fun K hK => ?_) sch_fork_nil)
  · go_simp
    with_reducible refine (HCL.out _).mono ?_
    rintro e w6 ⟨rfl, hbw6⟩
    have HBw6 := Lib.hid (HB5.out.trans (hbw6.mono HB5.out.size))
    have HMw6 := Lib.hid (HM5.out.keeps hbw6)
    have hHeld := HMw6.out.c1
    rw [HQA.out ()] at hHeld
    clear hbw6
    refine hK.out _ _ (fun _ => hHeld) ?_
    clear hK K
    change wpSch _ _ _ _ _ _ (.takes [10] (.run 11 (.run 12 .done))) _ _
    try simp only [Act.put, List.setIfInBounds_toArray, List.set_cons_zero, List.set_cons_succ]
    refine sch_takes_cons ?_
    first
      | (refine sch_take (v := ?_) rfl (by assumption) (by rfl) ?_ ?_; rotate_left; (focus (intro wy hSy; (try dsimp only at hSy); go_simp; (try with_reducible rfl))))
      | (refine sch_pass rfl (by assumption) (by rfl) ?_)
    simp only [Act.put, List.setIfInBounds_toArray, List.set_cons_zero, List.set_cons_succ]
    refine sch_takes_nil ?_
    refine sch_run rfl (fun K hK => ?_)
    go_simp
    have HKa := Lib.hid (show MidW x w w6.heap.size [.int .i64 0, .int .u64 0, .string ⟨#[]⟩] (w6.alloc (.cells #[.int .i64 0, .int .u64 0, .string ⟨#[]⟩] 74)) from
      ⟨HBw6.out.alloc HBw6.out.size _, HMw6.out.keeps ((Below.refl _ _).alloc (Nat.le_refl _) _), HBw6.out.size, Row.new w6 74 [.int .i64 0, .int .u64 0, .string ⟨#[]⟩] (0, 0)⟩)
    obtain ⟨wa, hwa⟩ : ∃ wa, w6.alloc (.cells #[.int .i64 0, .int .u64 0, .string ⟨#[]⟩] 74) = wa := ⟨_, rfl⟩
    obtain ⟨g, hg⟩ : ∃ g, w6.heap.size = g := ⟨_, rfl⟩
    rw [hwa, hg] at HKa
    rw [hwa, hg]
    have hHeld := HKa.out.mas.c1
    rw [HQA.out ()] at hHeld
    clear hwa hg
    refine hK.out _ _ (fun _ => hHeld) ?_
    clear hK K
    try simp only [Act.put, List.setIfInBounds_toArray, List.set_cons_zero, List.set_cons_succ]
    refine sch_run rfl (fun K hK => ?_)
    have r0 : wa.cell? ⟨g, 0, none⟩ = some (.int .i64 0) := HKa.out.held.cell 0
    have r1 : wa.cell? ⟨g, 1, none⟩ = some (.int .u64 0) := HKa.out.held.cell 1
    have r2 : wa.cell? ⟨g, 2, none⟩ = some (.string ⟨#[]⟩) := HKa.out.held.cell 2
    have y0 := HKa.out.held.loose 0
    have y1 := HKa.out.held.loose 1
    have y2 := HKa.out.held.loose 2
    go_simp
    rw [show (t : Int) + 1 = ((t2 : Nat) : Int) by have := HT2.out (); omega, show (1 : Int) - (q : Int) = ((q2 : Nat) : Int) by have := HQ1.out (); have := HQ2.out (); omega]
    rw [show IntKind.i64.wrap ((q2 : Nat) : Int) = ((q2 : Nat) : Int) from IntWalk.i64_in _ (by have := HQ2.out (); omega), show IntKind.u64.wrap ((t2 : Nat) : Int) = ((t2 : Nat) : Int) from IntWalk.u64_in _ (by have := HT2.out (); omega)]
    have HKs := Lib.hid (HKa.out.three (.int .i64 ((q2 : Nat) : Int)) (.int .u64 ((t2 : Nat) : Int)) (.string (tb s)))
    obtain ⟨ws, hws⟩ : ∃ ws, ((wa.setCell ⟨g, 0, none⟩ (.int .i64 ((q2 : Nat) : Int))).setCell ⟨g, 1, none⟩ (.int .u64 ((t2 : Nat) : Int))).setCell ⟨g, 2, none⟩ (.string (tb s)) = ws := ⟨_, rfl⟩
    rw [hws] at HKs
    rw [hws]
    have hHeld := HKs.out.mas.c1
    rw [HQA.out ()] at hHeld
    clear hws r0 r1 r2 y0 y1 y2
    refine hK.out _ _ (fun _ => hHeld) ?_
    clear hK K
    try simp only [Act.put, List.setIfInBounds_toArray, List.set_cons_zero, List.set_cons_succ]
    refine sch_done ?_
    refine NoPanic.normal ?_
    clear hHeld
    obtain ⟨w8, hw8⟩ : ∃ w8, ws.drew = w8 := ⟨_, rfl⟩
    have HK8 := Lib.hid (show MidW x w g [.int .i64 ((q2 : Nat) : Int), .int .u64 ((t2 : Nat) : Int), .string (tb s)] w8 from hw8 ▸ HKs.out.keeps (Below.refl _ _).drew)
    have hHeld := And.intro HK8.out.mas.c0 (And.intro (HK8.out.held.cell 0) (And.intro (HK8.out.held.cell 1) (HK8.out.held.cell 2)))
    simp only [List.getElem?_cons_zero, List.getElem?_cons_succ] at hHeld
    try go_wp2_with fail
    refine wp_region_noPanic ?_
    refine wp_region_sch (fun wx => wx.cell? ⟨x.A, 0, none⟩ = some (.pointer (some ⟨x.d.A, 0, none⟩)) ∧ wx.cell? ⟨g, 0, none⟩ = some (.int .i64 ((q2 : Nat) : Int)) ∧ wx.cell? ⟨g, 1, none⟩ = some (.int .u64 ((t2 : Nat) : Int)) ∧ wx.cell? ⟨g, 2, none⟩ = some (.string (tb s))) (fun i => [5].contains i)
      (.takes [0, 1, 2, 3, 4] (.run 5 (.takes [6] .done))) (by kernel_rfl) (fun _ _ _ _ _ h => h) (by kernel_rfl) ?_
    rw [hw8]
    clear hw8
    iterate 5 (
      refine sch_takes_cons ?_
      first
        | (refine sch_take (v := ?_) rfl (by assumption) (by rfl) ?_ ?_; rotate_left; (focus (intro wy hSy; (try dsimp only at hSy); go_simp; (try with_reducible rfl))))
        | (refine sch_pass rfl (by assumption) (by rfl) ?_)
      simp only [Act.put, List.setIfInBounds_toArray, List.set_cons_zero, List.set_cons_succ])
    refine sch_takes_nil ?_
    refine sch_run rfl (fun K hK => ?_)
    go_simp
    with_reducible refine (HDP.out g _ HK8.out).mono ?_
    rintro e w9 ⟨rfl, pz, p0, p1, p2, z4, z5, z6, zf, hfin⟩
    have HFIN := Lib.hid hfin
    have hHeld := And.intro pz (And.intro p0 (And.intro p1 p2))
    clear hfin
    refine hK.out _ _ (fun _ => hHeld) ?_
    clear hK K
    try simp only [Act.put, List.setIfInBounds_toArray, List.set_cons_zero, List.set_cons_succ]
    refine sch_takes_cons ?_
    first
      | (refine sch_take (v := ?_) rfl (by assumption) (by rfl) ?_ ?_; rotate_left; (focus (intro wy hSy; (try dsimp only at hSy); go_simp; (try with_reducible rfl))))
      | (refine sch_pass rfl (by assumption) (by rfl) ?_)
    simp only [Act.put, List.setIfInBounds_toArray, List.set_cons_zero, List.set_cons_succ]
    refine sch_takes_nil ?_
    refine sch_done ?_
    refine NoPanic.normal ?_
    clear hHeld
    have f4 := zf 4
    have f5 := zf 5
    have f6 := zf 6
    clear zf
    go_wp2
    exact HFIN.out _ rfl
  · go_simp
    have HKa := Lib.hid (show MidW x w w5.heap.size [.int .i64 0, .int .u64 0, .string ⟨#[]⟩] (w5.alloc (.cells #[.int .i64 0, .int .u64 0, .string ⟨#[]⟩] 74)) from
      ⟨HB5.out.alloc HB5.out.size _, HM5.out.keeps ((Below.refl _ _).alloc (Nat.le_refl _) _), HB5.out.size, Row.new w5 74 [.int .i64 0, .int .u64 0, .string ⟨#[]⟩] (0, 0)⟩)
    obtain ⟨wa, hwa⟩ : ∃ wa, w5.alloc (.cells #[.int .i64 0, .int .u64 0, .string ⟨#[]⟩] 74) = wa := ⟨_, rfl⟩
    obtain ⟨g, hg⟩ : ∃ g, w5.heap.size = g := ⟨_, rfl⟩
    rw [hwa, hg] at HKa
    rw [hwa, hg]
    have hHeld := HKa.out.mas.c1
    rw [HQA.out ()] at hHeld
    clear hwa hg
    refine hK.out _ _ (fun _ => hHeld) ?_
    clear hK K
    change wpSch _ _ _ _ _ _ (.run 9 (.takes [10] (.run 12 .done))) _ _
    try simp only [Act.put, List.setIfInBounds_toArray, List.set_cons_zero, List.set_cons_succ]
    refine sch_run rfl (fun K hK => ?_)
    go_simp
    with_reducible refine (HCL.out _).mono ?_
    rintro e w7 ⟨rfl, hbw7⟩
    have HKw7 := Lib.hid (HKa.out.keeps hbw7)
    have hHeld := HKw7.out.mas.c1
    rw [HQA.out ()] at hHeld
    clear hbw7
    refine hK.out _ _ (fun _ => hHeld) ?_
    clear hK K
    try simp only [Act.put, List.setIfInBounds_toArray, List.set_cons_zero, List.set_cons_succ]
    refine sch_takes_cons ?_
    first
      | (refine sch_take (v := ?_) rfl (by assumption) (by rfl) ?_ ?_; rotate_left; (focus (intro wy hSy; (try dsimp only at hSy); go_simp; (try with_reducible rfl))))
      | (refine sch_pass rfl (by assumption) (by rfl) ?_)
    simp only [Act.put, List.setIfInBounds_toArray, List.set_cons_zero, List.set_cons_succ]
    refine sch_takes_nil ?_
    refine sch_run rfl (fun K hK => ?_)
    have r0 : w7.cell? ⟨g, 0, none⟩ = some (.int .i64 0) := HKw7.out.held.cell 0
    have r1 : w7.cell? ⟨g, 1, none⟩ = some (.int .u64 0) := HKw7.out.held.cell 1
    have r2 : w7.cell? ⟨g, 2, none⟩ = some (.string ⟨#[]⟩) := HKw7.out.held.cell 2
    have y0 := HKw7.out.held.loose 0
    have y1 := HKw7.out.held.loose 1
    have y2 := HKw7.out.held.loose 2
    go_simp
    rw [show (t : Int) + 1 = ((t2 : Nat) : Int) by have := HT2.out (); omega, show (1 : Int) - (q : Int) = ((q2 : Nat) : Int) by have := HQ1.out (); have := HQ2.out (); omega]
    rw [show IntKind.i64.wrap ((q2 : Nat) : Int) = ((q2 : Nat) : Int) from IntWalk.i64_in _ (by have := HQ2.out (); omega), show IntKind.u64.wrap ((t2 : Nat) : Int) = ((t2 : Nat) : Int) from IntWalk.u64_in _ (by have := HT2.out (); omega)]
    have HKs := Lib.hid (HKw7.out.three (.int .i64 ((q2 : Nat) : Int)) (.int .u64 ((t2 : Nat) : Int)) (.string (tb s)))
    obtain ⟨ws, hws⟩ : ∃ ws, ((w7.setCell ⟨g, 0, none⟩ (.int .i64 ((q2 : Nat) : Int))).setCell ⟨g, 1, none⟩ (.int .u64 ((t2 : Nat) : Int))).setCell ⟨g, 2, none⟩ (.string (tb s)) = ws := ⟨_, rfl⟩
    rw [hws] at HKs
    rw [hws]
    have hHeld := HKs.out.mas.c1
    rw [HQA.out ()] at hHeld
    clear hws r0 r1 r2 y0 y1 y2
    refine hK.out _ _ (fun _ => hHeld) ?_
    clear hK K
    try simp only [Act.put, List.setIfInBounds_toArray, List.set_cons_zero, List.set_cons_succ]
    refine sch_done ?_
    refine NoPanic.normal ?_
    clear hHeld
    obtain ⟨w8, hw8⟩ : ∃ w8, ws.drew = w8 := ⟨_, rfl⟩
    have HK8 := Lib.hid (show MidW x w g [.int .i64 ((q2 : Nat) : Int), .int .u64 ((t2 : Nat) : Int), .string (tb s)] w8 from hw8 ▸ HKs.out.keeps (Below.refl _ _).drew)
    have hHeld := And.intro HK8.out.mas.c0 (And.intro (HK8.out.held.cell 0) (And.intro (HK8.out.held.cell 1) (HK8.out.held.cell 2)))
    simp only [List.getElem?_cons_zero, List.getElem?_cons_succ] at hHeld
    try go_wp2_with fail
    refine wp_region_noPanic ?_
    refine wp_region_sch (fun wx => wx.cell? ⟨x.A, 0, none⟩ = some (.pointer (some ⟨x.d.A, 0, none⟩)) ∧ wx.cell? ⟨g, 0, none⟩ = some (.int .i64 ((q2 : Nat) : Int)) ∧ wx.cell? ⟨g, 1, none⟩ = some (.int .u64 ((t2 : Nat) : Int)) ∧ wx.cell? ⟨g, 2, none⟩ = some (.string (tb s))) (fun i => [5].contains i)
      (.takes [0, 1, 2, 3, 4] (.run 5 (.takes [6] .done))) (by kernel_rfl) (fun _ _ _ _ _ h => h) (by kernel_rfl) ?_
    rw [hw8]
    clear hw8
    iterate 5 (
      refine sch_takes_cons ?_
      first
        | (refine sch_take (v := ?_) rfl (by assumption) (by rfl) ?_ ?_; rotate_left; (focus (intro wy hSy; (try dsimp only at hSy); go_simp; (try with_reducible rfl))))
        | (refine sch_pass rfl (by assumption) (by rfl) ?_)
      simp only [Act.put, List.setIfInBounds_toArray, List.set_cons_zero, List.set_cons_succ])
    refine sch_takes_nil ?_
    refine sch_run rfl (fun K hK => ?_)
    go_simp
    with_reducible refine (HDP.out g _ HK8.out).mono ?_
    rintro e w9 ⟨rfl, pz, p0, p1, p2, z4, z5, z6, zf, hfin⟩
    have HFIN := Lib.hid hfin
    have hHeld := And.intro pz (And.intro p0 (And.intro p1 p2))
    clear hfin
    refine hK.out _ _ (fun _ => hHeld) ?_
    clear hK K
    try simp only [Act.put, List.setIfInBounds_toArray, List.set_cons_zero, List.set_cons_succ]
    refine sch_takes_cons ?_
    first
      | (refine sch_take (v := ?_) rfl (by assumption) (by rfl) ?_ ?_; rotate_left; (focus (intro wy hSy; (try dsimp only at hSy); go_simp; (try with_reducible rfl))))
      | (refine sch_pass rfl (by assumption) (by rfl) ?_)
    simp only [Act.put, List.setIfInBounds_toArray, List.set_cons_zero, List.set_cons_succ]
    refine sch_takes_nil ?_
    refine sch_done ?_
    refine NoPanic.normal ?_
    clear hHeld
    have f4 := zf 4
    have f5 := zf 5
    have f6 := zf 6
    clear zf
    go_wp2
    exact HFIN.out _ rfl

theorem mput_any (h : x.In w) (s : List UInt8) (hs : s.length ≤ 9223372036854775807) (hpl : x.d.pend.length ≤ 1000000) : Calls Try.prog 30 #[x.ptr, .string (tb s)] w (MPutP x s w) := by
  cases hw : x.m.way with
  | true => exact mput_state h s hw
  | false =>
    by_cases hl : x.d.ns * 56 < s.length + 4
    · exact mput_long h s hw hl hs
    · by_cases ht : 9223372036854775808 ≤ x.d.top
      · exact mput_full h s hw (by omega) ht
      · exact mput_good h s hw (by omega) (by omega) hpl
end
end Go.Proofs.Ytnmfgmlmjbfdcaa
