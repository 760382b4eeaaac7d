/-
  WalPlays: the walk.
-/
import Derived.Test.YtjahkaockjhibaaDoorWalPair
import Derived.Test.YtjahkaockjhibaaDoorWalKeepsLaw
namespace Go.Proofs.YtjahkaockjhibaaDoor
open Go.RowKit

/-- Where the two stand: a log on both sides, the same; or none on both. -/
def PS (W : World) (pt qt : Value) (v9 v10 v11 v12 : Value) (i : Nat) (w : World) : Prop :=
  (∃ B C g, v9 = .pointer (some ⟨B, 0, none⟩) ∧ v10 = .int .i64 0 ∧ v11 = .pointer (some ⟨C, 0, none⟩) ∧ v12 = .int .i64 0 ∧ Pair W pt (.pointer (some ⟨B, 0, none⟩)) qt (.pointer (some ⟨C, 0, none⟩)) g g w ∧ g.st.fin ≤ i * 321) ∨
  (v9 = .pointer none ∧ v10 = .int .i64 80 ∧ v11 = .pointer none ∧ v12 = .int .i64 80 ∧ Below W.heap.size W w)
theorem PS.open_ {W w : World} {pt qt : Value} {B C i : Nat} {g : LG} (h : Pair W pt (.pointer (some ⟨B, 0, none⟩)) qt (.pointer (some ⟨C, 0, none⟩)) g g w) (hf : g.st.fin ≤ i * 321) : PS W pt qt (.pointer (some ⟨B, 0, none⟩)) (.int .i64 0) (.pointer (some ⟨C, 0, none⟩)) (.int .i64 0) i w := .inl ⟨B, C, g, rfl, rfl, rfl, rfl, h, hf⟩
theorem PS.shut {W w : World} {pt qt : Value} {i : Nat} (h : Below W.heap.size W w) : PS W pt qt (.pointer none) (.int .i64 80) (.pointer none) (.int .i64 80) i w := .inr ⟨rfl, rfl, rfl, rfl, h⟩
theorem act_cells {w : World} {X : Nat} {what kind n m : Nat} {s : ByteArray} (h : Row w X 41 (ActV.cells ⟨what, kind, s, n, m⟩) (0, 0)) : w.cell? ⟨X, 0, none⟩ = some (.int .u8 (what : Int)) ∧ w.cell? ⟨X, 1, none⟩ = some (.int .u8 (kind : Int)) ∧ w.cell? ⟨X, 2, none⟩ = some (.string s) ∧ w.cell? ⟨X, 3, none⟩ = some (.int .u64 (n : Int)) ∧ w.cell? ⟨X, 4, none⟩ = some (.int .u64 (m : Int)) := ⟨h.cell 0, h.cell 1, h.cell 2, h.cell 3, h.cell 4⟩
theorem got (g : LG) (n : Nat) : ∃ (z : Ent) (R : Nat), gotV g n = .tuple #[entV z, .int .i64 (R : Int)] := by
  unfold gotV
  cases g.get n with
  | none => exact ⟨⟨0, 0, []⟩, 7, rfl⟩
  | some x => exact ⟨x, 0, rfl⟩

set_option maxRecDepth 100000 in
set_option maxHeartbeats 8000000 in
theorem playslaw_any (room : Int) (least : Nat) (A : Option Addr) (l : List ActV) (c : Nat) (w : World) (hT : Tab w) (hr : room ≤ 9223372036854775807) (hle : least < 18446744073709551616) (ha : Acts w A l) (hll : l.length ≤ 9223372036854775807) : Calls Tryd.prog 3 #[.int .i64 room, .int .u64 (least : Int), .slice A l.length c] w fun e w' => e = .returned (.bool true) ∧ Below w.heap.size w w' := by
  have HT := Lib.hid hT
  have HS := Lib.hid ha
  have HNT := Lib.hid (new_tp (W := w) (w := w) room hr (Below.refl _ _))
  clear hT ha
  go_enter Tryd.func3, Tryd.ntmps3
  go_wp2_with fail
  refine HNT.out.mono ?_
  rintro e w1 ⟨A1, rfl, hn2⟩
  have HN2 := Lib.hid hn2
  clear hn2 HNT
  go_wp2_with fail
  refine HN2.out.mono ?_
  rintro e w2 ⟨T1, rfl, htp⟩
  obtain ⟨pt, hpt⟩ : ∃ pt, (Value.pointer (some ⟨A1, 0, none⟩)) = pt := ⟨_, rfl⟩
  obtain ⟨qt, hqt⟩ : ∃ qt, (Value.pointer (some ⟨T1, 0, none⟩)) = qt := ⟨_, rfl⟩
  rw [hpt, hqt] at htp
  simp only [hpt, hqt]
  have HTP := Lib.hid htp
  clear htp HN2 hpt hqt
  go_wp2_with fail
  refine (open_t1 HT.out HTP.out (by simp) least hle _ rfl).mono ?_
  rintro e w3 ⟨_, ho⟩
  obtain ⟨v9, v10, rfl, ho2⟩ : ∃ v9 v10, e = .returned (.tuple #[v9, v10]) ∧ Calls Tryd.prog 12 #[qt, .int .u64 (least : Int)] w3 (fun e w4 => ∃ v11 v12, e = .returned (.tuple #[v11, v12]) ∧ PS w pt qt v9 v10 v11 v12 0 w4) := by
    rcases ho with ⟨h1, h2, h3⟩ | ⟨B, g, h1, h2, h3⟩
    · exact ⟨_, _, h2, (open_none2 h3 (by simp) least hle _ rfl h1).mono fun e w4 hh => ⟨_, _, hh.1, PS.shut hh.2.since⟩⟩
    · refine ⟨_, _, h2, (open_some2 h3 (by simp) least hle _ rfl h1).mono fun e w4 ⟨C, hh1, hh2⟩ => ⟨_, _, hh1, PS.open_ hh2 ?_⟩⟩
      have := opens_fin h1
      exact this
  have HO2 := Lib.hid ho2
  clear ho ho2 HTP
  go_wp2_with fail
  refine HO2.out.mono ?_
  rintro e w4 ⟨v11, v12, rfl, hps⟩
  have HPS := Lib.hid hps
  clear hps HO2
  go_wp2_with fail
  go_loopw [9, 10, 11, 12, 13] (fun v9 v10 v11 v12 vi wr => ∃ i : Nat, i ≤ l.length ∧ i ≤ 50 ∧ vi = .int .i64 i ∧ Hid (PS w pt qt v9 v10 v11 v12 i wr)) (fun _ _ _ _ vi _ => l.length - (intOf vi).toNat)
  case atStart => exact ⟨0, by omega, by omega, rfl, HPS⟩
  case round =>
    clear HPS
    obtain ⟨i, hi, hi50, rfl, HP⟩ := hrel
    by_cases hlt : i < l.length ∧ i < 50
    · obtain ⟨hlt, h50⟩ := hlt
      have hiI : (i : Int) < (l.length : Int) := by omega
      have h5I : (i : Int) < 50 := by omega
      have hki : i + 1 ≤ l.length := hlt
      have h55 : i + 1 ≤ 50 := h50
      rcases HP.out with ⟨B, C, g, rfl, rfl, rfl, rfl, hpair, hfin⟩ | ⟨rfl, rfl, rfl, rfl, hbel⟩
      · have HPR := Lib.hid hpair
        obtain ⟨o, off, x, rfl, hxo, _, HSC⟩ := HS.out.cells hlt
        have x3 := (HSC.out wr hpair.since).2.2.2.1
        have HIS := Lib.hid (fun wx (h : Pair w pt (.pointer (some ⟨B, 0, none⟩)) qt (.pointer (some ⟨C, 0, none⟩)) g g wx) => is_pair h)
        have HF1 := Lib.hid (fun wx (h : Pair w pt (.pointer (some ⟨B, 0, none⟩)) qt (.pointer (some ⟨C, 0, none⟩)) g g wx) => from_p1 h x.n hxo.n _ rfl)
        have HF2 := Lib.hid (fun wx (h : Pair w pt (.pointer (some ⟨B, 0, none⟩)) qt (.pointer (some ⟨C, 0, none⟩)) g g wx) => from_p2 h x.n _ rfl)
        have HFL := Lib.hid (from_len g hpair.ok x.n)
        have hgl : g.st.l.length ≤ 30000 := by unfold ST.fin at hfin; omega
        have hgok := hpair.ok
        obtain ⟨wd, hwd⟩ : ∃ wd, wr.drew = wd := ⟨_, rfl⟩
        have HPD := Lib.hid (show Pair w pt (.pointer (some ⟨B, 0, none⟩)) qt (.pointer (some ⟨C, 0, none⟩)) g g wd from hwd ▸ hpair.keeps (Below.refl _ _).drew)
        have HC3 := Lib.hid (show ∀ wx, Below w.heap.size w wx → wx.cell? ⟨o, off + i * 5 + 3, none⟩ = some (.int .u64 (x.n : Int)) from fun wx hb => (HSC.out wx hb).2.2.2.1)
        have hHeld := HC3.out wd HPD.out.since
        have HBX := Lib.hid (fun wx => boxed x wx)
        have HGR := Lib.hid (fun wx => great_any x wx hxo.s)
        obtain ⟨hx1, hx2, hx3, hx4, hx5⟩ := hxo
        rcases x with ⟨what, kind, s, n, m⟩
        unfold ActV.val at HGR
        dsimp only at *
        clear hpair HP HPR hlt h50 x3
        go_wp2_with fail
        refine wp_region_noPanic ?_
        refine wp_region_sch (fun wx => wx.cell? ⟨o, off + i * 5 + 3, none⟩ = some (.int .u64 (n : Int))) (fun i => [3, 12, 19, 20].contains i)
          (.takes [0, 1, 2] (.run 3 (.takes [4, 5, 6, 7, 8, 9, 10, 11, 13, 14, 15, 16, 17, 18] (.run 12 (.run 19 (.run 20 (.takes [21, 22] .done))))))) (by kernel_rfl) (fun _ _ _ _ _ h => h) (by kernel_rfl) ?_
        rw [hwd]
        clear hwd
        iterate 3 (
          refine sch_takes_cons ?_
          first
            | (refine sch_take (v := ?_) rfl (by assumption) (by rfl) ?_ ?_; rotate_left; (focus (intro wy hSy; (try dsimp only at hSy); go_simp; (try with_reducible rfl))))
            | (refine sch_pass rfl (by assumption) (by rfl) ?_)
          simp only [Act.put, List.setIfInBounds_toArray, List.set_cons_zero, List.set_cons_succ])
        refine sch_takes_nil ?_
        refine sch_run rfl (fun K hK => ?_)
        go_simp
        with_reducible refine (HIS.out _ HPD.out).mono ?_
        rintro e w5 ⟨rfl, hb5⟩
        have HP5 := Lib.hid (HPD.out.keeps hb5)
        have hHeld := HC3.out w5 HP5.out.since
        clear hb5
        try dsimp only
        refine hK.out _ _ (fun _ => hHeld) ?_
        clear hK K
        try simp only [Act.put, List.setIfInBounds_toArray, List.set_cons_zero, List.set_cons_succ]
        iterate 14 (
          refine sch_takes_cons ?_
          first
            | (refine sch_take (v := ?_) rfl (by assumption) (by rfl) ?_ ?_; rotate_left; (focus (intro wy hSy; (try dsimp only at hSy); go_simp; (try with_reducible rfl))))
            | (refine sch_pass rfl (by assumption) (by rfl) ?_)
          simp only [Act.put, List.setIfInBounds_toArray, List.set_cons_zero, List.set_cons_succ])
        refine sch_takes_nil ?_
        refine sch_run rfl (fun K hK => ?_)
        go_simp
        with_reducible refine (HF1.out _ HP5.out).mono ?_
        rintro e w6 ⟨A6, c6, rfl, he6, _, hb6⟩
        have HP6 := Lib.hid (HP5.out.keeps hb6)
        have HE6 := Lib.hid he6
        have hHeld := HC3.out w6 HP6.out.since
        clear hb6 he6
        try dsimp only
        refine hK.out _ _ (fun _ => hHeld) ?_
        clear hK K
        try simp only [Act.put, List.setIfInBounds_toArray, List.set_cons_zero, List.set_cons_succ]
        refine sch_run rfl (fun K hK => ?_)
        go_simp
        with_reducible refine (HF2.out _ HP6.out).mono ?_
        rintro e w7 ⟨A7, c7, rfl, he7, _, hb7⟩
        have HP7 := Lib.hid (HP6.out.keeps hb7)
        have HE7 := Lib.hid (HE6.out.keeps hb7)
        have HSM := Lib.hid (same_rows (c := c6) (d := c7) HE7.out he7 rfl HFL.out)
        have hHeld := HC3.out w7 HP7.out.since
        clear hb7 he7 HE6
        try dsimp only
        refine hK.out _ _ (fun _ => hHeld) ?_
        clear hK K
        try simp only [Act.put, List.setIfInBounds_toArray, List.set_cons_zero, List.set_cons_succ]
        refine sch_run rfl (fun K hK => ?_)
        go_simp
        with_reducible refine HSM.out.mono ?_
        rintro e w8 ⟨rfl, hb8⟩
        have HPS8 := Lib.hid (HP7.out.keeps hb8)
        have hHeld := HC3.out w8 HPS8.out.since
        clear hb8 HSM HE7 HP5 HP6 HP7
        try dsimp only
        refine hK.out _ _ (fun _ => hHeld) ?_
        clear hK K
        try simp only [Act.put, List.setIfInBounds_toArray, List.set_cons_zero, List.set_cons_succ]
        iterate 2 (
          refine sch_takes_cons ?_
          first
            | (refine sch_take (v := ?_) rfl (by assumption) (by rfl) ?_ ?_; rotate_left; (focus (intro wy hSy; (try dsimp only at hSy); go_simp; (try with_reducible rfl))))
            | (refine sch_pass rfl (by assumption) (by rfl) ?_)
          simp only [Act.put, List.setIfInBounds_toArray, List.set_cons_zero, List.set_cons_succ])
        refine sch_takes_nil ?_
        refine sch_done ?_
        refine NoPanic.normal ?_
        have HPE := Lib.hid (HPS8.out)
        obtain ⟨x0, x1, x2, x3, x4⟩ := HSC.out w8 HPE.out.since
        obtain ⟨wa, hwa⟩ : ∃ wa, w8.alloc (.cells #[.int .u8 (what : Int), .int .u8 (kind : Int), .string s, .int .u64 (n : Int), .int .u64 (m : Int)] 41) = wa := ⟨_, rfl⟩
        obtain ⟨hra, hba⟩ := HBX.out w8 wa hwa
        have HRA := Lib.hid hra
        have HPA := Lib.hid (HPE.out.keeps hba)
        obtain ⟨y0, y1, y2, y3, y4⟩ := act_cells hra
        clear HBX hra hba HIS HF1 HF2 HFL HC3 HSC HPD HPE HPS8 hHeld
        go_wp2_with fail
        try rw [hwa]
        clear hwa x0 x1 x2 x3 x4
        by_cases hbig : 300 < s.size
        · rw [decide_eq_true hbig] at HGR
          refine (HGR.out wa).mono ?_
          rintro e w3 ⟨rfl, hb⟩
          have HB3 := Lib.hid (HPA.out.since.trans (hb.mono HPA.out.since.size))
          clear hb
          go_wp2_with fail
          refine (whead_any w3 (HT.out.keeps HB3.out)).mono ?_
          rintro e w4 ⟨rfl, hb⟩
          have HB := Lib.hid ((HB3.out).trans (hb.mono (HB3.out).size))
          clear hb
          go_wp2
          go_ret
          exact ⟨rfl, HB.out⟩
        · rw [decide_eq_false hbig] at HGR
          refine (HGR.out wa).mono ?_
          rintro e w3 ⟨rfl, hb⟩
          have HP3 := Lib.hid (HPA.out.keeps hb)
          have HR3 := Lib.hid (HRA.out.below hb HRA.out.lt)
          obtain ⟨z0, z1, z2, z3, z4⟩ := act_cells HR3.out
          obtain ⟨q, hq⟩ : ∃ q, what % 8 = q := ⟨_, rfl⟩
          have hq8 : q < 8 := by omega
          have hqm : Int.tmod (what : Int) 8 = (q : Int) := by rw [Int.tmod_eq_emod_of_nonneg (by omega)]; omega
          have htl : s.data.toList.length = s.size := rfl
          have hk8 : ((UInt8.ofNat kind).toNat : Int) = (kind : Int) := by rw [UInt8.toNat_ofNat', Nat.mod_eq_of_lt hx2]
          clear hb HRA HPA HGR y0 y1 y2 y3 y4 hq
          rcases (show q = 3 ∨ q = 4 ∨ q = 5 ∨ q = 6 ∨ q = 7 ∨ q = 0 ∨ q = 1 ∨ q = 2 by omega) with rfl | rfl | rfl | rfl | rfl | rfl | rfl | rfl
          · go_wp2_with fail
            refine (force_p2 HP3.out).mono ?_
            rintro e w4 ⟨rfl, hp4, _⟩
            have HP4 := Lib.hid hp4
            clear hp4 HP3
            go_wp2_with fail
            refine (force_p1 HP4.out).mono ?_
            rintro e w5 ⟨rfl, hp5, _⟩
            have HP5 := Lib.hid hp5
            clear hp5 HP4
            go_wp2
            go_roundw
            case rel => exact ⟨i + 1, hki, h55, by go_num, Lib.hid (PS.open_ HP5.out (by show g.st.fin ≤ _; omega))⟩
            case measure => simp [intOf]; omega
          · have htp := trim_plain g HP3.out.ok n
            obtain ⟨R, hR⟩ : ∃ R : Int, (((if n ≤ g.stable + 1 then 0 else 9) : Nat) : Int) = R := ⟨_, rfl⟩
            obtain ⟨wd, hwd⟩ : ∃ wd, w3.drew = wd := ⟨_, rfl⟩
            have HPD := Lib.hid (show Pair w pt (.pointer (some ⟨B, 0, none⟩)) qt (.pointer (some ⟨C, 0, none⟩)) g g wd from hwd ▸ HP3.out.keeps (Below.refl _ _).drew)
            have HRD := Lib.hid (show Row wd w8.heap.size 41 (ActV.cells ⟨what, kind, s, n, m⟩) (0, 0) from hwd ▸ HR3.out.below (Below.refl _ _).drew HR3.out.lt)
            have hHeld := (act_cells HRD.out).2.2.2.1
            have HTR1 := Lib.hid (trim_p1 HPD.out n hx3 _ rfl)
            rw [hR] at HTR1
            clear HP3 HR3
            go_wp2_with fail
            refine wp_region_noPanic ?_
            refine wp_region_sch (fun wx => wx.cell? ⟨w8.heap.size, 3, none⟩ = some (.int .u64 (n : Int))) (fun i => [3, 7].contains i)
              (.takes [0, 1, 2, 4, 5, 6] (.run 3 (.run 7 (.takes [8] .done)))) (by kernel_rfl) (fun _ _ _ _ _ h => h) (by kernel_rfl) ?_
            rw [hwd]
            clear hwd
            iterate 6 (
              refine sch_takes_cons ?_
              first
                | (refine sch_take (v := ?_) rfl (by assumption) (by rfl) ?_ ?_; rotate_left; (focus (intro wy hSy; (try dsimp only at hSy); go_simp; (try with_reducible rfl))))
                | (refine sch_pass rfl (by assumption) (by rfl) ?_)
              simp only [Act.put, List.setIfInBounds_toArray, List.set_cons_zero, List.set_cons_succ])
            refine sch_takes_nil ?_
            refine sch_run rfl (fun K hK => ?_)
            go_simp
            with_reducible refine (HTR1.out).mono ?_
            rintro e w5 ⟨rfl, hp5, hk5⟩
            have HP5 := Lib.hid hp5
            have HR5 := Lib.hid (hk5 _ _ HRD.out)
            have hHeld := (act_cells HR5.out).2.2.2.1
            clear hp5 hk5
            try dsimp only
            refine hK.out _ _ (fun _ => hHeld) ?_
            clear hK K
            try simp only [Act.put, List.setIfInBounds_toArray, List.set_cons_zero, List.set_cons_succ]
            refine sch_run rfl (fun K hK => ?_)
            go_simp
            with_reducible refine (trim_p2 HP5.out n hgl _ rfl).mono ?_
            rintro e w6 ⟨rfl, hp6, hk6⟩
            have HP6 := Lib.hid hp6
            have hHeld := (act_cells (hk6 _ _ HR5.out)).2.2.2.1
            rw [hR]
            clear hp6 hk6
            try dsimp only
            refine hK.out _ _ (fun _ => hHeld) ?_
            clear hK K
            try simp only [Act.put, List.setIfInBounds_toArray, List.set_cons_zero, List.set_cons_succ]
            refine sch_takes_cons ?_
            first
              | (refine sch_take (v := ?_) rfl (by assumption) (by rfl) ?_ ?_; rotate_left; (focus (intro wy hSy; (try dsimp only at hSy); go_simp; (try with_reducible rfl))))
              | (refine sch_pass rfl (by assumption) (by rfl) ?_)
            simp only [Act.put, List.setIfInBounds_toArray, List.set_cons_zero, List.set_cons_succ]
            refine sch_takes_nil ?_
            refine sch_done ?_
            refine NoPanic.normal ?_
            go_wp2
            go_roundw
            case rel => exact ⟨i + 1, hki, h55, by go_num, Lib.hid (PS.open_ HP6.out (by omega))⟩
            case measure => simp [intOf]; omega
          · obtain ⟨kp, hkp⟩ : ∃ kp, n % 1000 = kp := ⟨_, rfl⟩
            have hkm : Int.tmod (n : Int) 1000 = (kp : Int) := by rw [Int.tmod_eq_emod_of_nonneg (by omega)]; omega
            have hkw : IntKind.i64.wrap (kp : Int) = (kp : Int) := IntWalk.i64_in _ (by omega)
            have hkl : (kp : Int) ≤ 9223372036854775807 := by omega
            have hcf := crash_fin g.st hgok.st (kp : Int)
            have hcl : (g.st.crash (kp : Int)).l.length ≤ 30000 := by show (g.st.l.take _).length ≤ _; rw [List.length_take]; omega
            clear hkp
            go_wp2_with fail
            refine (crash_t1 HP3.out.tapes (kp : Int) hkl).mono ?_
            rintro e w4 ⟨rfl, hp4, hk4⟩
            have HP4 := Lib.hid hp4
            have HR4 := Lib.hid (hk4 _ _ HR3.out)
            have u3 := (act_cells HR4.out).2.2.2.1
            clear hp4 hk4 z0 z1 z2 z3 z4
            go_wp2_with fail
            refine (crash_t2 HP4.out (kp : Int) hkl).mono ?_
            rintro e w5 ⟨rfl, hp5, hk5⟩
            have HP5 := Lib.hid hp5
            have HR5 := Lib.hid (hk5 _ _ HR4.out)
            have u4 := (act_cells HR5.out).2.2.2.2
            obtain ⟨sc, hsc⟩ : ∃ sc, g.st.crash (kp : Int) = sc := ⟨_, rfl⟩
            rw [hsc] at HP5 hcf hcl
            clear hp5 hk5 u3 hsc
            go_wp2_with fail
            refine (open_t1 HT.out HP5.out hcl m hx4 _ rfl).mono ?_
            rintro e w6 ⟨hk6, ho⟩
            have HR6 := Lib.hid (hk6 _ _ HR5.out)
            have u5 := (act_cells HR6.out).2.2.2.2
            obtain ⟨v9, v10, rfl, ho2⟩ : ∃ v9 v10, e = .returned (.tuple #[v9, v10]) ∧ Calls Tryd.prog 12 #[qt, .int .u64 (m : Int)] w6 (fun e w7 => ∃ v11 v12, e = .returned (.tuple #[v11, v12]) ∧ PS w pt qt v9 v10 v11 v12 (i + 1) w7) := by
              rcases ho with ⟨h1, h2, h3⟩ | ⟨B', g', h1, h2, h3⟩
              · exact ⟨_, _, h2, (open_none2 h3 hcl m hx4 _ rfl h1).mono fun e w7 hh => ⟨_, _, hh.1, PS.shut hh.2.since⟩⟩
              · refine ⟨_, _, h2, (open_some2 h3 hcl m hx4 _ rfl h1).mono fun e w7 ⟨C', hh1, hh2⟩ => ⟨_, _, hh1, PS.open_ hh2 ?_⟩⟩
                have := opens_fin h1
                omega
            have HO2 := Lib.hid ho2
            clear ho ho2 hk6 u4
            go_wp2_with fail
            refine HO2.out.mono ?_
            rintro e w7 ⟨v11, v12, rfl, hps⟩
            have HPS := Lib.hid hps
            clear hps HO2 u5
            go_wp2
            go_roundw
            case rel => exact ⟨i + 1, hki, h55, by go_num, HPS⟩
            case measure => simp [intOf]; omega
          · obtain ⟨ze, R, hzR⟩ := got g n
            have HG1 := Lib.hid (get_p1 HP3.out n hx3 _ rfl)
            rw [hzR] at HG1
            go_wp2_with fail
            refine HG1.out.mono ?_
            rintro e w4 ⟨rfl, hb4⟩
            have HP4 := Lib.hid (HP3.out.keeps hb4)
            have HR4 := Lib.hid (HR3.out.below hb4 HR3.out.lt)
            unfold entV
            obtain ⟨wb, hwb⟩ : ∃ wb, w4.alloc (.cells #[.int .u64 (ze.n : Int), .int .u8 (ze.k.toNat : Int), .string (tb ze.d)] 48) = wb := ⟨_, rfl⟩
            have hbb : Below w4.heap.size w4 wb := hwb ▸ (Below.refl _ _).alloc (Nat.le_refl _) _
            have HPB := Lib.hid (HP4.out.keeps hbb)
            have HRB := Lib.hid (HR4.out.below hbb HR4.out.lt)
            have HEB := Lib.hid (show Row wb w4.heap.size 48 [.int .u64 (ze.n : Int), .int .u8 (ze.k.toNat : Int), .string (tb ze.d)] (0, 0) from hwb ▸ Row.new w4 _ [.int .u64 (ze.n : Int), .int .u8 (ze.k.toNat : Int), .string (tb ze.d)] (0, 0))
            have u3 := (act_cells HRB.out).2.2.2.1
            have HG2 := Lib.hid (get_p2 HPB.out n _ rfl)
            rw [hzR] at HG2
            clear hb4 hbb HG1 hzR z0 z1 z2 z3 z4
            go_wp2_with fail
            try rw [hwb]
            clear hwb
            refine HG2.out.mono ?_
            rintro e w5 ⟨rfl, hb5⟩
            have HP5 := Lib.hid (HPB.out.keeps hb5)
            have HE5 := Lib.hid (HEB.out.below hb5 HEB.out.lt)
            unfold entV
            obtain ⟨wc, hwc⟩ : ∃ wc, w5.alloc (.cells #[.int .u64 (ze.n : Int), .int .u8 (ze.k.toNat : Int), .string (tb ze.d)] 48) = wc := ⟨_, rfl⟩
            have hbc : Below w5.heap.size w5 wc := hwc ▸ (Below.refl _ _).alloc (Nat.le_refl _) _
            have HPC := Lib.hid (HP5.out.keeps hbc)
            obtain ⟨e0, e1, e2⟩ := row_any (HE5.out.below hbc HE5.out.lt)
            obtain ⟨f0, f1, f2⟩ := row_any (show Row wc w5.heap.size 48 [.int .u64 (ze.n : Int), .int .u8 (ze.k.toNat : Int), .string (tb ze.d)] (0, 0) from hwc ▸ Row.new w5 _ [.int .u64 (ze.n : Int), .int .u8 (ze.k.toNat : Int), .string (tb ze.d)] (0, 0))
            clear hb5 hbc HG2 HPB HRB HEB HE5 HP5 u3
            go_wp2
            try rw [hwc]
            go_roundw
            case rel => exact ⟨i + 1, hki, h55, by go_num, Lib.hid (PS.open_ HPC.out (by omega))⟩
            case measure => simp [intOf]; omega
          · go_wp2
            go_roundw
            case rel => exact ⟨i + 1, hki, h55, by go_num, Lib.hid (PS.open_ HP3.out (by omega))⟩
            case measure => simp [intOf]; omega
          · have hal := append_last g (UInt8.ofNat kind) s.data.toList
            rw [htl] at hal
            have HA1 := Lib.hid (append_p1 HT.out HP3.out (UInt8.ofNat kind) s.data.toList (by omega) (by omega) (kind : Int) s hk8.symm (tb_of s).symm)
            obtain ⟨N, hN⟩ : ∃ N, (if g.can s.data.toList then g.last + 1 else 0) = N := ⟨_, rfl⟩
            obtain ⟨R, hR⟩ : ∃ R, (if g.can s.data.toList then 0 else 6) = R := ⟨_, rfl⟩
            have HA2 := Lib.hid (fun wx (h : Pair w pt (.pointer (some ⟨B, 0, none⟩)) qt (.pointer (some ⟨C, 0, none⟩)) (g.append (UInt8.ofNat kind) s.data.toList) g wx) => append_p2 h (UInt8.ofNat kind) s.data.toList (by omega) (by omega) (kind : Int) s hk8.symm (tb_of s).symm)
            rw [hN, hR] at HA1
            rw [hN, hR] at HA2
            clear hN hR
            go_wp2_with fail
            refine HA1.out.mono ?_
            rintro e w4 ⟨rfl, hp4, hk4⟩
            have HP4 := Lib.hid hp4
            have HR4 := Lib.hid (hk4 _ _ HR3.out)
            obtain ⟨_, u1, u2, _, _⟩ := act_cells HR4.out
            clear hp4 hk4 HA1 z0 z1 z2 z3 z4
            go_wp2_with fail
            refine (HA2.out w4 HP4.out).mono ?_
            rintro e w5 ⟨rfl, hp5, _⟩
            have HP5 := Lib.hid hp5
            clear hp5 HA2 u1 u2
            go_wp2
            go_roundw
            case rel => exact ⟨i + 1, hki, h55, by go_num, Lib.hid (PS.open_ HP5.out (by omega))⟩
            case measure => simp [intOf]; omega
          · have hal := append_last g (UInt8.ofNat kind) s.data.toList
            rw [htl] at hal
            have HA1 := Lib.hid (append_p1 HT.out HP3.out (UInt8.ofNat kind) s.data.toList (by omega) (by omega) (kind : Int) s hk8.symm (tb_of s).symm)
            obtain ⟨N, hN⟩ : ∃ N, (if g.can s.data.toList then g.last + 1 else 0) = N := ⟨_, rfl⟩
            obtain ⟨R, hR⟩ : ∃ R, (if g.can s.data.toList then 0 else 6) = R := ⟨_, rfl⟩
            have HA2 := Lib.hid (fun wx (h : Pair w pt (.pointer (some ⟨B, 0, none⟩)) qt (.pointer (some ⟨C, 0, none⟩)) (g.append (UInt8.ofNat kind) s.data.toList) g wx) => append_p2 h (UInt8.ofNat kind) s.data.toList (by omega) (by omega) (kind : Int) s hk8.symm (tb_of s).symm)
            rw [hN, hR] at HA1
            rw [hN, hR] at HA2
            clear hN hR
            go_wp2_with fail
            refine HA1.out.mono ?_
            rintro e w4 ⟨rfl, hp4, hk4⟩
            have HP4 := Lib.hid hp4
            have HR4 := Lib.hid (hk4 _ _ HR3.out)
            obtain ⟨_, u1, u2, _, _⟩ := act_cells HR4.out
            clear hp4 hk4 HA1 z0 z1 z2 z3 z4
            go_wp2_with fail
            refine (HA2.out w4 HP4.out).mono ?_
            rintro e w5 ⟨rfl, hp5, _⟩
            have HP5 := Lib.hid hp5
            clear hp5 HA2 u1 u2
            go_wp2
            go_roundw
            case rel => exact ⟨i + 1, hki, h55, by go_num, Lib.hid (PS.open_ HP5.out (by omega))⟩
            case measure => simp [intOf]; omega
          · have hal := append_last g (UInt8.ofNat kind) s.data.toList
            rw [htl] at hal
            have HA1 := Lib.hid (append_p1 HT.out HP3.out (UInt8.ofNat kind) s.data.toList (by omega) (by omega) (kind : Int) s hk8.symm (tb_of s).symm)
            obtain ⟨N, hN⟩ : ∃ N, (if g.can s.data.toList then g.last + 1 else 0) = N := ⟨_, rfl⟩
            obtain ⟨R, hR⟩ : ∃ R, (if g.can s.data.toList then 0 else 6) = R := ⟨_, rfl⟩
            have HA2 := Lib.hid (fun wx (h : Pair w pt (.pointer (some ⟨B, 0, none⟩)) qt (.pointer (some ⟨C, 0, none⟩)) (g.append (UInt8.ofNat kind) s.data.toList) g wx) => append_p2 h (UInt8.ofNat kind) s.data.toList (by omega) (by omega) (kind : Int) s hk8.symm (tb_of s).symm)
            rw [hN, hR] at HA1
            rw [hN, hR] at HA2
            clear hN hR
            go_wp2_with fail
            refine HA1.out.mono ?_
            rintro e w4 ⟨rfl, hp4, hk4⟩
            have HP4 := Lib.hid hp4
            have HR4 := Lib.hid (hk4 _ _ HR3.out)
            obtain ⟨_, u1, u2, _, _⟩ := act_cells HR4.out
            clear hp4 hk4 HA1 z0 z1 z2 z3 z4
            go_wp2_with fail
            refine (HA2.out w4 HP4.out).mono ?_
            rintro e w5 ⟨rfl, hp5, _⟩
            have HP5 := Lib.hid hp5
            clear hp5 HA2 u1 u2
            go_wp2
            go_roundw
            case rel => exact ⟨i + 1, hki, h55, by go_num, Lib.hid (PS.open_ HP5.out (by omega))⟩
            case measure => simp [intOf]; omega
      · have hbl := hbel
        clear hbel HP
        go_wp2_with fail
        refine (whead_any wr (HT.out.keeps hbl)).mono ?_
        rintro e w3 ⟨rfl, hb⟩
        have HB := Lib.hid ((hbl).trans (hb.mono (hbl).size))
        clear hb
        go_wp2
        go_ret
        exact ⟨rfl, HB.out⟩
    · have h50o : (i : Int) < (l.length : Int) → ¬ (i : Int) < 50 := fun hh => by omega
      obtain ⟨LL, hLL⟩ : ∃ LL, l.length = LL := ⟨_, rfl⟩
      obtain ⟨b, hb⟩ : ∃ b : Bool, decide ((i : Int) < (l.length : Int)) = b := ⟨_, rfl⟩
      rw [hLL] at hb h50o ⊢
      rcases HP.out with ⟨B, C, g, rfl, rfl, rfl, rfl, hpair, hfin⟩ | ⟨rfl, rfl, rfl, rfl, hbel⟩
      · have HPR := Lib.hid hpair
        have HIS := Lib.hid (is_pair hpair)
        clear hpair HP hlt hLL
        cases b with
        | false =>
          have hnI : ¬ (i : Int) < (LL : Int) := of_decide_eq_false hb
          clear hb h50o
          go_wp2_with fail
          refine HIS.out.mono ?_
          rintro e w9 ⟨rfl, hb9⟩
          have HS9 := Lib.hid (HPR.out.since.trans (hb9.mono HPR.out.since.size))
          clear hb9 HIS
          go_wp2_with fail
          refine (whead_any w9 (HT.out.keeps HS9.out)).mono ?_
          rintro e w3 ⟨rfl, hb⟩
          have HB := Lib.hid ((HS9.out).trans (hb.mono (HS9.out).size))
          clear hb
          go_wp2
          go_ret
          exact ⟨rfl, HB.out⟩
        | true =>
          have hnI : (i : Int) < (LL : Int) := of_decide_eq_true hb
          have hnJ : ¬ (i : Int) < 50 := h50o hnI
          clear hb h50o
          go_wp2_with fail
          refine HIS.out.mono ?_
          rintro e w9 ⟨rfl, hb9⟩
          have HS9 := Lib.hid (HPR.out.since.trans (hb9.mono HPR.out.since.size))
          clear hb9 HIS
          go_wp2_with fail
          refine (whead_any w9 (HT.out.keeps HS9.out)).mono ?_
          rintro e w3 ⟨rfl, hb⟩
          have HB := Lib.hid ((HS9.out).trans (hb.mono (HS9.out).size))
          clear hb
          go_wp2
          go_ret
          exact ⟨rfl, HB.out⟩
      · have HBEL := Lib.hid hbel
        clear hbel HP hlt hLL
        cases b with
        | false =>
          have hnI : ¬ (i : Int) < (LL : Int) := of_decide_eq_false hb
          clear hb h50o
          go_wp2_with fail
          refine (whead_any wr (HT.out.keeps HBEL.out)).mono ?_
          rintro e w3 ⟨rfl, hb⟩
          have HB := Lib.hid ((HBEL.out).trans (hb.mono (HBEL.out).size))
          clear hb
          go_wp2
          go_ret
          exact ⟨rfl, HB.out⟩
        | true =>
          have hnI : (i : Int) < (LL : Int) := of_decide_eq_true hb
          have hnJ : ¬ (i : Int) < 50 := h50o hnI
          clear hb h50o
          go_wp2_with fail
          refine (whead_any wr (HT.out.keeps HBEL.out)).mono ?_
          rintro e w3 ⟨rfl, hb⟩
          have HB := Lib.hid ((HBEL.out).trans (hb.mono (HBEL.out).size))
          clear hb
          go_wp2
          go_ret
          exact ⟨rfl, HB.out⟩
end Go.Proofs.YtjahkaockjhibaaDoor
