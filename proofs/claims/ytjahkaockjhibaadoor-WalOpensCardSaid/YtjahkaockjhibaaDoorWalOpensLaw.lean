/-
  WalOpens: the walk.
-/
import Derived.Test.YtjahkaockjhibaaDoorWalPlaysLaw
namespace Go.Proofs.YtjahkaockjhibaaDoor
open Go.RowKit

theorem read_all_ (s : ST) : s.read s.base s.fin = tb s.l := by
  have hr : s.reads s.base s.fin := ⟨Nat.le_refl _, by unfold ST.fin; omega, Nat.le_refl _⟩
  rw [ST.read, if_pos hr]
  apply txt_inj
  show ((s.l.take (s.fin - s.base)).drop (s.base - s.base)) = _
  rw [Nat.sub_self, List.drop_zero, List.take_of_length_le (by unfold ST.fin; omega)]
  simp [txt, tb]
section
variable {W w : World} {pt qt p q : Value} {s1 s2 s : ST} {g1 g2 : LG}
theorem end_t (h : TPair W pt qt s1 s2 w) : Calls Tryd.prog 32 #[pt] w fun e w' => e = .returned (.int .u64 (s1.fin : Int)) ∧ Below w.heap.size w w' := by
  obtain ⟨t, T, r, rfl, rfl, rfl, rfl, ht, hr, hw, hn, hm⟩ := h
  exact (End_any t w ht).mono fun e w' hh => ⟨hh.1, hh.2 ▸ (Below.refl _ _).drew⟩
theorem read_t (h : TPair W pt qt s1 s2 w) (a b : Nat) (i j : Int) (hi : i = (a : Int)) (hj : j = (b : Int)) : Calls Tryd.prog 31 #[pt, .int .u64 i, .int .u64 j] w fun e w' => e = .returned (.tuple #[.string (s1.read a b), .int .i64 (if s1.reads a b then 0 else 2)]) ∧ Below w.heap.size w w' := by
  subst hi hj
  obtain ⟨t, T, r, rfl, rfl, rfl, rfl, ht, hr, hw, hn, hm⟩ := h
  exact read_any t a b w ht
theorem sure_t (h : TPair W pt qt s1 s2 w) : Calls Tryd.prog 33 #[pt] w fun e w' => e = .returned (.int .u64 (s1.sure : Int)) ∧ w = w' := by
  obtain ⟨t, T, r, rfl, rfl, rfl, rfl, ht, hr, hw, hn, hm⟩ := h
  exact sure_any t w ht
theorem all_t {T : Nat} (h : TPair W pt (.pointer (some ⟨T, 0, none⟩)) s s w) (hb : s.base = 0) : ∀ wx, Below w.heap.size w wx → wx.cell? ⟨T, 1, none⟩ = some (.string (tb s.l)) ∧ wx.cell? ⟨T, 3, none⟩ = some (.int .i64 (s.sure : Int)) := by
  obtain ⟨t, T', r, rfl, hT, hs, hst, ht, hr, hw, hn, hm⟩ := h
  unfold rptr at hT
  injection hT with hT
  injection hT with hT
  injection hT with hT _ _
  subst hT
  subst hst
  intro wx hx
  have hk := hr.keeps hx
  refine ⟨?_, hk.c3⟩
  rw [hk.c1]
  have e0 : r.base = 0 := hb
  have e : r.st.l = txt r.all := by show (txt r.all).drop r.base = _; rw [e0, List.drop_zero]
  rw [e, show tb (txt r.all) = r.all from tb_of r.all]
end

set_option maxRecDepth 100000 in
set_option maxHeartbeats 8000000 in
theorem openslaw_any (s : ByteArray) (least : Nat) (w : World) (hT : Tab w) (hle : least < 18446744073709551616) : Calls Tryd.prog 4 #[.string s, .int .u64 (least : Int)] w fun e w' => e = .returned (.bool true) ∧ Below w.heap.size w w' := by
  have HT := Lib.hid hT
  clear hT
  by_cases hbig : 3000 < s.size
  · have hbI : (3000 : Int) < (s.size : Int) := by omega
    go_enter Tryd.func4, Tryd.ntmps4
    go_wp2_with fail
    refine (whead_any w HT.out).mono ?_
    rintro e w3 ⟨rfl, hb⟩
    have HB := Lib.hid hb
    clear hb
    go_wp2
    go_ret
    exact ⟨rfl, HB.out⟩
  · have hbI : ¬ (3000 : Int) < (s.size : Int) := by omega
    have HNT := Lib.hid (new_tp (W := w) (w := w) 4000 (by omega) (Below.refl _ _))
    go_enter Tryd.func4, Tryd.ntmps4
    go_wp2_with fail
    refine HNT.out.mono ?_
    rintro e w1 ⟨A1, rfl, hn2⟩
    have HN2 := Lib.hid hn2
    clear hn2 HNT
    go_wp2_with fail
    refine HN2.out.mono ?_
    rintro e w2 ⟨T1, rfl, htp⟩
    have e4 : (⟨(4000 : Int).toNat, 0, 0, []⟩ : ST) = ⟨4000, 0, 0, []⟩ := rfl
    rw [e4] at htp
    have hft : (⟨4000, 0, 0, []⟩ : ST).fits s := by show s.size ≤ 4000 - 0; omega
    have hap : (⟨4000, 0, 0, []⟩ : ST).append s = ⟨4000, 0, 0, txt s⟩ := by rw [ST.append, if_pos hft]; rfl
    obtain ⟨pt, hpt⟩ : ∃ pt, (Value.pointer (some ⟨A1, 0, none⟩)) = pt := ⟨_, rfl⟩
    rw [hpt] at htp
    simp only [hpt]
    have HTP := Lib.hid htp
    have HA1 := Lib.hid (append_t1 HTP.out s (by show 0 + 0 + s.size ≤ _; omega))
    have HA2 := Lib.hid (fun wx (h : TPair w pt (.pointer (some ⟨T1, 0, none⟩)) ⟨4000, 0, 0, txt s⟩ ⟨4000, 0, 0, []⟩ wx) => append_t2 h s (by show 0 + 0 + s.size ≤ _; omega))
    rw [if_pos hft, hap] at HA1
    rw [if_pos hft, hap] at HA2
    clear htp HN2 hpt hft hap e4
    obtain ⟨sa, hsa⟩ : ∃ sa, (⟨4000, 0, 0, txt s⟩ : ST) = sa := ⟨_, rfl⟩
    have hsal : sa.l.length ≤ 30000 := by rw [← hsa]; show (txt s).length ≤ _; rw [txt_length]; omega
    have hsab : sa.base = 0 := by rw [← hsa]
    rw [hsa] at HA1 HA2
    clear hsa HTP
    go_wp2_with fail
    refine HA1.out.mono ?_
    rintro e w3 ⟨rfl, hp3, _⟩
    have HP3 := Lib.hid hp3
    clear hp3 HA1
    go_wp2_with fail
    refine (HA2.out w3 HP3.out).mono ?_
    rintro e w4 ⟨rfl, hp4, _⟩
    have HP4 := Lib.hid hp4
    clear hp4 HA2 HP3
    go_wp2_with fail
    refine (open_t1 HT.out HP4.out hsal least hle _ rfl).mono ?_
    rintro e w5 ⟨_, ho⟩
    rcases ho with ⟨h1, rfl, h3⟩ | ⟨B, g, h1, rfl, h3⟩
    · have HO2 := Lib.hid (open_none2 h3 hsal least hle _ rfl h1)
      clear h1 h3
      go_wp2_with fail
      refine HO2.out.mono ?_
      rintro e w6 ⟨rfl, hp6⟩
      have HP6 := Lib.hid hp6
      clear hp6 HO2
      have hfin : sa.fin < 18446744073709551616 := by have := HP6.out.ok.small; omega
      obtain ⟨U, hU⟩ : ∃ U, tb sa.l = U := ⟨_, rfl⟩
      obtain ⟨SU, hSU⟩ : ∃ SU, sa.sure = SU := ⟨_, rfl⟩
      have hsu : SU ≤ 100000000 := by have h1 := HP6.out.ok.sf; have h2 := HP6.out.ok.small; omega
      have hwu : IntKind.u64.wrap (SU : Int) = (SU : Int) := IntWalk.u64_in _ (by omega)
      have HAL := Lib.hid (all_t HP6.out hsab)
      rw [hU, hSU] at HAL
      have hra : sa.read 0 sa.fin = U := by
        rw [← hU, ← read_all_ sa, hsab]
      have hrr : sa.reads 0 sa.fin := ⟨by rw [hsab]; exact Nat.le_refl _, Nat.zero_le _, Nat.le_refl _⟩
      have HEN := Lib.hid (end_t HP6.out)
      have HRD := Lib.hid (fun wx (hb : Below w6.heap.size w6 wx) => read_t (HP6.out.keeps hb) 0 sa.fin 0 _ rfl rfl)
      rw [hra, if_pos hrr] at HRD
      clear hra hrr hU
      obtain ⟨fi, hfi⟩ : ∃ fi, sa.fin = fi := ⟨_, rfl⟩
      rw [hfi] at HEN HRD
      clear hfi hfin
      go_wp2_with fail
      refine HEN.out.mono ?_
      rintro e w7 ⟨rfl, hb7⟩
      have HB7 := Lib.hid hb7
      clear hb7
      go_wp2_with fail
      refine (HRD.out w7 HB7.out).mono ?_
      rintro e w8 ⟨rfl, hb8⟩
      have hb8b := HB7.out.trans (hb8.mono HB7.out.size)
      obtain ⟨wd, hwd⟩ : ∃ wd, w8.drew = wd := ⟨_, rfl⟩
      have hb8d : Below w6.heap.size w6 wd := hwd ▸ hb8b.drew
      have hHeld := HAL.out wd hb8d
      clear hb8 HEN HRD
      go_wp2_with fail
      refine wp_region_noPanic ?_
      refine wp_region_sch (fun wx => wx.cell? ⟨T1, 1, none⟩ = some (.string U) ∧ wx.cell? ⟨T1, 3, none⟩ = some (.int .i64 (SU : Int))) (fun i => [17, 34, 43].contains i)
        (.takes [0, 1, 2, 3, 4, 5, 6, 7, 8, 9, 10, 11, 12, 13, 14, 15, 16] (.run 17 (.takes [18, 19, 20, 21, 22, 23, 24, 25, 26, 27, 28, 29, 30, 31, 32, 33, 35, 36, 37, 38, 39] (.run 34 (.takes [40, 41, 42] (.run 43 (.takes [44, 45] .done))))))) (by kernel_rfl) (fun _ _ _ _ _ h => h) (by kernel_rfl) ?_
      rw [hwd]
      clear hwd
      iterate 17 (
        refine sch_takes_cons ?_
        first
          | (refine sch_take (v := ?_) rfl (by assumption) (by rfl) ?_ ?_; rotate_left; (focus (intro wy hSy; (try dsimp only at hSy); go_simp; (try with_reducible rfl))))
          | (refine sch_pass rfl (by assumption) (by rfl) ?_)
        simp only [Act.put, List.setIfInBounds_toArray, List.set_cons_zero, List.set_cons_succ])
      refine sch_takes_nil ?_
      refine sch_run rfl (fun K hK => ?_)
      go_simp
      have HB9 := Lib.hid hb8d
      have hHeld := HAL.out wd HB9.out
      refine hK.out _ _ (fun _ => hHeld) ?_
      clear hK K
      try simp only [Act.put, List.setIfInBounds_toArray, List.set_cons_zero, List.set_cons_succ]
      iterate 21 (
        refine sch_takes_cons ?_
        first
          | (refine sch_take (v := ?_) rfl (by assumption) (by rfl) ?_ ?_; rotate_left; (focus (intro wy hSy; (try dsimp only at hSy); go_simp; (try with_reducible rfl))))
          | (refine sch_pass rfl (by assumption) (by rfl) ?_)
        simp only [Act.put, List.setIfInBounds_toArray, List.set_cons_zero, List.set_cons_succ])
      refine sch_takes_nil ?_
      refine sch_run rfl (fun K hK => ?_)
      go_simp
      with_reducible refine (sure_t (HP6.out.keeps HB9.out)).mono ?_
      rintro e wz ⟨hse, rfl⟩
      rw [hSU] at hse
      subst hse
      have hHeld := HAL.out _ HB9.out
      try dsimp only
      refine hK.out _ _ (fun _ => hHeld) ?_
      clear hK K
      try simp only [Act.put, List.setIfInBounds_toArray, List.set_cons_zero, List.set_cons_succ]
      iterate 3 (
        refine sch_takes_cons ?_
        first
          | (refine sch_take (v := ?_) rfl (by assumption) (by rfl) ?_ ?_; rotate_left; (focus (intro wy hSy; (try dsimp only at hSy); go_simp; (try with_reducible rfl))))
          | (refine sch_pass rfl (by assumption) (by rfl) ?_)
        simp only [Act.put, List.setIfInBounds_toArray, List.set_cons_zero, List.set_cons_succ])
      refine sch_takes_nil ?_
      refine sch_run rfl (fun K hK => ?_)
      go_simp
      with_reducible refine (whead_any _ (HT.out.keeps (HP6.out.since.trans (HB9.out.mono HP6.out.since.size)))).mono ?_
      rintro e w10 ⟨rfl, hb10⟩
      have HB10 := Lib.hid (HB9.out.trans (hb10.mono HB9.out.size))
      have hHeld := HAL.out w10 HB10.out
      clear hb10
      try dsimp only
      refine hK.out _ _ (fun _ => hHeld) ?_
      clear hK K
      try simp only [Act.put, List.setIfInBounds_toArray, List.set_cons_zero, List.set_cons_succ]
      iterate 2 (
        refine sch_takes_cons ?_
        first
          | (refine sch_take (v := ?_) rfl (by assumption) (by rfl) ?_ ?_; rotate_left; (focus (intro wy hSy; (try dsimp only at hSy); go_simp; (try with_reducible rfl))))
          | (refine sch_pass rfl (by assumption) (by rfl) ?_)
        simp only [Act.put, List.setIfInBounds_toArray, List.set_cons_zero, List.set_cons_succ])
      refine sch_takes_nil ?_
      refine sch_done ?_
      refine NoPanic.normal ?_
      go_wp2
      go_ret
      exact ⟨rfl, HP6.out.since.trans (HB10.out.mono HP6.out.since.size)⟩
    · have HO2 := Lib.hid (open_some2 h3 hsal least hle _ rfl h1)
      have hgb : g.st.base = 0 := by rw [(opens_bytes h1).2.2.1]; exact hsab
      clear h1 h3
      go_wp2_with fail
      refine HO2.out.mono ?_
      rintro e w6 ⟨C, rfl, hp6⟩
      have HPR := Lib.hid hp6
      have HP6 := Lib.hid hp6.tapes
      clear hp6 HO2
      have hfin : g.st.fin < 18446744073709551616 := by have := HP6.out.ok.small; omega
      obtain ⟨U, hU⟩ : ∃ U, tb g.st.l = U := ⟨_, rfl⟩
      obtain ⟨SU, hSU⟩ : ∃ SU, g.st.sure = SU := ⟨_, rfl⟩
      have hsu : SU ≤ 100000000 := by have h1 := HP6.out.ok.sf; have h2 := HP6.out.ok.small; omega
      have hwu : IntKind.u64.wrap (SU : Int) = (SU : Int) := IntWalk.u64_in _ (by omega)
      have HAL := Lib.hid (all_t HP6.out hgb)
      rw [hU, hSU] at HAL
      have hra : g.st.read 0 g.st.fin = U := by
        rw [← hU, ← read_all_ g.st, hgb]
      have hrr : g.st.reads 0 g.st.fin := ⟨by rw [hgb]; exact Nat.le_refl _, Nat.zero_le _, Nat.le_refl _⟩
      have HEN := Lib.hid (end_t HP6.out)
      have HRD := Lib.hid (fun wx (hb : Below w6.heap.size w6 wx) => read_t (HP6.out.keeps hb) 0 g.st.fin 0 _ rfl rfl)
      rw [hra, if_pos hrr] at HRD
      clear hra hrr hU
      obtain ⟨fi, hfi⟩ : ∃ fi, g.st.fin = fi := ⟨_, rfl⟩
      rw [hfi] at HEN HRD
      clear hfi hfin
      go_wp2_with fail
      refine HEN.out.mono ?_
      rintro e w7 ⟨rfl, hb7⟩
      have HB7 := Lib.hid hb7
      clear hb7
      go_wp2_with fail
      refine (HRD.out w7 HB7.out).mono ?_
      rintro e w8 ⟨rfl, hb8⟩
      have hb8b := HB7.out.trans (hb8.mono HB7.out.size)
      obtain ⟨wd, hwd⟩ : ∃ wd, w8.drew = wd := ⟨_, rfl⟩
      have hb8d : Below w6.heap.size w6 wd := hwd ▸ hb8b.drew
      have hHeld := HAL.out wd hb8d
      have HPR9 := Lib.hid (HPR.out.keeps hb8d)
      clear hb8 HEN HRD
      go_wp2_with fail
      refine wp_region_noPanic ?_
      refine wp_region_sch (fun wx => wx.cell? ⟨T1, 1, none⟩ = some (.string U) ∧ wx.cell? ⟨T1, 3, none⟩ = some (.int .i64 (SU : Int))) (fun i => [17, 34, 43].contains i)
        (.takes [0, 1, 2, 3, 4, 5, 6, 7, 8, 9, 10, 11, 12, 13, 14, 15, 16] (.run 17 (.takes [18, 19, 20, 21, 22, 23, 24, 25, 26, 27, 28, 29, 30, 31, 32, 33, 35, 36, 37, 38, 39] (.run 34 (.takes [40, 41, 42] (.run 43 (.takes [44, 45] .done))))))) (by kernel_rfl) (fun _ _ _ _ _ h => h) (by kernel_rfl) ?_
      rw [hwd]
      clear hwd
      iterate 17 (
        refine sch_takes_cons ?_
        first
          | (refine sch_take (v := ?_) rfl (by assumption) (by rfl) ?_ ?_; rotate_left; (focus (intro wy hSy; (try dsimp only at hSy); go_simp; (try with_reducible rfl))))
          | (refine sch_pass rfl (by assumption) (by rfl) ?_)
        simp only [Act.put, List.setIfInBounds_toArray, List.set_cons_zero, List.set_cons_succ])
      refine sch_takes_nil ?_
      refine sch_run rfl (fun K hK => ?_)
      go_simp
      with_reducible refine (is_pair HPR9.out).mono ?_
      rintro e w9 ⟨rfl, hb9⟩
      have HB9 := Lib.hid (hb8d.trans (hb9.mono hb8d.size))
      have hHeld := HAL.out w9 HB9.out
      clear hb9
      try dsimp only
      refine hK.out _ _ (fun _ => hHeld) ?_
      clear hK K
      try simp only [Act.put, List.setIfInBounds_toArray, List.set_cons_zero, List.set_cons_succ]
      iterate 21 (
        refine sch_takes_cons ?_
        first
          | (refine sch_take (v := ?_) rfl (by assumption) (by rfl) ?_ ?_; rotate_left; (focus (intro wy hSy; (try dsimp only at hSy); go_simp; (try with_reducible rfl))))
          | (refine sch_pass rfl (by assumption) (by rfl) ?_)
        simp only [Act.put, List.setIfInBounds_toArray, List.set_cons_zero, List.set_cons_succ])
      refine sch_takes_nil ?_
      refine sch_run rfl (fun K hK => ?_)
      go_simp
      with_reducible refine (sure_t (HP6.out.keeps HB9.out)).mono ?_
      rintro e wz ⟨hse, rfl⟩
      rw [hSU] at hse
      subst hse
      have hHeld := HAL.out _ HB9.out
      try dsimp only
      refine hK.out _ _ (fun _ => hHeld) ?_
      clear hK K
      try simp only [Act.put, List.setIfInBounds_toArray, List.set_cons_zero, List.set_cons_succ]
      iterate 3 (
        refine sch_takes_cons ?_
        first
          | (refine sch_take (v := ?_) rfl (by assumption) (by rfl) ?_ ?_; rotate_left; (focus (intro wy hSy; (try dsimp only at hSy); go_simp; (try with_reducible rfl))))
          | (refine sch_pass rfl (by assumption) (by rfl) ?_)
        simp only [Act.put, List.setIfInBounds_toArray, List.set_cons_zero, List.set_cons_succ])
      refine sch_takes_nil ?_
      refine sch_run rfl (fun K hK => ?_)
      go_simp
      with_reducible refine (whead_any _ (HT.out.keeps (HP6.out.since.trans (HB9.out.mono HP6.out.since.size)))).mono ?_
      rintro e w10 ⟨rfl, hb10⟩
      have HB10 := Lib.hid (HB9.out.trans (hb10.mono HB9.out.size))
      have hHeld := HAL.out w10 HB10.out
      clear hb10
      try dsimp only
      refine hK.out _ _ (fun _ => hHeld) ?_
      clear hK K
      try simp only [Act.put, List.setIfInBounds_toArray, List.set_cons_zero, List.set_cons_succ]
      iterate 2 (
        refine sch_takes_cons ?_
        first
          | (refine sch_take (v := ?_) rfl (by assumption) (by rfl) ?_ ?_; rotate_left; (focus (intro wy hSy; (try dsimp only at hSy); go_simp; (try with_reducible rfl))))
          | (refine sch_pass rfl (by assumption) (by rfl) ?_)
        simp only [Act.put, List.setIfInBounds_toArray, List.set_cons_zero, List.set_cons_succ])
      refine sch_takes_nil ?_
      refine sch_done ?_
      refine NoPanic.normal ?_
      go_wp2
      go_ret
      exact ⟨rfl, HP6.out.since.trans (HB10.out.mono HP6.out.since.size)⟩
end Go.Proofs.YtjahkaockjhibaaDoor
