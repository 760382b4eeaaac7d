/-
  The code's log: Append.
-/
import Derived.Test.YtjahkaockjhibaaDoorMWCodC
namespace Go.Proofs.YtjahkaockjhibaaDoor
open Go.RowKit

/-- What stands behind it. -/
theorem wput_set {d : WV} {w w3 w4 w5 w6 : World} {k : UInt8} {x : List UInt8} {g o c' : Nat} (h : d.In w) (hc : d.g.can x) (hs : d.g.st.fin + (21 + x.length) ≤ 100000000) (hb : Below w.heap.size w w3)
    (t' : TV) (hA : t'.A = d.t.A) (hst : t'.s = d.t.s.append (tb (one (recE ⟨d.g.last + 1, k, x⟩)))) (hin : t'.In w4) (ho : Only d.t.mine w3 w4) (hm : ∀ k, t'.mine k → d.t.mine k ∨ w3.heap.size ≤ k)
    (hb5 : Below w4.heap.size w4 w5) (hown : EntO w6 (some ⟨g, o, none⟩) (d.g.l ++ [⟨d.g.last + 1, k, x⟩]) c') (hg : w5.grownBy w6 (blk d.A)) (hgg : blk d.A = some g ∨ w5.heap.size ≤ g) :
    (w6.cell? ⟨d.B, 1, none⟩ = some (.slice d.A d.g.l.length d.c) ∧ w6.frozen? ⟨d.B, 1, none⟩ = false) ∧
    ((w6.setCell ⟨d.B, 1, none⟩ (.slice (some ⟨g, o, none⟩) (d.g.l.length + 1) c')).cell? ⟨d.B, 2, none⟩ = some (.int .u64 (d.g.last : Int)) ∧ (w6.setCell ⟨d.B, 1, none⟩ (.slice (some ⟨g, o, none⟩) (d.g.l.length + 1) c')).frozen? ⟨d.B, 2, none⟩ = false) ∧
    d.Turned d.mine w (d.g.put k x) (.tuple #[.int .u64 ((d.g.last + 1 : Nat) : Int), .int .i64 0]) (.returned (.tuple #[.int .u64 ((d.g.last + 1 : Nat) : Int), .int .i64 0])) ((w6.setCell ⟨d.B, 1, none⟩ (.slice (some ⟨g, o, none⟩) (d.g.l.length + 1) c')).setCell ⟨d.B, 2, none⟩ (.int .u64 ((d.g.last + 1 : Nat) : Int))) := by
  have k1 := h.keeps hb
  have row4 := k1.row.only ho h.bt
  have own4 := k1.own.only ho h.ta
  have row5 := row4.below hb5 row4.lt
  have tape5 := hin.keeps hb5
  have o6 : Only (fun k => blk d.A = some k) w5 w6 := (Only.refl _ w5).grown hg (fun k hk => hk)
  have row6 := row5.only o6 (fun e => h.ba _ e rfl)
  have hsz3 : w.heap.size ≤ w3.heap.size := hb.size
  have htA : ∀ k, t'.mine k → ¬ blk d.A = some k := fun k hk e => by
    rcases hm k hk with h1 | h1
    · exact h.ta k e h1
    · have := h.own.lt k e; omega
  have tape6 := tape5.only o6 htA
  have hgB : g ≠ d.B := by
    obtain ⟨cs, hr⟩ := hown.at_block g rfl
    exact hr.ne_ row6 (by decide)
  have htB : ∀ k, t'.mine k → ¬ k = d.B := fun k hk e => by
    subst e
    rcases hm _ hk with h1 | h1
    · exact h.bt h1
    · have := h.row.lt; omega
  have hst2 : t'.s = (d.g.put k x).st := by
    rw [hst, h.st]
    have hf : d.g.st.fits (tb (one (recE ⟨d.g.last + 1, k, x⟩))) := by
      unfold ST.fits
      rw [size_tb, one_recE]
      exact hc.2.2
    rw [ST.append, if_pos hf, txt_tb]
    rfl
  obtain ⟨w7, hw7⟩ : ∃ w7, w6.setCell ⟨d.B, 1, none⟩ (.slice (some ⟨g, o, none⟩) (d.g.l.length + 1) c') = w7 := ⟨_, rfl⟩
  have o7 : Only (· = d.B) w6 w7 := hw7 ▸ (Only.refl (· = d.B) w6).setCell (p := ⟨d.B, 1, none⟩) rfl _
  have row7 : Row w7 d.B 74 [.pointer (some ⟨d.t.A, 0, none⟩), .slice (some ⟨g, o, none⟩) (d.g.l.length + 1) c', .int .u64 (d.g.last : Int), .int .u64 (d.g.stable : Int)] (0, 0) := hw7 ▸ row6.put 1 _
  have o8 : Only (· = d.B) w7 (w7.setCell ⟨d.B, 2, none⟩ (.int .u64 ((d.g.last + 1 : Nat) : Int))) := (Only.refl (· = d.B) w7).setCell (p := ⟨d.B, 2, none⟩) rfl _
  have hsz4 : w.heap.size ≤ w5.heap.size := Nat.le_trans hsz3 (Nat.le_trans ho.size hb5.size)
  rw [hw7]
  refine ⟨⟨row6.cell 1, row6.loose 1⟩, ⟨row7.cell 2, row7.loose 2⟩, ⟨d.B, t', some ⟨g, o, none⟩, c', d.g.put k x⟩, rfl, rfl, hA, rfl, ⟨?_, ?_, hst2, ?_, h.ok.put k x hc hs⟩, ?_, ?_⟩
  · have := row7.put 2 (.int .u64 ((d.g.last + 1 : Nat) : Int))
    have e : (d.g.put k x).l.length = d.g.l.length + 1 := by show (d.g.l ++ [_]).length = _; simp
    show Row _ d.B _ [.pointer (some ⟨t'.A, 0, none⟩), .slice (some ⟨g, o, none⟩) (d.g.put k x).l.length c', .int .u64 ((d.g.last + 1 : Nat) : Int), .int .u64 (d.g.stable : Int)] (0, 0)
    rw [e, hA]
    exact this
  · exact (tape6.only o7 htB).only o8 htB
  · have hne : ∀ k, blk (some (⟨g, o, none⟩ : Addr)) = some k → ¬ k = d.B := fun k hk => by injection hk with hk; subst hk; exact hgB
    exact (hown.only o7 hne).only o8 hne
  · have a1 : Only d.mine w w4 := (Only.below hb d.mine).then ho (fun k _ hk => .inl (.inr hk))
    have a2 : Only d.mine w w5 := a1.trans (Only.below hb5 d.mine)
    have a3 : Only d.mine w w6 := a2.then o6 (fun k _ hk => .inr hk)
    have a4 : Only d.mine w w7 := a3.then o7 (fun k _ hk => .inl (.inl hk))
    exact a4.then o8 (fun k _ hk => .inl (.inl hk))
  · rintro k ((rfl | hk) | hk)
    · exact .inl (.inl (.inl rfl))
    · rcases hm k hk with h1 | h1
      · exact .inl (.inl (.inr h1))
      · exact .inr (by omega)
    · injection hk with hk
      subst hk
      rcases hgg with e | e
      · exact .inl (.inr e)
      · exact .inr (by show w.heap.size ≤ g; omega)

theorem row_any {w : World} {g : Nat} {x y z : Value} (h : Row w g 48 [x, y, z] (0, 0)) : w.cell? ⟨g, 0, none⟩ = some x ∧ w.cell? ⟨g, 1, none⟩ = some y ∧ w.cell? ⟨g, 2, none⟩ = some z := ⟨h.cell 0, h.cell 1, h.cell 2⟩

section
variable (d : WV) (w : World)
set_option maxRecDepth 100000 in
set_option maxHeartbeats 4000000 in
theorem wappend_any (hT : Tab w) (k : UInt8) (x : List UInt8) (h : d.In w) (hx : x.length ≤ 30000) (hs : d.g.st.fin + (21 + x.length) ≤ 100000000) :
    Calls Tryd.prog 27 #[d.ptr, .int .u8 (k.toNat : Int), .string (tb x)] w (d.Turned d.mine w (d.g.append k x) (.tuple #[.int .u64 (((if d.g.can x then d.g.last + 1 else 0) : Nat) : Int), .int .i64 (((if d.g.can x then 0 else 6) : Nat) : Int)])) := by
  have HN := Lib.hid (wnone_any d w h)
  have zd : (tb x).size = x.length := tb_size x
  have hmax := h.ok.max
  have HIN := Lib.hid h
  have hcount := h.ok.count
  obtain ⟨Q, hQ⟩ : ∃ Q, d.Turned d.mine w (d.g.append k x) (.tuple #[.int .u64 (((if d.g.can x then d.g.last + 1 else 0) : Nat) : Int), .int .i64 (((if d.g.can x then 0 else 6) : Nat) : Int)]) = Q := ⟨_, rfl⟩
  rw [hQ]
  have HNO0 := Lib.hid (show ¬ d.g.can x → ∀ (w' : World), Below w.heap.size w w' → Q (.returned (.tuple #[.int .u64 0, .int .i64 6])) w' from fun hc w' hb => by
    rw [← hQ, LG.append, if_neg hc, if_neg hc, if_neg hc]
    exact ⟨d, rfl, rfl, rfl, rfl, h.keeps hb, Only.below hb _, fun k hk => .inl hk⟩)
  have HNO := Lib.hid (show ¬ d.g.can x → ∀ (w3 : World) (t' : TV) (w' : World), Below w.heap.size w w3 → t'.A = d.t.A → t'.s = d.t.s → t'.In w' → Only d.t.mine w3 w' → (∀ k, t'.mine k → d.t.mine k ∨ w3.heap.size ≤ k) → Q (.returned (.tuple #[.int .u64 0, .int .i64 6])) w' from fun hc w3 t' w' hb hA hs' hin ho hm => by
    rw [← hQ, LG.append, if_neg hc, if_neg hc, if_neg hc]
    have k1 := h.keeps hb
    refine ⟨⟨d.B, t', d.A, d.c, d.g⟩, rfl, rfl, hA, rfl, ⟨?_, hin, hs'.trans h.st, k1.own.only ho h.ta, h.ok⟩, (Only.below hb d.mine).then ho (fun k _ hk => .inl (.inr hk)), ?_⟩
    · show Row w' d.B _ [.pointer (some ⟨t'.A, 0, none⟩), _, _, _] (0, 0)
      rw [hA]; exact k1.row.only ho h.bt
    · rintro k ((rfl | hk) | hk)
      · exact .inl (.inl (.inl rfl))
      · rcases hm k hk with h1 | h1
        · exact .inl (.inl (.inr h1))
        · exact .inr (Nat.le_trans hb.size h1)
      · exact .inl (.inr hk))
  have HYE := Lib.hid (show d.g.can x → ∀ w', d.Turned d.mine w (d.g.put k x) (.tuple #[.int .u64 ((d.g.last + 1 : Nat) : Int), .int .i64 0]) (.returned (.tuple #[.int .u64 ((d.g.last + 1 : Nat) : Int), .int .i64 0])) w' → Q (.returned (.tuple #[.int .u64 ((d.g.last + 1 : Nat) : Int), .int .i64 0])) w' from fun hc w' ht => by
    rw [← hQ, LG.append, if_pos hc, if_pos hc, if_pos hc]
    exact ht)
  clear hQ
  have hlw : IntKind.u64.wrap ((d.g.last : Int) + 1) = ((d.g.last + 1 : Nat) : Int) := by rw [IntWalk.u64_in _ (by omega)]; omega
  have HBY := Lib.hid (fun w1 (hb : Below w.heap.size w w1) => wbytes_any ⟨d.g.last + 1, k, x⟩ w1 (hT.keeps hb) (by show d.g.last + 1 < _; omega) hx)
  obtain ⟨t, ht⟩ : ∃ t, tb (one (recE ⟨d.g.last + 1, k, x⟩)) = t := ⟨_, rfl⟩
  have hts : t.size = 21 + x.length := by rw [← ht, size_tb, one_recE]
  have hfit : d.g.last < 281474976710656 → (d.t.s.fits t ↔ d.g.can x) := fun hlt => by
    rw [h.st]
    unfold ST.fits LG.can LG.fits
    rw [hts]
    exact ⟨fun hh => ⟨by omega, hlt, hh⟩, fun hh => hh.2.2⟩
  have HAP := Lib.hid (fun w1 (hb : Below w.heap.size w w1) => append_any d.t t w1 (h.keeps hb).tape (by rw [h.st, hts]; exact hs))
  have HPUT := Lib.hid (fun (hc : d.g.can x) w3 w4 w5 w6 g o c' hb t' hA hst hin ho hm hb5 hown hg hgg => wput_set (k := k) (w3 := w3) (w4 := w4) (w5 := w5) (w6 := w6) (g := g) (o := o) (c' := c') h hc hs hb t' hA hst hin ho hm hb5 hown hg hgg)
  simp only [ht] at HBY HPUT
  have HFIT := Lib.hid hfit
  have HCL := Lib.hid (fun wx => clone_str (tb x) wx (by rw [zd]; omega))
  have HC0 := Lib.hid (show ∀ wx, Below w.heap.size w wx → wx.cell? ⟨d.B, 0, none⟩ = some (.pointer (some ⟨d.t.A, 0, none⟩)) from fun wx hb => (h.keeps hb).c0)
  have HC2 := Lib.hid (show ∀ wx, Below w.heap.size w wx → wx.cell? ⟨d.B, 2, none⟩ = some (.int .u64 (d.g.last : Int)) from fun wx hb => (h.keeps hb).c2)
  clear hT hfit hts hs hx
  unfold entV at HBY
  obtain ⟨L, hL⟩ : ∃ L, d.g.last + 1 = L := ⟨_, rfl⟩
  rw [hL] at hlw
  simp only [hL] at HYE HPUT HBY
  have hLm : L ≤ 281474976710657 := by omega
  have HLL := Lib.hid hL
  have HNEW := Lib.hid (show ∀ wq : World, ∀ j u, (entC ⟨L, k, x⟩)[j]? = some u → (wq.alloc (.cells #[.int .u64 (L : Int), .int .u8 (k.toNat : Int), .string (tb x)] 48)).cell? ((⟨wq.heap.size, 0, none⟩ : Addr).add j) = some u from fun wq => new_ent wq 48 ⟨L, k, x⟩)
  generalize tb x = X at *
  have hmine := h.mineLt
  have HTM := Lib.hid (show ∀ k, d.t.mine k → k < w.heap.size from fun k hk => hmine k (.inl (.inr hk)))
  have HAM := Lib.hid (show ∀ k, blk d.A = some k → k < w.heap.size from fun k hk => hmine k (.inr hk))
  have HBM := Lib.hid (show d.B < w.heap.size from hmine d.B (.inl (.inl rfl)))
  clear h hmine hL
  obtain ⟨wd, hwd⟩ : ∃ wd, w.drew = wd := ⟨_, rfl⟩
  have HBD := Lib.hid (show Below w.heap.size w wd from hwd ▸ (Below.refl _ _).drew)
  have hHeld := HC2.out wd HBD.out
  unfold WV.ptr at HN ⊢
  unfold TV.ptr at HAP
  go_enter Tryd.func27, Tryd.ntmps27
  go_wp2_with fail
  refine HN.out.mono ?_
  rintro e w1 ⟨rfl, rfl⟩
  go_wp2_with fail
  refine wp_region_noPanic ?_
  refine wp_region_sch (fun wx => wx.cell? ⟨d.B, 2, none⟩ = some (.int .u64 (d.g.last : Int))) (fun i => [7, 9, 10].contains i)
    (.takes [0, 1, 2, 3, 4, 5, 6] (.fork [7, 9] (fun k => if k = 7 then (.takes [8] (.run 9 (.run 10 .done))) else (.run 7 (.takes [8] (.run 10 .done)))))) (by kernel_rfl) (fun _ _ _ _ _ h => h) (by kernel_rfl) ?_
  rw [hwd]
  clear hwd
  iterate 7 (
    refine sch_takes_cons ?_
    first
      | (refine sch_take (v := ?_) rfl (by assumption) (by rfl) ?_ ?_; rotate_left; (focus (intro wy hSy; (try dsimp only at hSy); go_simp; (try with_reducible rfl))))
      | (refine sch_pass rfl (by assumption) (by rfl) ?_)
    simp only [Act.put, List.setIfInBounds_toArray, List.set_cons_zero, List.set_cons_succ])
  refine sch_takes_nil ?_
  refine sch_fork rfl (fun K hK => ?_) (sch_fork rfl (fun K hK => ?_) sch_fork_nil)
  · go_simp
    with_reducible refine (HCL.out _).mono ?_
    rintro e w2 ⟨rfl, hb2⟩
    have HB2 := Lib.hid (HBD.out.trans (hb2.mono HBD.out.size))
    clear hb2
    have hHeld := HC2.out _ HB2.out
    try dsimp only
    refine hK.out _ _ (fun _ => hHeld) ?_
    clear hK K
    change wpSch _ _ _ _ _ _ (.takes [8] (.run 9 (.run 10 .done))) _ _
    try simp only [Act.put, List.setIfInBounds_toArray, List.set_cons_zero, List.set_cons_succ]
    refine sch_takes_cons ?_
    first
      | (refine sch_take (v := ?_) rfl (by assumption) (by rfl) ?_ ?_; rotate_left; (focus (intro wy hSy; (try dsimp only at hSy); go_simp; (try with_reducible rfl))))
      | (refine sch_pass rfl (by assumption) (by rfl) ?_)
    simp only [Act.put, List.setIfInBounds_toArray, List.set_cons_zero, List.set_cons_succ]
    refine sch_takes_nil ?_
    refine sch_run rfl (fun K hK => ?_)
    go_simp
    obtain ⟨wa, hwa⟩ : ∃ wa, w2.alloc (.cells #[.int .u64 0, .int .u8 0, .string ⟨#[]⟩] 48) = wa := ⟨_, rfl⟩
    have HBA := Lib.hid (show Below w.heap.size w wa from hwa ▸ HB2.out.alloc HB2.out.size _)
    have HRA := Lib.hid (show Row wa w2.heap.size 48 [.int .u64 0, .int .u8 0, .string ⟨#[]⟩] (0, 0) from hwa ▸ ent_new w2 _)
    have HGA := Lib.hid (show w.heap.size ≤ w2.heap.size from HB2.out.size)
    obtain ⟨ga, hga⟩ : ∃ ga, w2.heap.size = ga := ⟨_, rfl⟩
    rw [hwa]
    rw [hga] at HRA HGA ⊢
    clear hwa hga
    have hHeld := HC2.out _ HBA.out
    refine hK.out _ _ (fun _ => hHeld) ?_
    clear hK K
    try simp only [Act.put, List.setIfInBounds_toArray, List.set_cons_zero, List.set_cons_succ]
    refine sch_run rfl (fun K hK => ?_)
    obtain ⟨z0, z1, z2⟩ := row_any HRA.out
    have y0 := HRA.out.loose 0
    have y1 := HRA.out.loose 1
    have y2 := HRA.out.loose 2
    go_simp
    obtain ⟨ws, hws⟩ : ∃ ws, ((wa.setCell ⟨ga, 0, none⟩ (.int .u64 (L : Int))).setCell ⟨ga, 1, none⟩ (.int .u8 (k.toNat : Int))).setCell ⟨ga, 2, none⟩ (.string X) = ws := ⟨_, rfl⟩
    have HRS := Lib.hid (show Row ws ga 48 [.int .u64 (L : Int), .int .u8 (k.toNat : Int), .string X] (0, 0) from hws ▸ ((HRA.out.put 0 _).put 1 _).put 2 _)
    have HBS := Lib.hid (show Below w.heap.size w ws from hws ▸ ((HBA.out.setCell HGA.out _).setCell HGA.out _).setCell HGA.out _)
    rw [hws]
    have hHeld := HC2.out _ HBS.out
    clear hws z0 z1 z2 y0 y1 y2
    refine hK.out _ _ (fun _ => hHeld) ?_
    clear hK K
    try simp only [Act.put, List.setIfInBounds_toArray, List.set_cons_zero, List.set_cons_succ]
    refine sch_done ?_
    refine NoPanic.normal ?_
    clear hHeld HCL HC2
    obtain ⟨s0, s1, s2⟩ := row_any HRS.out
    go_wp2_with fail
    refine (HBY.out ws HBS.out).mono ?_
    rintro e w3 ⟨rfl, hb3⟩
    have HR3 := Lib.hid (HRS.out.below hb3 HRS.out.lt)
    have HB3 := Lib.hid (HBS.out.trans (hb3.mono HBS.out.size))
    have r0 := HR3.out.cell 0
    simp only [List.getElem?_cons_zero] at r0
    clear hb3 HRS HBS HBY s0 s1 s2
    by_cases hlt : 281474976710656 < L
    · have HE := Lib.hid (HNO0.out (fun hc => by have := hc.2.1; have := HLL.out; omega) w3 HB3.out)
      have hltI : (281474976710656 : Int) < (L : Int) := by omega
      clear HNO0 HNO HYE HPUT HFIT HAP hlt HLL
      go_wp2
      exact HE.out
    · have hltI : ¬ (281474976710656 : Int) < (L : Int) := by omega
      have hfc := HFIT.out (by have := HLL.out; omega)
      have HAP3 := Lib.hid (HAP.out w3 HB3.out)
      have c0 := HC0.out w3 HB3.out
      clear HFIT HAP HNO0 HC0
      by_cases hc : d.g.can x
      · rw [if_pos (hfc.2 hc)] at HAP3
        have HP2 := Lib.hid (HPUT.out hc w3)
        have HY2 := Lib.hid (HYE.out hc)
        clear HNO HPUT HYE hfc hlt hc
        go_wp2_with fail
        refine HAP3.out.mono ?_
        rintro e w4 ⟨t', rfl, hA, hst, hin, ho, hm⟩
        have HP3 := Lib.hid (fun w5 w6 g o c' hb5 hown hg hgg => HP2.out w4 w5 w6 g o c' HB3.out t' hA hst hin ho hm hb5 hown hg hgg)
        have HR4 := Lib.hid (HR3.out.only ho (fun hk => by have := HTM.out _ hk; have := HGA.out; omega))
        have HI4 := Lib.hid (show d.B ≠ ga from fun e => by have := HBM.out; have := HGA.out; omega)
        have row4 := (HIN.out.keeps HB3.out).row.only ho HIN.out.bt
        have own4 := (HIN.out.keeps HB3.out).own.only ho HIN.out.ta
        have HRW4 := Lib.hid row4
        have HOW4 := Lib.hid own4
        clear hA hst hin ho hm row4 own4 HP2 HAP3 c0 r0
        obtain ⟨wq, hwq⟩ : ∃ wq, w4.drew = wq := ⟨_, rfl⟩
        have HQ4 := Lib.hid (show Below w4.heap.size w4 wq from hwq ▸ (Below.refl _ _).drew)
        have HK := Lib.hid (show ∀ wx, Below w4.heap.size w4 wx → wx.cell? ⟨d.B, 1, none⟩ = some (.slice d.A d.g.l.length d.c) ∧ wx.cell? ⟨ga, 0, none⟩ = some (.int .u64 (L : Int)) ∧ wx.cell? ⟨ga, 1, none⟩ = some (.int .u8 (k.toNat : Int)) ∧ wx.cell? ⟨ga, 2, none⟩ = some (.string X) from fun wx hb => ⟨(HRW4.out.below hb HRW4.out.lt).cell 1, row_any (HR4.out.below hb HR4.out.lt)⟩)
        have hHeld := HK.out wq HQ4.out
        go_wp2_with fail
        refine wp_region_noPanic ?_
        refine wp_region_sch (fun wx => wx.cell? ⟨d.B, 1, none⟩ = some (.slice d.A d.g.l.length d.c) ∧ wx.cell? ⟨ga, 0, none⟩ = some (.int .u64 (L : Int)) ∧ wx.cell? ⟨ga, 1, none⟩ = some (.int .u8 (k.toNat : Int)) ∧ wx.cell? ⟨ga, 2, none⟩ = some (.string X)) (fun i => [6, 7, 8, 9, 10].contains i)
          (.takes [0, 1, 2, 3, 4, 5] (.run 6 (.run 7 (.run 8 (.run 9 (.run 10 .done)))))) (by kernel_rfl) (fun _ _ _ _ _ h => h) (by kernel_rfl) ?_
        rw [hwq]
        clear hwq
        iterate 6 (
          refine sch_takes_cons ?_
          first
            | (refine sch_take (v := ?_) rfl (by assumption) (by rfl) ?_ ?_; rotate_left; (focus (intro wy hSy; (try dsimp only at hSy); go_simp; (try with_reducible rfl))))
            | (refine sch_pass rfl (by assumption) (by rfl) ?_)
          simp only [Act.put, List.setIfInBounds_toArray, List.set_cons_zero, List.set_cons_succ])
        refine sch_takes_nil ?_
        refine sch_run rfl (fun K hK => ?_)
        go_simp
        obtain ⟨w5, hw5⟩ : ∃ w5, wq.alloc (.cells #[.int .u64 (L : Int), .int .u8 (k.toNat : Int), .string X] 48) = w5 := ⟨_, rfl⟩
        have HB5 := Lib.hid (show Below w4.heap.size w4 w5 from hw5 ▸ HQ4.out.alloc HQ4.out.size _)
        have HN5 := Lib.hid (show ∀ j u, (entC ⟨L, k, x⟩)[j]? = some u → w5.cell? ((⟨wq.heap.size, 0, none⟩ : Addr).add j) = some u from hw5 ▸ HNEW.out wq)
        have HO5 := Lib.hid (HOW4.out.keeps HB5.out)
        rw [hw5]
        clear hw5
        have hHeld := HK.out w5 HB5.out
        refine hK.out _ _ (fun _ => hHeld) ?_
        clear hK K
        try simp only [Act.put, List.setIfInBounds_toArray, List.set_cons_zero, List.set_cons_succ]
        refine sch_run rfl (fun K hK => ?_)
        refine step_entO rfl (.tmp 48) (.tmp 50) rfl (A := d.A) (l := d.g.l) (c := d.c) rfl HO5.out ⟨L, k, x⟩ ⟨wq.heap.size, 0, none⟩ 1 rfl HN5.out hcount ?_
        intro g o c' w6 hown hg hgg
        obtain ⟨⟨p1, p2⟩, ⟨p3, p4⟩, p5⟩ := HP3.out w5 w6 g o c' HB5.out hown hg hgg
        have HE6 := Lib.hid (HY2.out _ p5)
        have HR6 := Lib.hid ((HR4.out.below HB5.out HR4.out.lt).only ((Only.refl (fun k => blk d.A = some k) w5).grown hg (fun k hk => hk)) (fun e => by have := HAM.out _ e; have := HGA.out; omega))
        clear hown hg hgg p5
        have hHeld := And.intro p1 (row_any HR6.out)
        refine hK.out _ _ (fun _ => hHeld) ?_
        clear hK K
        try simp only [Act.put, List.setIfInBounds_toArray, List.set_cons_zero, List.set_cons_succ]
        refine sch_run rfl (fun K hK => ?_)
        go_simp
        refine hK.out _ _ (fun _ => hHeld) ?_
        clear hK K
        try simp only [Act.put, List.setIfInBounds_toArray, List.set_cons_zero, List.set_cons_succ]
        refine sch_run rfl (fun K hK => ?_)
        go_simp
        refine hK.out _ _ (fun _ => hHeld) ?_
        clear hK K
        try simp only [Act.put, List.setIfInBounds_toArray, List.set_cons_zero, List.set_cons_succ]
        refine sch_last rfl (by kernel_rfl) (fun K hK => ?_)
        go_simp
        have HR7 := Lib.hid (HR6.out.far (p := ⟨d.B, 1, none⟩) (fun e => HI4.out e.symm) (.slice (some ⟨g, o, none⟩) (d.g.l.length + 1) c'))
        obtain ⟨w7, hw7⟩ : ∃ w7, w6.setCell ⟨d.B, 1, none⟩ (.slice (some ⟨g, o, none⟩) (d.g.l.length + 1) c') = w7 := ⟨_, rfl⟩
        rw [hw7] at HR7 HE6 p3 p4 ⊢
        refine hK.out _ _ ?_
        clear hK K
        try simp only [Act.put, List.setIfInBounds_toArray, List.set_cons_zero, List.set_cons_succ]
        refine sch_done ?_
        refine NoPanic.normal ?_
        have q0 := (row_any HR7.out).1
        have HR8 := Lib.hid (HR7.out.far (p := ⟨d.B, 2, none⟩) (fun e => HI4.out e.symm) (.int .u64 (L : Int)))
        have q8 := (row_any HR8.out).1
        clear hHeld HR8 HR7 HR6 p1 p2
        go_wp2
        exact HE6.out
      · rw [if_neg (fun hh => hc (hfc.1 hh))] at HAP3
        have hnf : ¬ d.t.s.fits t := fun hh => hc (hfc.1 hh)
        have HN2 := Lib.hid (HNO.out hc w3)
        clear HNO HYE HPUT hfc hlt hc
        go_wp2_with fail
        refine HAP3.out.mono ?_
        rintro e w4 ⟨t', rfl, hA, hst, hin, ho, hm⟩
        have HE := Lib.hid (HN2.out t' w4 HB3.out hA (hst.trans (if_neg hnf)) hin ho hm)
        clear hA hst hin ho hm HN2 HAP3
        go_wp2
        exact HE.out
  · go_simp
    obtain ⟨wa, hwa⟩ : ∃ wa, wd.alloc (.cells #[.int .u64 0, .int .u8 0, .string ⟨#[]⟩] 48) = wa := ⟨_, rfl⟩
    have HBA := Lib.hid (show Below w.heap.size w wa from hwa ▸ HBD.out.alloc HBD.out.size _)
    have HRA := Lib.hid (show Row wa wd.heap.size 48 [.int .u64 0, .int .u8 0, .string ⟨#[]⟩] (0, 0) from hwa ▸ ent_new wd _)
    have HGA := Lib.hid (show w.heap.size ≤ wd.heap.size from HBD.out.size)
    obtain ⟨ga, hga⟩ : ∃ ga, wd.heap.size = ga := ⟨_, rfl⟩
    rw [hwa]
    rw [hga] at HRA HGA ⊢
    clear hwa hga
    have hHeld := HC2.out _ HBA.out
    refine hK.out _ _ (fun _ => hHeld) ?_
    clear hK K
    change wpSch _ _ _ _ _ _ (.run 7 (.takes [8] (.run 10 .done))) _ _
    try simp only [Act.put, List.setIfInBounds_toArray, List.set_cons_zero, List.set_cons_succ]
    refine sch_run rfl (fun K hK => ?_)
    go_simp
    with_reducible refine (HCL.out _).mono ?_
    rintro e w2 ⟨rfl, hb2⟩
    have HB2 := Lib.hid (HBA.out.trans (hb2.mono HBA.out.size))
    have HR2 := Lib.hid (HRA.out.below hb2 HRA.out.lt)
    clear hb2
    have hHeld := HC2.out _ HB2.out
    try dsimp only
    refine hK.out _ _ (fun _ => hHeld) ?_
    clear hK K
    try simp only [Act.put, List.setIfInBounds_toArray, List.set_cons_zero, List.set_cons_succ]
    refine sch_takes_cons ?_
    first
      | (refine sch_take (v := ?_) rfl (by assumption) (by rfl) ?_ ?_; rotate_left; (focus (intro wy hSy; (try dsimp only at hSy); go_simp; (try with_reducible rfl))))
      | (refine sch_pass rfl (by assumption) (by rfl) ?_)
    simp only [Act.put, List.setIfInBounds_toArray, List.set_cons_zero, List.set_cons_succ]
    refine sch_takes_nil ?_
    refine sch_run rfl (fun K hK => ?_)
    obtain ⟨z0, z1, z2⟩ := row_any HR2.out
    have y0 := HR2.out.loose 0
    have y1 := HR2.out.loose 1
    have y2 := HR2.out.loose 2
    go_simp
    obtain ⟨ws, hws⟩ : ∃ ws, ((w2.setCell ⟨ga, 0, none⟩ (.int .u64 (L : Int))).setCell ⟨ga, 1, none⟩ (.int .u8 (k.toNat : Int))).setCell ⟨ga, 2, none⟩ (.string X) = ws := ⟨_, rfl⟩
    have HRS := Lib.hid (show Row ws ga 48 [.int .u64 (L : Int), .int .u8 (k.toNat : Int), .string X] (0, 0) from hws ▸ ((HR2.out.put 0 _).put 1 _).put 2 _)
    have HBS := Lib.hid (show Below w.heap.size w ws from hws ▸ ((HB2.out.setCell HGA.out _).setCell HGA.out _).setCell HGA.out _)
    rw [hws]
    have hHeld := HC2.out _ HBS.out
    clear hws z0 z1 z2 y0 y1 y2
    refine hK.out _ _ (fun _ => hHeld) ?_
    clear hK K
    try simp only [Act.put, List.setIfInBounds_toArray, List.set_cons_zero, List.set_cons_succ]
    refine sch_done ?_
    refine NoPanic.normal ?_
    clear hHeld HCL HC2
    obtain ⟨s0, s1, s2⟩ := row_any HRS.out
    go_wp2_with fail
    refine (HBY.out ws HBS.out).mono ?_
    rintro e w3 ⟨rfl, hb3⟩
    have HR3 := Lib.hid (HRS.out.below hb3 HRS.out.lt)
    have HB3 := Lib.hid (HBS.out.trans (hb3.mono HBS.out.size))
    have r0 := HR3.out.cell 0
    simp only [List.getElem?_cons_zero] at r0
    clear hb3 HRS HBS HBY s0 s1 s2
    by_cases hlt : 281474976710656 < L
    · have HE := Lib.hid (HNO0.out (fun hc => by have := hc.2.1; have := HLL.out; omega) w3 HB3.out)
      have hltI : (281474976710656 : Int) < (L : Int) := by omega
      clear HNO0 HNO HYE HPUT HFIT HAP hlt HLL
      go_wp2
      exact HE.out
    · have hltI : ¬ (281474976710656 : Int) < (L : Int) := by omega
      have hfc := HFIT.out (by have := HLL.out; omega)
      have HAP3 := Lib.hid (HAP.out w3 HB3.out)
      have c0 := HC0.out w3 HB3.out
      clear HFIT HAP HNO0 HC0
      by_cases hc : d.g.can x
      · rw [if_pos (hfc.2 hc)] at HAP3
        have HP2 := Lib.hid (HPUT.out hc w3)
        have HY2 := Lib.hid (HYE.out hc)
        clear HNO HPUT HYE hfc hlt hc
        go_wp2_with fail
        refine HAP3.out.mono ?_
        rintro e w4 ⟨t', rfl, hA, hst, hin, ho, hm⟩
        have HP3 := Lib.hid (fun w5 w6 g o c' hb5 hown hg hgg => HP2.out w4 w5 w6 g o c' HB3.out t' hA hst hin ho hm hb5 hown hg hgg)
        have HR4 := Lib.hid (HR3.out.only ho (fun hk => by have := HTM.out _ hk; have := HGA.out; omega))
        have HI4 := Lib.hid (show d.B ≠ ga from fun e => by have := HBM.out; have := HGA.out; omega)
        have row4 := (HIN.out.keeps HB3.out).row.only ho HIN.out.bt
        have own4 := (HIN.out.keeps HB3.out).own.only ho HIN.out.ta
        have HRW4 := Lib.hid row4
        have HOW4 := Lib.hid own4
        clear hA hst hin ho hm row4 own4 HP2 HAP3 c0 r0
        obtain ⟨wq, hwq⟩ : ∃ wq, w4.drew = wq := ⟨_, rfl⟩
        have HQ4 := Lib.hid (show Below w4.heap.size w4 wq from hwq ▸ (Below.refl _ _).drew)
        have HK := Lib.hid (show ∀ wx, Below w4.heap.size w4 wx → wx.cell? ⟨d.B, 1, none⟩ = some (.slice d.A d.g.l.length d.c) ∧ wx.cell? ⟨ga, 0, none⟩ = some (.int .u64 (L : Int)) ∧ wx.cell? ⟨ga, 1, none⟩ = some (.int .u8 (k.toNat : Int)) ∧ wx.cell? ⟨ga, 2, none⟩ = some (.string X) from fun wx hb => ⟨(HRW4.out.below hb HRW4.out.lt).cell 1, row_any (HR4.out.below hb HR4.out.lt)⟩)
        have hHeld := HK.out wq HQ4.out
        go_wp2_with fail
        refine wp_region_noPanic ?_
        refine wp_region_sch (fun wx => wx.cell? ⟨d.B, 1, none⟩ = some (.slice d.A d.g.l.length d.c) ∧ wx.cell? ⟨ga, 0, none⟩ = some (.int .u64 (L : Int)) ∧ wx.cell? ⟨ga, 1, none⟩ = some (.int .u8 (k.toNat : Int)) ∧ wx.cell? ⟨ga, 2, none⟩ = some (.string X)) (fun i => [6, 7, 8, 9, 10].contains i)
          (.takes [0, 1, 2, 3, 4, 5] (.run 6 (.run 7 (.run 8 (.run 9 (.run 10 .done)))))) (by kernel_rfl) (fun _ _ _ _ _ h => h) (by kernel_rfl) ?_
        rw [hwq]
        clear hwq
        iterate 6 (
          refine sch_takes_cons ?_
          first
            | (refine sch_take (v := ?_) rfl (by assumption) (by rfl) ?_ ?_; rotate_left; (focus (intro wy hSy; (try dsimp only at hSy); go_simp; (try with_reducible rfl))))
            | (refine sch_pass rfl (by assumption) (by rfl) ?_)
          simp only [Act.put, List.setIfInBounds_toArray, List.set_cons_zero, List.set_cons_succ])
        refine sch_takes_nil ?_
        refine sch_run rfl (fun K hK => ?_)
        go_simp
        obtain ⟨w5, hw5⟩ : ∃ w5, wq.alloc (.cells #[.int .u64 (L : Int), .int .u8 (k.toNat : Int), .string X] 48) = w5 := ⟨_, rfl⟩
        have HB5 := Lib.hid (show Below w4.heap.size w4 w5 from hw5 ▸ HQ4.out.alloc HQ4.out.size _)
        have HN5 := Lib.hid (show ∀ j u, (entC ⟨L, k, x⟩)[j]? = some u → w5.cell? ((⟨wq.heap.size, 0, none⟩ : Addr).add j) = some u from hw5 ▸ HNEW.out wq)
        have HO5 := Lib.hid (HOW4.out.keeps HB5.out)
        rw [hw5]
        clear hw5
        have hHeld := HK.out w5 HB5.out
        refine hK.out _ _ (fun _ => hHeld) ?_
        clear hK K
        try simp only [Act.put, List.setIfInBounds_toArray, List.set_cons_zero, List.set_cons_succ]
        refine sch_run rfl (fun K hK => ?_)
        refine step_entO rfl (.tmp 48) (.tmp 50) rfl (A := d.A) (l := d.g.l) (c := d.c) rfl HO5.out ⟨L, k, x⟩ ⟨wq.heap.size, 0, none⟩ 1 rfl HN5.out hcount ?_
        intro g o c' w6 hown hg hgg
        obtain ⟨⟨p1, p2⟩, ⟨p3, p4⟩, p5⟩ := HP3.out w5 w6 g o c' HB5.out hown hg hgg
        have HE6 := Lib.hid (HY2.out _ p5)
        have HR6 := Lib.hid ((HR4.out.below HB5.out HR4.out.lt).only ((Only.refl (fun k => blk d.A = some k) w5).grown hg (fun k hk => hk)) (fun e => by have := HAM.out _ e; have := HGA.out; omega))
        clear hown hg hgg p5
        have hHeld := And.intro p1 (row_any HR6.out)
        refine hK.out _ _ (fun _ => hHeld) ?_
        clear hK K
        try simp only [Act.put, List.setIfInBounds_toArray, List.set_cons_zero, List.set_cons_succ]
        refine sch_run rfl (fun K hK => ?_)
        go_simp
        refine hK.out _ _ (fun _ => hHeld) ?_
        clear hK K
        try simp only [Act.put, List.setIfInBounds_toArray, List.set_cons_zero, List.set_cons_succ]
        refine sch_run rfl (fun K hK => ?_)
        go_simp
        refine hK.out _ _ (fun _ => hHeld) ?_
        clear hK K
        try simp only [Act.put, List.setIfInBounds_toArray, List.set_cons_zero, List.set_cons_succ]
        refine sch_last rfl (by kernel_rfl) (fun K hK => ?_)
        go_simp
        have HR7 := Lib.hid (HR6.out.far (p := ⟨d.B, 1, none⟩) (fun e => HI4.out e.symm) (.slice (some ⟨g, o, none⟩) (d.g.l.length + 1) c'))
        obtain ⟨w7, hw7⟩ : ∃ w7, w6.setCell ⟨d.B, 1, none⟩ (.slice (some ⟨g, o, none⟩) (d.g.l.length + 1) c') = w7 := ⟨_, rfl⟩
        rw [hw7] at HR7 HE6 p3 p4 ⊢
        refine hK.out _ _ ?_
        clear hK K
        try simp only [Act.put, List.setIfInBounds_toArray, List.set_cons_zero, List.set_cons_succ]
        refine sch_done ?_
        refine NoPanic.normal ?_
        have q0 := (row_any HR7.out).1
        have HR8 := Lib.hid (HR7.out.far (p := ⟨d.B, 2, none⟩) (fun e => HI4.out e.symm) (.int .u64 (L : Int)))
        have q8 := (row_any HR8.out).1
        clear hHeld HR8 HR7 HR6 p1 p2
        go_wp2
        exact HE6.out
      · rw [if_neg (fun hh => hc (hfc.1 hh))] at HAP3
        have hnf : ¬ d.t.s.fits t := fun hh => hc (hfc.1 hh)
        have HN2 := Lib.hid (HNO.out hc w3)
        clear HNO HYE HPUT hfc hlt hc
        go_wp2_with fail
        refine HAP3.out.mono ?_
        rintro e w4 ⟨t', rfl, hA, hst, hin, ho, hm⟩
        have HE := Lib.hid (HN2.out t' w4 HB3.out hA (hst.trans (if_neg hnf)) hin ho hm)
        clear hA hst hin ho hm HN2 HAP3
        go_wp2
        exact HE.out
end
end Go.Proofs.YtjahkaockjhibaaDoor
