/-
  The walks over package fabric, part D: one message more.
-/
import Derived.Test.YtamanckcnhhaiaaFabFind
import Derived.Test.YtamanckcnhhaiaaFabClone
namespace Go.Proofs.Ytamanckcnhhaiaa
open Go.RowKit

/-- A message, as a value. -/
def mV (x : MB) : Value := .agg #[.int .i64 x.1.1, .int .i64 x.1.2, .string x.2]

set_option maxRecDepth 100000 in
theorem step_ms {A : Option Addr} {l : List MB} {c : Nat} {w : World} {ops : Array Oper} {o : Oper} {a : Act} {K : Act → World → Prop} {Q : Exit → Act → World → Prop} {E : Prop} (hgd : o.guard = none) (sl x : Operand)
    (ho : o.op = .call { callee := .builtin .append, args := #[sl, x], argTypes := #[38, 38] }) (n : Nat) (hn : l.length = n) (hs : a.eval sl = .slice A n c) (hb : MsO w A l c) (y : MB) (ad : Addr) (c2 : Nat) (hx : a.eval x = .slice (some ad) 1 c2)
    (hnews : ∀ j u, (mC y)[j]? = some u → w.cell? (ad.add j) = some u) (hle : l.length ≤ 1000000)
    (h : ∀ g c' w', MsO w' (some ⟨g, 0, none⟩) (l ++ [y]) c' → w.grownBy w' (blk A) → (blk A = some g ∨ w.heap.size ≤ g) → K (a.put o.dst (.slice (some ⟨g, 0, none⟩) (n + 1) c')) w') :
    if Region.wanted o (yielded ops a.tmps) = true then Oper.wp Try.prog o a w K Q else E := by
  subst hn
  have hw : Region.wanted o (yielded ops a.tmps) = true := by simp [Region.wanted, hgd]
  rw [if_pos hw]
  obtain ⟨g, c', w', hr, h2, h3, h4⟩ := hb.append y ad c2 hnews o.type hle
  unfold Oper.wp execOp
  simp only [ho, resolve, invoke, builtin, Sem.run_bind, Sem.run_pure, Result.andThen_ok, List.map_toArray, List.map_cons, List.map_nil, hs, hx, hr]
  exact h g c' w' h2 h3 h4

theorem row_msg {w : World} {g : Nat} {x y z : Value} (h : Row w g 44 [x, y, z] (0, 0)) : w.cell? ⟨g, 0, none⟩ = some x ∧ w.cell? ⟨g, 1, none⟩ = some y ∧ w.cell? ⟨g, 2, none⟩ = some z := ⟨h.cell 0, h.cell 1, h.cell 2⟩

/-- The new row is laid into the fabric. -/
theorem put_ms {d : FV} {w w5 w6 : World} {x : MB} {g c' : Nat} (h : d.In w) (hb : Below w.heap.size w w5) (hown : MsO w6 (some ⟨g, 0, none⟩) (d.l ++ [x]) c') (hg : w5.grownBy w6 (blk d.A)) (hgg : blk d.A = some g ∨ w5.heap.size ≤ g) (v : Value) :
    (w6.cell? ⟨d.b, 1, none⟩ = some (.slice d.A d.l.length d.c) ∧ w6.frozen? ⟨d.b, 1, none⟩ = false) ∧
    d.Turned w (d.l ++ [x]) v (.returned v) (w6.setCell ⟨d.b, 1, none⟩ (.slice (some ⟨g, 0, none⟩) (d.l.length + 1) c')) := by
  have k5 := h.keeps hb
  have o6 : Only (fun k => blk d.A = some k) w5 w6 := (Only.refl _ w5).grown hg (fun k hk => hk)
  have row6 := k5.box.only o6 (fun e => h.ne e rfl)
  have hgb : g ≠ d.b := by
    obtain ⟨cs, hr⟩ := hown.at_block g rfl
    exact hr.ne_ row6 (by decide)
  have o7 : Only (· = d.b) w6 (w6.setCell ⟨d.b, 1, none⟩ (.slice (some ⟨g, 0, none⟩) (d.l.length + 1) c')) := (Only.refl (· = d.b) w6).setCell (p := ⟨d.b, 1, none⟩) rfl _
  refine ⟨⟨row6.cell 1, row6.loose 1⟩, ⟨d.b, some ⟨g, 0, none⟩, c', d.l ++ [x]⟩, rfl, rfl, rfl, ⟨?_, ?_⟩, ?_, ?_⟩
  · have := row6.put 1 (.slice (some ⟨g, 0, none⟩) (d.l.length + 1) c')
    show Row _ d.b _ [.bool true, .slice (some ⟨g, 0, none⟩) (d.l ++ [x]).length c'] (0, 0)
    rw [List.length_append]
    exact this
  · exact hown.only o7 fun k hk => by injection hk with hk; subst hk; exact hgb
  · have a5 : Only d.mine w w5 := Only.below hb _
    have a6 : Only d.mine w w6 := a5.then o6 (fun k _ hk => .inr hk)
    exact a6.then o7 (fun k _ hk => .inl hk)
  · rintro k (rfl | hk)
    · exact .inl (.inl rfl)
    · injection hk with hk
      subst hk
      rcases hgg with e | e
      · exact .inl (.inr e)
      · exact .inr (Nat.le_trans hb.size e)

/-- What one message more makes. -/
def addL (l : List MB) (x : MB) : List MB := if (qu l x.1).length < 64 then l ++ [x] else l
def addE (l : List MB) (x : MB) : Int := if (qu l x.1).length < 64 then 0 else 6

set_option maxRecDepth 100000 in
set_option maxHeartbeats 4000000 in
theorem add_any (d : FV) (x : MB) (w : World) (h : d.In w) (hL : d.l.length ≤ 100000) : Calls Try.prog 13 #[d.ptr, mV x] w (d.Turned w (addL d.l x) (.int .i64 (addE d.l x))) := by
  obtain ⟨o, ho⟩ : ∃ o, w.alloc (.cells #[.int .i64 x.1.1, .int .i64 x.1.2, .string x.2] 44) = o := ⟨_, rfl⟩
  have HBo := Lib.hid (show Below w.heap.size w o from ho ▸ (Below.refl _ w).alloc (Nat.le_refl _) _)
  obtain ⟨S, hS⟩ : ∃ S, w.heap.size = S := ⟨_, rfl⟩
  have HRo := Lib.hid (show Row o S 44 [.int .i64 x.1.1, .int .i64 x.1.2, .string x.2] (0, 0) from hS ▸ ho ▸ Row.new w 44 [.int .i64 x.1.1, .int .i64 x.1.2, .string x.2] (0, 0))
  have HC := Lib.hid (count_any d x.1 o (h.keeps HBo.out) (by omega))
  have HIN := Lib.hid h
  have HNEW := Lib.hid (show ∀ wq : World, ∀ j u, (mC x)[j]? = some u → (wq.alloc (.cells #[.int .i64 x.1.1, .int .i64 x.1.2, .string x.2] 44)).cell? ((⟨wq.heap.size, 0, none⟩ : Addr).add j) = some u from fun wq j u hu => by
    have hr := Row.new wq 44 [.int .i64 x.1.1, .int .i64 x.1.2, .string x.2] (0, 0)
    rw [Addr.add_lit, hr.cell, Nat.zero_add]
    exact hu)
  have HPUT := Lib.hid (fun w5 w6 g c' hb hown hg hgg => put_ms (x := x) (w5 := w5) (w6 := w6) (g := g) (c' := c') h hb hown hg hgg (.int .i64 0))
  obtain ⟨Q, hQ⟩ : ∃ Q, d.Turned w (addL d.l x) (.int .i64 (addE d.l x)) = Q := ⟨_, rfl⟩
  rw [hQ]
  have HNO := Lib.hid (show ¬ (qu d.l x.1).length < 64 → ∀ w', Below w.heap.size w w' → Q (.returned (.int .i64 6)) w' from fun hc w' hb => by
    rw [← hQ]; unfold addL addE; rw [if_neg hc, if_neg hc]; exact FV.Turned.same h hb _)
  have HYE := Lib.hid (show (qu d.l x.1).length < 64 → ∀ w', d.Turned w (d.l ++ [x]) (.int .i64 0) (.returned (.int .i64 0)) w' → Q (.returned (.int .i64 0)) w' from fun hc w' ht => by
    rw [← hQ]; unfold addL addE; rw [if_pos hc, if_pos hc]; exact ht)
  obtain ⟨n, hn⟩ : ∃ n, (qu d.l x.1).length = n := ⟨_, rfl⟩
  rw [hn] at HC HNO HYE
  have HLN := Lib.hid (show d.l.length ≤ 1000000 by omega)
  obtain ⟨⟨mf, mt⟩, ms⟩ := x
  unfold mV
  unfold wayV at HC
  simp only at ho HRo HC HNEW ⊢
  unfold FV.ptr at HC ⊢
  obtain ⟨r0, r1, r2⟩ := row_msg HRo.out
  clear h hQ hn hL
  by_cases h64 : n < 64
  · have hnI : ¬ (64 : Int) ≤ (n : Int) := by omega
    have HY2 := Lib.hid (HYE.out h64)
    clear HNO HYE h64
    go_enter Try.func13, Try.ntmps13
    go_wp2_with (go_at_call 17; refine HC.out.mono ?_; rintro e w1 ⟨rfl, hb1⟩; have HB1 := Lib.hid hb1; clear hb1)
    obtain ⟨wd, hwd⟩ : ∃ wd, w1.drew = wd := ⟨_, rfl⟩
    have HBD := Lib.hid (show Below o.heap.size o wd from hwd ▸ below_drew HB1.out)
    have HK := Lib.hid (show ∀ wx, Below o.heap.size o wx → wx.cell? ⟨d.b, 1, none⟩ = some (.slice d.A d.l.length d.c) ∧ wx.cell? ⟨S, 0, none⟩ = some (.int .i64 mf) ∧ wx.cell? ⟨S, 1, none⟩ = some (.int .i64 mt) ∧ wx.cell? ⟨S, 2, none⟩ = some (.string ms) from fun wx hb => ⟨(HIN.out.keeps (HBo.out.trans (hb.mono HBo.out.size))).c1, row_msg (HRo.out.below hb HRo.out.lt)⟩)
    have hHeld := HK.out wd HBD.out
    clear HC ho r0 r1 r2
    refine wp_region_noPanic ?_
    refine wp_region_sch (fun wx => wx.cell? ⟨d.b, 1, none⟩ = some (.slice d.A d.l.length d.c) ∧ wx.cell? ⟨S, 0, none⟩ = some (.int .i64 mf) ∧ wx.cell? ⟨S, 1, none⟩ = some (.int .i64 mt) ∧ wx.cell? ⟨S, 2, none⟩ = some (.string ms)) (fun i => [6, 7, 8, 9, 10].contains i)
      (.takes [0, 1, 2, 3, 4, 5] (.run 6 (.run 7 (.run 8 (.run 9 (.run 10 .done)))))) (by kernel_rfl) (fun _ _ _ _ _ h => h) (by kernel_rfl) ?_
    rw [hwd]
    clear hwd
    iterate 6 (
      refine sch_takes_cons ?_
      first
        | (refine sch_take (v := ?_) rfl (by assumption) (by rfl) ?_ ?_; rotate_left; (focus (intro wy hSy; (try dsimp only at hSy); go_simp; (try with_reducible rfl))))
        | (refine sch_pass rfl (by assumption) (by rfl) ?_)
      simp only [Act.put, List.setIfInBounds_toArray, List.set_cons_zero, List.set_cons_succ])
    refine sch_takes_nil ?_
    refine sch_run rfl (fun K hK => ?_)
    go_simp
    obtain ⟨w5, hw5⟩ : ∃ w5, wd.alloc (.cells #[.int .i64 mf, .int .i64 mt, .string ms] 44) = w5 := ⟨_, rfl⟩
    have HB5 := Lib.hid (show Below o.heap.size o w5 from hw5 ▸ HBD.out.alloc HBD.out.size _)
    have HN5 := Lib.hid (show ∀ j u, (mC ((mf, mt), ms))[j]? = some u → w5.cell? ((⟨wd.heap.size, 0, none⟩ : Addr).add j) = some u from hw5 ▸ HNEW.out wd)
    have HO5 := Lib.hid ((HIN.out.keeps (HBo.out.trans (HB5.out.mono HBo.out.size))).ms)
    rw [hw5]
    clear hw5
    have hHeld := HK.out w5 HB5.out
    refine hK.out _ _ (fun _ => hHeld) ?_
    clear hK K
    try simp only [Act.put, List.setIfInBounds_toArray, List.set_cons_zero, List.set_cons_succ]
    refine sch_run rfl (fun K hK => ?_)
    refine step_ms rfl (.tmp 14) (.tmp 16) rfl (A := d.A) (l := d.l) (c := d.c) d.l.length rfl rfl HO5.out ((mf, mt), ms) ⟨wd.heap.size, 0, none⟩ 1 rfl HN5.out HLN.out ?_
    intro g c' w6 hown hg hgg
    obtain ⟨⟨p1, p2⟩, p5⟩ := HPUT.out w5 w6 g c' (HBo.out.trans (HB5.out.mono HBo.out.size)) hown hg hgg
    have HE6 := Lib.hid (HY2.out _ p5)
    have hHeld := And.intro p1 (row_msg ((HRo.out.below HB5.out HRo.out.lt).grown hg (fun e => by have := HIN.out.ms.lt S e.symm; omega)))
    clear hown hg hgg p5
    refine hK.out _ _ (fun _ => hHeld) ?_
    clear hK K
    try simp only [Act.put, List.setIfInBounds_toArray, List.set_cons_zero, List.set_cons_succ]
    refine sch_run rfl (fun K hK => ?_)
    go_simp
    refine hK.out _ _ (fun _ => hHeld) ?_
    clear hK K
    try simp only [Act.put, List.setIfInBounds_toArray, List.set_cons_zero, List.set_cons_succ]
    refine sch_run rfl (fun K hK => ?_)
    go_simp
    refine hK.out _ _ (fun _ => hHeld) ?_
    clear hK K
    try simp only [Act.put, List.setIfInBounds_toArray, List.set_cons_zero, List.set_cons_succ]
    refine sch_last rfl (by kernel_rfl) (fun K hK => ?_)
    go_simp
    refine hK.out _ _ ?_
    clear hK K
    try simp only [Act.put, List.setIfInBounds_toArray, List.set_cons_zero, List.set_cons_succ]
    refine sch_done ?_
    refine NoPanic.normal ?_
    clear hHeld p1 p2 HK HPUT
    go_wp2
    exact HE6.out
  · have hnI : (64 : Int) ≤ (n : Int) := by omega
    have HN2 := Lib.hid (HNO.out h64)
    clear HNO HYE h64 HNEW HPUT
    go_enter Try.func13, Try.ntmps13
    go_wp2_with (go_at_call 17; refine HC.out.mono ?_; rintro e w1 ⟨rfl, hb1⟩; have HB1 := Lib.hid hb1; clear hb1)
    exact HN2.out _ (HBo.out.trans (HB1.out.mono HBo.out.size))
end Go.Proofs.Ytamanckcnhhaiaa
