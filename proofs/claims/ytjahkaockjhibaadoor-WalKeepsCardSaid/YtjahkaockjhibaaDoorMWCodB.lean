/-
  The code's log: Force, Trim.
-/
import Derived.Test.YtjahkaockjhibaaDoorMWCodA
namespace Go.Proofs.YtjahkaockjhibaaDoor
open Go.RowKit

/-- What a call that turns it does; F: what it may turn. -/
def WV.Turned (d : WV) (F : Nat → Prop) (w : World) (g' : LG) (a : Value) (e : Ending) (w' : World) : Prop :=
  ∃ d' : WV, e = .returned a ∧ d'.B = d.B ∧ d'.t.A = d.t.A ∧ d'.g = g' ∧ d'.In w' ∧ Only F w w' ∧ ∀ k, d'.mine k → d.mine k ∨ w.heap.size ≤ k

section
variable (d : WV) (w : World)
set_option maxRecDepth 100000 in
set_option maxHeartbeats 1000000 in
theorem wforce_any (h : d.In w) : Calls Tryd.prog 20 #[d.ptr] w (d.Turned d.hard w d.g.force (.int .i64 0)) := by
  have HN := Lib.hid (wnone_any d w h)
  have c2 := h.c2
  have c3 := h.c3
  have f3 := h.free 3
  have hone : Only (· = d.B) w (w.setCell ⟨d.B, 3, none⟩ (.int .u64 (d.g.last : Int))) := (Only.refl (· = d.B) w).setCell (p := ⟨d.B, 3, none⟩) rfl _
  have ht1 : d.t.In (w.setCell ⟨d.B, 3, none⟩ (.int .u64 (d.g.last : Int))) := h.tape.only hone (fun k hk e => h.bt (e ▸ hk))
  have HT := Lib.hid (force_any d.t _ ht1)
  have k0 : (w.setCell ⟨d.B, 3, none⟩ (.int .u64 (d.g.last : Int))).cell? ⟨d.B, 0, none⟩ = some (.pointer (some ⟨d.t.A, 0, none⟩)) := (h.row.put 3 _).cell 0
  have HF := Lib.hid (show ∀ e w2, d.t.Turned (w.setCell ⟨d.B, 3, none⟩ (.int .u64 (d.g.last : Int))) d.t.s.force (.int .i64 0) e w2 → e = .returned (.int .i64 0) ∧ d.Turned d.hard w d.g.force (.int .i64 0) (.returned (.int .i64 0)) w2 from fun e w2 ⟨t', he, hA, hs, hin, ho, hm⟩ => by
    have hr := (h.row.put 3 (.int .u64 (d.g.last : Int))).only ho h.bt
    refine ⟨he, ⟨d.B, t', d.A, d.c, d.g.force⟩, rfl, rfl, hA, rfl, ⟨?_, hin, by rw [hs, h.st]; rfl, ?_, h.ok.force⟩, ?_, ?_⟩
    · show Row w2 d.B _ [.pointer (some ⟨t'.A, 0, none⟩), _, _, _] (0, 0)
      rw [hA]; exact hr
    · exact (h.own.only hone h.ba).only ho h.ta
    · exact (hone.imp (fun k _ hk => .inl hk)).trans (ho.imp fun k _ hk => .inr hk)
    · rintro k ((rfl | hk) | hk)
      · exact .inl (.inl (.inl rfl))
      · rcases hm k hk with h1 | h1
        · exact .inl (.inl (.inr h1))
        · exact .inr (by simpa [World.setCell] using h1)
      · exact .inl (.inr hk))
  obtain ⟨P, hP⟩ : ∃ P, d.Turned d.hard w d.g.force (.int .i64 0) = P := ⟨_, rfl⟩
  simp only [hP] at HF ⊢
  clear hP h hone ht1
  unfold TV.ptr at HT
  unfold WV.ptr at HN ⊢
  go_enter Tryd.func20, Tryd.ntmps20
  go_wp2_with fail
  refine HN.out.mono ?_
  rintro e w1 ⟨rfl, rfl⟩
  go_wp2_with fail
  refine HT.out.mono ?_
  intro e w2 ht
  obtain ⟨rfl, he⟩ := HF.out e w2 ht
  have HE := Lib.hid he
  clear ht he HF HT HN
  go_wp2
  exact HE.out
end

section
variable (t : TV) (w : World)
set_option maxRecDepth 100000 in
set_option maxHeartbeats 1000000 in
theorem wskip_any (n : Nat) (hn : n ≤ 100000000) (h : t.In w) : Calls Tryd.prog 53 #[.agg #[t.ptr], .int .i64 (n : Int)] w (t.Turned w (t.s.drop (t.s.base + n)) (.int .i64 (if t.s.drops (t.s.base + n) then 0 else 2))) := by
  have hba : t.s.base ≤ 100000000 := by have h1 := h.ok.small; unfold ST.fin at h1; omega
  have hw1 : IntKind.u64.wrap (n : Int) = (n : Int) := IntWalk.u64_in _ (by omega)
  have hw2 : IntKind.u64.wrap ((t.s.base : Int) + (n : Int)) = ((t.s.base + n : Nat) : Int) := by rw [IntWalk.u64_in _ (by omega)]; omega
  obtain ⟨p, hp⟩ : ∃ p, t.s.base + n = p := ⟨_, rfl⟩
  rw [hp] at hw2 ⊢
  obtain ⟨wa, hwa⟩ : ∃ wa, (w.alloc (.cells #[.pointer (some ⟨t.A, 0, none⟩)] 72)).drew = wa := ⟨_, rfl⟩
  have hb : Below w.heap.size w wa := hwa ▸ ((Below.refl _ _).alloc (Nat.le_refl _) _).drew
  have hrow : Row wa w.heap.size 72 [.pointer (some ⟨t.A, 0, none⟩)] (0, 0) := by
    have hr : Row (w.alloc (.cells #[.pointer (some ⟨t.A, 0, none⟩)] 72)) w.heap.size 72 [.pointer (some ⟨t.A, 0, none⟩)] (0, 0) := Row.new w _ [.pointer (some ⟨t.A, 0, none⟩)] (0, 0)
    exact hwa ▸ hr.below (Below.refl _ _).drew hr.lt
  have hHeld : wa.cell? ⟨w.heap.size, 0, none⟩ = some (.pointer (some ⟨t.A, 0, none⟩)) := hrow.cell 0
  have HB := Lib.hid (base_any (d := t) (w := wa) (h.keeps hb))
  have HD := Lib.hid (drop_any t p wa (h.keeps hb))
  have hlt := h.mineLt
  have HF := Lib.hid (show ∀ s' a e w2, t.Turned wa s' a e w2 → e = .returned a ∧ w2.cell? ⟨w.heap.size, 0, none⟩ = some (.pointer (some ⟨t.A, 0, none⟩)) ∧ t.Turned w s' a (.returned a) w2 from fun s' a e w2 ⟨t', he, h1, h2, h3, h4, h5⟩ => ⟨he, (hrow.only h4 (fun hk => Nat.lt_irrefl _ (hlt _ hk))).cell 0, t', rfl, h1, h2, h3, (Only.below hb t.mine).trans h4, fun k hk => (h5 k hk).imp id fun hh => Nat.le_trans hb.size hh⟩)
  obtain ⟨r, hr⟩ : ∃ r : Int, (if t.s.drops p then 0 else 2) = r := ⟨_, rfl⟩
  rw [hr] at HD ⊢
  obtain ⟨P, hP⟩ : ∃ P, t.Turned w (t.s.drop p) (.int .i64 r) = P := ⟨_, rfl⟩
  have HF2 := Lib.hid (HF.out (t.s.drop p) (.int .i64 r))
  simp only [hP] at HF2 ⊢
  clear hP h hb hrow HF hba hp hlt
  unfold TV.ptr at HB HD ⊢
  go_enter Tryd.func53, Tryd.ntmps53
  go_wp2_with fail
  refine wp_region_noPanic ?_
  refine wp_region_sch (fun wx => wx.cell? ⟨w.heap.size, 0, none⟩ = some (.pointer (some ⟨t.A, 0, none⟩))) (fun i => [4, 8].contains i)
    (.takes [0, 1, 2, 3, 5, 6] (.run 4 (.takes [7] (.run 8 (.takes [9] .done))))) (by kernel_rfl) (fun _ _ _ _ _ h => h) (by kernel_rfl) ?_
  rw [hwa]
  clear hwa
  iterate 6 (
    refine sch_takes_cons ?_
    first
      | (refine sch_take (v := ?_) rfl (by assumption) (by rfl) ?_ ?_; rotate_left; (focus (intro wy hSy; (try dsimp only at hSy); go_simp; (try with_reducible rfl))))
      | (refine sch_pass rfl (by assumption) (by rfl) ?_)
    simp only [Act.put, List.setIfInBounds_toArray, List.set_cons_zero, List.set_cons_succ])
  refine sch_takes_nil ?_
  refine sch_run rfl (fun K hK => ?_)
  go_simp
  with_reducible refine (HB.out).mono ?_
  rintro e w1 ⟨rfl, rfl⟩
  try dsimp only
  refine hK.out _ _ (fun _ => hHeld) ?_
  clear hK K
  try simp only [Act.put, List.setIfInBounds_toArray, List.set_cons_zero, List.set_cons_succ]
  refine sch_takes_cons ?_
  first
    | (refine sch_take (v := ?_) rfl (by assumption) (by rfl) ?_ ?_; rotate_left; (focus (intro wy hSy; (try dsimp only at hSy); go_simp; (try with_reducible rfl))))
    | (refine sch_pass rfl (by assumption) (by rfl) ?_)
  simp only [Act.put, List.setIfInBounds_toArray, List.set_cons_zero, List.set_cons_succ]
  refine sch_takes_nil ?_
  refine sch_run rfl (fun K hK => ?_)
  go_simp
  with_reducible refine (HD.out).mono ?_
  intro e w2 hd
  obtain ⟨rfl, hHeld, he⟩ := HF2.out e w2 hd
  have HE := Lib.hid he
  clear hd he HF2 HB HD
  try dsimp only
  refine hK.out _ _ (fun _ => hHeld) ?_
  clear hK K
  try simp only [Act.put, List.setIfInBounds_toArray, List.set_cons_zero, List.set_cons_succ]
  refine sch_takes_cons ?_
  first
    | (refine sch_take (v := ?_) rfl (by assumption) (by rfl) ?_ ?_; rotate_left; (focus (intro wy hSy; (try dsimp only at hSy); go_simp; (try with_reducible rfl))))
    | (refine sch_pass rfl (by assumption) (by rfl) ?_)
  simp only [Act.put, List.setIfInBounds_toArray, List.set_cons_zero, List.set_cons_succ]
  refine sch_takes_nil ?_
  refine sch_done ?_
  refine NoPanic.normal ?_
  go_wp2
  exact HE.out

set_option maxRecDepth 100000 in
set_option maxHeartbeats 1000000 in
theorem wsettle_any (n : Nat) (hn : n ≤ t.s.l.length) (h : t.In w) : Calls Tryd.prog 42 #[.agg #[t.ptr], .int .i64 (n : Int)] w (t.Turned w (t.s.shorten (t.s.base + n)).force (.int .i64 0)) := by
  have hba : t.s.base + n ≤ 100000000 := by have h1 := h.ok.small; unfold ST.fin at h1; omega
  have hcu : t.s.cuts (t.s.base + n) := ⟨Nat.le_add_right _ _, by unfold ST.fin; omega⟩
  have hw1 : IntKind.u64.wrap (n : Int) = (n : Int) := IntWalk.u64_in _ (by omega)
  have hw2 : IntKind.u64.wrap ((t.s.base : Int) + (n : Int)) = ((t.s.base + n : Nat) : Int) := by rw [IntWalk.u64_in _ (by omega)]; omega
  have hcut : t.s.cut (t.s.base + n) = t.s.shorten (t.s.base + n) := if_pos hcu
  obtain ⟨p, hp⟩ : ∃ p, t.s.base + n = p := ⟨_, rfl⟩
  rw [hp] at hw2 hcu hcut ⊢
  obtain ⟨wa, hwa⟩ : ∃ wa, (w.alloc (.cells #[.pointer (some ⟨t.A, 0, none⟩)] 72)).drew = wa := ⟨_, rfl⟩
  have hb : Below w.heap.size w wa := hwa ▸ ((Below.refl _ _).alloc (Nat.le_refl _) _).drew
  have hrow : Row wa w.heap.size 72 [.pointer (some ⟨t.A, 0, none⟩)] (0, 0) := by
    have hr : Row (w.alloc (.cells #[.pointer (some ⟨t.A, 0, none⟩)] 72)) w.heap.size 72 [.pointer (some ⟨t.A, 0, none⟩)] (0, 0) := Row.new w _ [.pointer (some ⟨t.A, 0, none⟩)] (0, 0)
    exact hwa ▸ hr.below (Below.refl _ _).drew hr.lt
  have hHeld : wa.cell? ⟨w.heap.size, 0, none⟩ = some (.pointer (some ⟨t.A, 0, none⟩)) := hrow.cell 0
  have HB := Lib.hid (base_any (d := t) (w := wa) (h.keeps hb))
  have HD := Lib.hid (cut_any t p wa (h.keeps hb))
  rw [hcut, if_pos hcu] at HD
  have hlt := h.mineLt
  have HC := Lib.hid (show ∀ e w2, t.Turned wa (t.s.shorten p) (.int .i64 0) e w2 → e = .returned (.int .i64 0) ∧ w2.cell? ⟨w.heap.size, 0, none⟩ = some (.pointer (some ⟨t.A, 0, none⟩)) ∧ Calls Tryd.prog 52 #[.pointer (some ⟨t.A, 0, none⟩)] w2 (fun e w3 => e = .returned (.int .i64 0) ∧ t.Turned w (t.s.shorten p).force (.int .i64 0) (.returned (.int .i64 0)) w3) from fun e w2 ⟨t', he, h1, h2, h3, h4, h5⟩ => by
    refine ⟨he, (hrow.only h4 (fun hk => Nat.lt_irrefl _ (hlt _ hk))).cell 0, ?_⟩
    rw [← h1]
    refine (force_any t' w2 h3).mono ?_
    rintro e3 w3 ⟨t'', he3, g1, g2, g3, g4, g5⟩
    refine ⟨he3, t'', rfl, g1.trans h1, by rw [g2, h2], g3, ?_, fun k hk => ?_⟩
    · exact ((Only.below hb t.mine).trans h4).then g4 (fun k hl hk => (h5 k hk).elim id fun hh => absurd hh (by have := hb.size; omega))
    · rcases g5 k hk with h6 | h6
      · exact (h5 k h6).imp id fun hh => Nat.le_trans hb.size hh
      · exact .inr (Nat.le_trans hb.size (Nat.le_trans h4.size h6)))
  obtain ⟨P, hP⟩ : ∃ P, t.Turned w (t.s.shorten p).force (.int .i64 0) = P := ⟨_, rfl⟩
  simp only [hP] at HC ⊢
  clear hP h hb hrow hba hp hcu hcut hlt
  unfold TV.ptr at HB HD ⊢
  go_enter Tryd.func42, Tryd.ntmps42
  go_wp2_with fail
  refine wp_region_noPanic ?_
  refine wp_region_sch (fun wx => wx.cell? ⟨w.heap.size, 0, none⟩ = some (.pointer (some ⟨t.A, 0, none⟩))) (fun i => [4, 8].contains i)
    (.takes [0, 1, 2, 3, 5, 6] (.run 4 (.takes [7] (.run 8 (.takes [9] .done))))) (by kernel_rfl) (fun _ _ _ _ _ h => h) (by kernel_rfl) ?_
  rw [hwa]
  clear hwa
  iterate 6 (
    refine sch_takes_cons ?_
    first
      | (refine sch_take (v := ?_) rfl (by assumption) (by rfl) ?_ ?_; rotate_left; (focus (intro wy hSy; (try dsimp only at hSy); go_simp; (try with_reducible rfl))))
      | (refine sch_pass rfl (by assumption) (by rfl) ?_)
    simp only [Act.put, List.setIfInBounds_toArray, List.set_cons_zero, List.set_cons_succ])
  refine sch_takes_nil ?_
  refine sch_run rfl (fun K hK => ?_)
  go_simp
  with_reducible refine (HB.out).mono ?_
  rintro e w1 ⟨rfl, rfl⟩
  try dsimp only
  refine hK.out _ _ (fun _ => hHeld) ?_
  clear hK K
  try simp only [Act.put, List.setIfInBounds_toArray, List.set_cons_zero, List.set_cons_succ]
  refine sch_takes_cons ?_
  first
    | (refine sch_take (v := ?_) rfl (by assumption) (by rfl) ?_ ?_; rotate_left; (focus (intro wy hSy; (try dsimp only at hSy); go_simp; (try with_reducible rfl))))
    | (refine sch_pass rfl (by assumption) (by rfl) ?_)
  simp only [Act.put, List.setIfInBounds_toArray, List.set_cons_zero, List.set_cons_succ]
  refine sch_takes_nil ?_
  refine sch_run rfl (fun K hK => ?_)
  go_simp
  with_reducible refine (HD.out).mono ?_
  intro e w2 hd
  obtain ⟨rfl, hHeld, hf⟩ := HC.out e w2 hd
  have HF := Lib.hid hf
  clear hd hf HC HB HD
  try dsimp only
  refine hK.out _ _ (fun _ => hHeld) ?_
  clear hK K
  try simp only [Act.put, List.setIfInBounds_toArray, List.set_cons_zero, List.set_cons_succ]
  refine sch_takes_cons ?_
  first
    | (refine sch_take (v := ?_) rfl (by assumption) (by rfl) ?_ ?_; rotate_left; (focus (intro wy hSy; (try dsimp only at hSy); go_simp; (try with_reducible rfl))))
    | (refine sch_pass rfl (by assumption) (by rfl) ?_)
  simp only [Act.put, List.setIfInBounds_toArray, List.set_cons_zero, List.set_cons_succ]
  refine sch_takes_nil ?_
  refine sch_done ?_
  refine NoPanic.normal ?_
  go_wp2_with fail
  refine HF.out.mono ?_
  rintro e w3 ⟨rfl, he⟩
  have HE := Lib.hid he
  clear he HF
  go_wp2
  exact HE.out
end
section
variable (t : TV) (w : World)
theorem read_all {t : TV} : t.s.read t.s.base t.s.fin = tb t.s.l := by
  have hr : t.s.reads t.s.base t.s.fin := ⟨Nat.le_refl _, by unfold ST.fin; omega, Nat.le_refl _⟩
  rw [ST.read, if_pos hr]
  apply txt_inj
  show ((t.s.l.take (t.s.fin - t.s.base)).drop (t.s.base - t.s.base)) = _
  rw [Nat.sub_self, List.drop_zero, List.take_of_length_le (by unfold ST.fin; omega)]
  simp [txt, tb]
set_option maxRecDepth 100000 in
set_option maxHeartbeats 1000000 in
theorem wall_any (h : t.In w) : Calls Tryd.prog 39 #[.agg #[t.ptr]] w fun e w' => e = .returned (.tuple #[.string (tb t.s.l), .int .i64 0]) ∧ Below w.heap.size w w' := by
  have hrd : t.s.reads t.s.base t.s.fin := ⟨Nat.le_refl _, by unfold ST.fin; omega, Nat.le_refl _⟩
  have HB := Lib.hid (fun wx (hb : Below w.heap.size w wx) => base_any (d := t) (w := wx) (h.keeps hb))
  have HE := Lib.hid (fun wx (hb : Below w.heap.size w wx) => End_any (d := t) (w := wx) (h.keeps hb))
  have HR := Lib.hid (fun wx (hb : Below w.heap.size w wx) => read_any t t.s.base t.s.fin wx (h.keeps hb))
  rw [read_all, if_pos hrd] at HR
  obtain ⟨wa, hwa⟩ : ∃ wa, (w.alloc (.cells #[.pointer (some ⟨t.A, 0, none⟩)] 72)).drew = wa := ⟨_, rfl⟩
  have hb : Below w.heap.size w wa := hwa ▸ ((Below.refl _ _).alloc (Nat.le_refl _) _).drew
  have hrow : Row wa w.heap.size 72 [.pointer (some ⟨t.A, 0, none⟩)] (0, 0) := by
    have hr : Row (w.alloc (.cells #[.pointer (some ⟨t.A, 0, none⟩)] 72)) w.heap.size 72 [.pointer (some ⟨t.A, 0, none⟩)] (0, 0) := Row.new w _ [.pointer (some ⟨t.A, 0, none⟩)] (0, 0)
    exact hwa ▸ hr.below (Below.refl _ _).drew hr.lt
  have hHeld : wa.cell? ⟨w.heap.size, 0, none⟩ = some (.pointer (some ⟨t.A, 0, none⟩)) := hrow.cell 0
  have HKS := Lib.hid (show ∀ wx, Below wa.heap.size wa wx → Below w.heap.size w wx ∧ wx.cell? ⟨w.heap.size, 0, none⟩ = some (.pointer (some ⟨t.A, 0, none⟩)) from fun wx hx => ⟨hb.trans (hx.mono hb.size), (hrow.below hx hrow.lt).cell 0⟩)
  have hHeld := HKS.out wa (Below.refl _ _)
  clear h hb hrow hrd
  unfold TV.ptr at HB HE HR ⊢
  go_enter Tryd.func39, Tryd.ntmps39
  go_wp2_with fail
  refine wp_region_noPanic ?_
  refine wp_region_sch (fun wx => Below w.heap.size w wx ∧ wx.cell? ⟨w.heap.size, 0, none⟩ = some (.pointer (some ⟨t.A, 0, none⟩))) (fun i => [4, 7, 8].contains i)
    (.takes [0, 1, 2, 3, 5, 6] (.run 4 (.run 7 (.run 8 (.takes [9, 10, 11, 12] .done))))) (by kernel_rfl) (fun _ _ _ _ _ h => h) (by kernel_rfl) ?_
  rw [hwa]
  clear hwa
  iterate 6 (
    refine sch_takes_cons ?_
    first
      | (refine sch_take (v := ?_) rfl (by assumption) (by rfl) ?_ ?_; rotate_left; (focus (intro wy hSy; (try dsimp only at hSy); go_simp; (try with_reducible rfl))))
      | (refine sch_pass rfl (by assumption) (by rfl) ?_)
    simp only [Act.put, List.setIfInBounds_toArray, List.set_cons_zero, List.set_cons_succ])
  refine sch_takes_nil ?_
  refine sch_run rfl (fun K hK => ?_)
  go_simp
  with_reducible refine (HB.out _ hHeld.1).mono ?_
  rintro e w1 ⟨rfl, rfl⟩
  try dsimp only
  refine hK.out _ _ (fun _ => hHeld) ?_
  clear hK K
  try simp only [Act.put, List.setIfInBounds_toArray, List.set_cons_zero, List.set_cons_succ]
  refine sch_run rfl (fun K hK => ?_)
  go_simp
  with_reducible refine (HE.out _ hHeld.1).mono ?_
  rintro e w1 ⟨rfl, rfl⟩
  have hb1 := (Below.refl wa.heap.size wa).drew
  have hHeld := HKS.out _ hb1
  try dsimp only
  refine hK.out _ _ (fun _ => hHeld) ?_
  clear hK K
  try simp only [Act.put, List.setIfInBounds_toArray, List.set_cons_zero, List.set_cons_succ]
  refine sch_run rfl (fun K hK => ?_)
  go_simp
  with_reducible refine (HR.out _ hHeld.1).mono ?_
  rintro e w2 ⟨rfl, hb2⟩
  have hHeld := HKS.out _ (hb1.trans hb2)
  try dsimp only
  refine hK.out _ _ (fun _ => hHeld) ?_
  clear hK K
  try simp only [Act.put, List.setIfInBounds_toArray, List.set_cons_zero, List.set_cons_succ]
  iterate 4 (
    refine sch_takes_cons ?_
    first
      | (refine sch_take (v := ?_) rfl (by assumption) (by rfl) ?_ ?_; rotate_left; (focus (intro wy hSy; (try dsimp only at hSy); go_simp; (try with_reducible rfl))))
      | (refine sch_pass rfl (by assumption) (by rfl) ?_)
    simp only [Act.put, List.setIfInBounds_toArray, List.set_cons_zero, List.set_cons_succ])
  refine sch_takes_nil ?_
  refine sch_done ?_
  refine NoPanic.normal ?_
  go_wp2
  go_ret2
  exact ⟨rfl, hHeld.1⟩
end
end Go.Proofs.YtjahkaockjhibaaDoor

/-
  The code's log: Trim.
-/
namespace Go.Proofs.YtjahkaockjhibaaDoor
open Go.RowKit

/-- What stands behind it. -/
theorem wtrim_set {d : WV} {w w1 w2 : World} {n : Nat} (h : d.In w) (hn : n ≤ d.g.stable + 1) (hb : Below w.heap.size w w1) (t' : TV) (hA : t'.A = d.t.A) (hs : t'.s = d.t.s.drop (d.t.s.base + (logB (d.g.l.take (d.g.below n))).length)) (hin : t'.In w2) (ho : Only d.t.mine w1 w2) (hm : ∀ k, t'.mine k → d.t.mine k ∨ w1.heap.size ≤ k) :
    w2.cell? ⟨d.B, 1, none⟩ = some (.slice d.A d.g.l.length d.c) ∧ w2.frozen? ⟨d.B, 1, none⟩ = false ∧
    d.Turned d.hard w (d.g.trim n) (.int .i64 0) (.returned (.int .i64 0)) (w2.setCell ⟨d.B, 1, none⟩ (.slice (if d.g.l.length = d.g.below n then d.A else d.A.map (·.add (d.g.below n * 3))) (d.g.l.length - d.g.below n) (d.g.l.length - d.g.below n))) := by
  have k1 := h.keeps hb
  have row2 := k1.row.only ho h.bt
  have own2 := k1.own.only ho h.ta
  have eg : d.g.trim n = { d.g with st := d.g.st.drop (d.g.st.base + (logB (d.g.l.take (d.g.below n))).length), l := d.g.l.drop (d.g.below n) } := if_pos hn
  have hpc := own2.piece (d.g.below n) (below_le d.g n)
  have hsz : w.heap.size ≤ w1.heap.size := hb.size
  have hlen : (d.g.l.drop (d.g.below n)).length = d.g.l.length - d.g.below n := List.length_drop
  obtain ⟨V, hV⟩ : ∃ V, (if d.g.l.length = d.g.below n then d.A else d.A.map (·.add (d.g.below n * 3))) = V := ⟨_, rfl⟩
  have hVA : ∀ k, blk V = some k → blk d.A = some k := fun k hk => by
    rw [← hV] at hk
    exact blk_pieceE hk
  rw [hV] at hpc ⊢
  have hone : Only (· = d.B) w2 (w2.setCell ⟨d.B, 1, none⟩ (.slice V (d.g.l.length - d.g.below n) (d.g.l.length - d.g.below n))) := (Only.refl (· = d.B) w2).setCell (p := ⟨d.B, 1, none⟩) rfl _
  have htB : ∀ k, t'.mine k → ¬ k = d.B := fun k hk e => by
    subst e
    rcases hm _ hk with h1 | h1
    · exact h.bt h1
    · have := h.row.lt; omega
  refine ⟨row2.cell 1, row2.loose 1, ⟨d.B, t', V, d.g.l.length - d.g.below n, d.g.trim n⟩, rfl, rfl, hA, rfl, ⟨?_, ?_, ?_, ?_, h.ok.trim n⟩, ?_, ?_⟩
  · have := row2.put 1 (.slice V (d.g.l.length - d.g.below n) (d.g.l.length - d.g.below n))
    show Row _ d.B _ [.pointer (some ⟨t'.A, 0, none⟩), .slice V (d.g.trim n).l.length (d.g.l.length - d.g.below n), .int .u64 ((d.g.trim n).last : Int), .int .u64 ((d.g.trim n).stable : Int)] (0, 0)
    rw [eg, hA]
    show Row _ d.B _ [.pointer (some ⟨d.t.A, 0, none⟩), .slice V (d.g.l.drop (d.g.below n)).length (d.g.l.length - d.g.below n), .int .u64 (d.g.last : Int), .int .u64 (d.g.stable : Int)] (0, 0)
    rw [hlen]
    exact this
  · exact hin.only hone htB
  · show t'.s = (d.g.trim n).st
    rw [hs, eg, h.st]
  · show EntO _ V (d.g.trim n).l _
    rw [eg]
    exact hpc.only hone (fun k hk => h.ba k (hVA k hk))
  · exact ((Only.below hb d.hard).trans (ho.imp fun k _ hk => .inr hk)).trans (hone.imp fun k _ hk => .inl hk)
  · rintro k ((rfl | hk) | hk)
    · exact .inl (.inl (.inl rfl))
    · rcases hm k hk with h1 | h1
      · exact .inl (.inl (.inr h1))
      · exact .inr (by omega)
    · exact .inl (.inr (hVA k hk))

section
variable (d : WV) (w : World)
set_option maxRecDepth 100000 in
set_option maxHeartbeats 4000000 in
theorem wtrim_any (n : Nat) (hn64 : n < 18446744073709551616) (h : d.In w) : Calls Tryd.prog 21 #[d.ptr, .int .u64 (n : Int)] w (d.Turned d.hard w (d.g.trim n) (.int .i64 (((if n ≤ d.g.stable + 1 then 0 else 9) : Nat) : Int))) := by
  have HN := Lib.hid (wnone_any d w h)
  have c3 := h.c3
  have hmax := h.ok.max
  have hstb := h.ok.stb
  have hst1 : IntKind.u64.wrap ((d.g.stable : Int) + 1) = (d.g.stable : Int) + 1 := IntWalk.u64_in _ (by omega)
  by_cases hn : n ≤ d.g.stable + 1
  · have hnI : ¬ (d.g.stable : Int) + 1 < (n : Int) := by omega
    have HFR := Lib.hid (wfrom0_any d w n hn64 h)
    have hct := h.ok.count
    have hbl := below_le d.g n
    obtain ⟨htr1, htr2⟩ := h.ok.trims n hn
    have hsz : (logB d.g.l).length ≤ 100000000 := by rw [← h.ok.bytes]; have := h.ok.st.small; unfold ST.fin at this; omega
    have hle := h.own.le
    have hdt : ∀ i (hi : i < d.g.l.length), (d.g.l[i]).d.length ≤ 262136 := fun i hi => h.ok.dat _ (List.getElem_mem hi)
    have HLT := Lib.hid (fun i => logB_take_le d.g.l i)
    have HCC := Lib.hid (fun m wx => fun hm => wcost_any m wx hm)
    have HKS := Lib.hid (show ∀ wx, Below w.heap.size w wx → wx.cell? ⟨d.B, 1, none⟩ = some (.slice d.A d.g.l.length d.c) from fun wx hb => (h.keeps hb).c1)
    have HKT := Lib.hid (show ∀ wx, Below w.heap.size w wx → wx.cell? ⟨d.B, 0, none⟩ = some (.pointer (some ⟨d.t.A, 0, none⟩)) from fun wx hb => (h.keeps hb).c0)
    have HR := Lib.hid (fun wx (hb : Below w.heap.size w wx) i hi => (h.keeps hb).own.rows.at_ i hi)
    have HSK := Lib.hid (fun wx (hb : Below w.heap.size w wx) => wskip_any d.t wx (logB (d.g.l.take (d.g.below n))).length (Nat.le_trans (logB_take_le _ _) hsz) (h.keeps hb).tape)
    rw [h.st, if_pos htr2] at HSK
    have HSET := Lib.hid (fun w1 w2 hb t' hA hs hin ho hm => wtrim_set (n := n) (w1 := w1) (w2 := w2) h hn hb t' hA hs hin ho hm)
    rw [h.st] at HSET
    rw [if_pos hn]
    obtain ⟨Q, hQ⟩ : ∃ Q, d.Turned d.hard w (d.g.trim n) (.int .i64 (((0 : Nat)) : Int)) = Q := ⟨_, rfl⟩
    rw [hQ]
    have HSET2 := Lib.hid (show ∀ w1 e w2, Below w.heap.size w w1 → d.t.Turned w1 (d.g.st.drop (d.g.st.base + (logB (d.g.l.take (d.g.below n))).length)) (.int .i64 0) e w2 → e = .returned (.int .i64 0) ∧ w2.cell? ⟨d.B, 1, none⟩ = some (.slice d.A d.g.l.length d.c) ∧ w2.frozen? ⟨d.B, 1, none⟩ = false ∧ Q (.returned (.int .i64 0)) (w2.setCell ⟨d.B, 1, none⟩ (.slice (if d.g.l.length = d.g.below n then d.A else d.A.map (·.add (d.g.below n * 3))) (d.g.l.length - d.g.below n) (d.g.l.length - d.g.below n))) from fun w1 e w2 hb ⟨t', he, hA, hs, hin, ho, hm⟩ => by
      rw [← hQ]
      exact ⟨he, HSET.out w1 w2 hb t' hA hs hin ho hm⟩)
    clear hQ HSET h hn htr1 htr2
    generalize (if d.g.l.length = d.g.below n then d.A else d.A.map (·.add (d.g.below n * 3))) = V at *
    generalize d.g.below n = b at *
    generalize d.g.l = l at *
    generalize d.A = DA at *
    obtain ⟨N, hN⟩ : ∃ N, l.length = N := ⟨_, rfl⟩
    have HNN := Lib.hid hN
    obtain ⟨M, hM⟩ : ∃ M, N - b = M := ⟨_, rfl⟩
    rw [hN] at hct hbl hle HKS HFR HSET2
    rw [hM] at HFR HSET2
    have hsub : IntKind.i64.wrap ((N : Int) - (M : Int)) = (b : Int) := by rw [IntWalk.i64_in _ (by omega)]; omega
    have hbc : (b : Int) ≤ (d.c : Int) := by omega
    obtain ⟨wd, hwd⟩ : ∃ wd, w.drew = wd := ⟨_, rfl⟩
    have HBD := Lib.hid (show Below w.heap.size w wd from hwd ▸ (Below.refl _ _).drew)
    rw [hwd] at HFR
    obtain ⟨we, hwe⟩ : ∃ we, wd.drew = we := ⟨_, rfl⟩
    have HBE := Lib.hid (show Below w.heap.size w we from hwe ▸ HBD.out.drew)
    have hHeld := HKS.out we HBE.out
    clear hN hM hwd
    unfold WV.ptr at HN HFR ⊢
    go_enter Tryd.func21, Tryd.ntmps21
    go_wp2_with fail
    refine HN.out.mono ?_
    rintro e w1 ⟨rfl, rfl⟩
    go_wp2_with fail
    refine HFR.out.mono ?_
    rintro e w1 ⟨rfl, rfl⟩
    go_wp2_with fail
    refine wp_region_noPanic ?_
    refine wp_region_sch (fun wx => wx.cell? ⟨d.B, 1, none⟩ = some (.slice DA N d.c)) (fun i => [].contains i)
      (.takes [0, 1, 2, 3, 4, 5, 6, 7, 8, 9, 10, 11, 12, 13, 14] .done) (by kernel_rfl) (fun _ _ _ _ _ h => h) (by kernel_rfl) ?_
    rw [hwe]
    clear hwe
    iterate 15 (
      refine sch_takes_cons ?_
      first
        | (refine sch_take (v := ?_) rfl (by assumption) (by rfl) ?_ ?_; rotate_left; (focus (intro wy hSy; (try dsimp only at hSy); go_simp; (try with_reducible rfl))))
        | (refine sch_pass rfl (by assumption) (by rfl) ?_)
      simp only [Act.put, List.setIfInBounds_toArray, List.set_cons_zero, List.set_cons_succ])
    refine sch_takes_nil ?_
    refine sch_done ?_
    refine NoPanic.normal ?_
    clear hHeld
    go_wp2_with fail
    go_loopw [6, 38] (fun vs vi wr => ∃ i : Nat, i ≤ b ∧ vi = .int .i64 i ∧ vs = .int .i64 (((logB (l.take i)).length : Nat) : Int) ∧ Below w.heap.size w wr) (fun _ vi _ => b - (intOf vi).toNat)
    case atStart => exact ⟨0, by omega, rfl, by rw [List.take_zero, logB_nil]; rfl, HBE.out⟩
    case round =>
      obtain ⟨i, hi, rfl, rfl, hb⟩ := hrel
      have HB := Lib.hid hb
      clear hb
      by_cases hlt : i < b
      · have hil : i < l.length := by rw [HNN.out]; omega
        obtain ⟨g, off, hA, _, x1, x2, x3⟩ := HR.out wr HB.out i hil
        have hiI : (i : Int) < (b : Int) := by omega
        have hk := HLT.out (i + 1)
        have htk : logB (l.take (i + 1)) = logB (l.take i) ++ one (recE l[i]) := by
          rw [(List.take_append_getElem hil).symm, logB_app, logB_cons, logB_nil, List.append_nil]
        have hsz2 : (logB (l.take (i + 1))).length = (logB (l.take i)).length + (21 + (l[i]).d.length) := by rw [htk, List.length_append, one_recE]
        have hdl := hdt i hil
        have hts : (tb (l[i]).d).size = (l[i]).d.length := tb_size _
        obtain ⟨x, hx⟩ : ∃ x, l[i] = x := ⟨_, rfl⟩
        rw [hx] at x1 x2 x3 hsz2 hdl hts
        obtain ⟨P0, hP0⟩ : ∃ P0, (logB (l.take i)).length = P0 := ⟨_, rfl⟩
        obtain ⟨P1, hP1⟩ : ∃ P1, (logB (l.take (i + 1))).length = P1 := ⟨_, rfl⟩
        rw [hP0, hP1] at hsz2
        rw [hP1] at hk
        rw [hP0]
        have hwr : IntKind.i64.wrap ((P0 : Int) + ((x.d.length + 21 : Nat) : Int)) = (P1 : Int) := by
          rw [IntWalk.i64_in _ (by omega)]; omega
        have HCX := Lib.hid (fun wx => HCC.out x.d.length wx (by omega))
        obtain ⟨z, hz⟩ : ∃ z, x.d.length + 21 = z := ⟨_, rfl⟩
        rw [hz] at hwr HCX
        have HP1 := Lib.hid hP1
        obtain ⟨X, hX⟩ : ∃ X, tb x.d = X := ⟨_, rfl⟩
        rw [hX] at x3 hts
        have hwi : IntKind.i64.wrap ((i : Int) + 1) = ((i + 1 : Nat) : Int) := by rw [IntWalk.i64_in _ (by omega)]; omega
        subst hA
        have HB2 := Lib.hid (HB.out.alloc (Nat.le_trans (Nat.le_refl _) HB.out.size) (.cells #[.int .u64 (x.n : Int), .int .u8 (x.k.toNat : Int), .string X] 48))
        clear htk hP0 hP1 hsz2 hx hk hz hX
        go_wp2_with fail
        refine (HCX.out _).mono ?_
        rintro e w5 ⟨rfl, rfl⟩
        go_wp2
        go_roundw
        case rel => exact ⟨i + 1, hlt, by first | rfl | go_num, by rw [HP1.out], HB2.out⟩
        case measure => simp [intOf]; omega
      · obtain rfl : i = b := by omega
        have HSK1 := Lib.hid (HSK.out wr HB.out)
        have c0 := HKT.out wr HB.out
        have HS3 := Lib.hid (fun e w2 => HSET2.out wr e w2 HB.out)
        obtain ⟨p, hp⟩ : ∃ p, (logB (l.take i)).length = p := ⟨_, rfl⟩
        rw [hp] at HSK1 HS3 ⊢
        unfold TV.ptr at HSK1
        clear HSK HSET2 hp hlt
        go_wp2_with fail
        refine HSK1.out.mono ?_
        intro e w2 ht
        obtain ⟨rfl, b1, bf, he⟩ := HS3.out e w2 ht
        have HE := Lib.hid he
        clear ht he HS3 HSK1
        go_wp2
        exact HE.out
  · have hnI : (d.g.stable : Int) + 1 < (n : Int) := by omega
    rw [if_neg hn, show d.g.trim n = d.g from if_neg hn]
    have HE := Lib.hid (show d.Turned d.hard w d.g (.int .i64 9) (.returned (.int .i64 9)) w from ⟨d, rfl, rfl, rfl, rfl, h, Only.refl _ _, fun k hk => .inl hk⟩)
    obtain ⟨Q, hQ⟩ : ∃ Q, d.Turned d.hard w d.g (.int .i64 9) = Q := ⟨_, rfl⟩
    simp only [hQ] at HE ⊢
    rw [show (((9 : Nat)) : Int) = 9 from rfl, hQ]
    clear hQ h
    unfold WV.ptr at HN ⊢
    go_enter Tryd.func21, Tryd.ntmps21
    go_wp2_with fail
    refine HN.out.mono ?_
    rintro e w1 ⟨rfl, rfl⟩
    go_wp2
    exact HE.out
end
end Go.Proofs.YtjahkaockjhibaaDoor
