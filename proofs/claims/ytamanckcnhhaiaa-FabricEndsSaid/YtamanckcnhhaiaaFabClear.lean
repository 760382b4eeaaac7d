/-
  The walks over package fabric, part I: Clear, where there is one message, of the node's.
-/
import Derived.Test.YtamanckcnhhaiaaFabWays
namespace Go.Proofs.Ytamanckcnhhaiaa
open Go.RowKit

set_option maxRecDepth 100000 in
set_option maxHeartbeats 1000000 in
theorem index_one (b : Nat) (w : World) (h0 : w.cell? ⟨b, 0, none⟩ = some (.int .i64 0)) (h1 : w.cell? ⟨b, 1, none⟩ = some (.int .i64 1)) : Calls Try.prog 31 #[.slice (some ⟨b, 0, none⟩) 2 2, .int .i64 1] w fun e w' => e = .returned (.int .i64 1) ∧ w' = w := by
  go_enter Try.func31, Try.ntmps31
  go_wp2_with fail
  go_loopw [8] (fun x wr => (x = .int .i64 0 ∨ x = .int .i64 1) ∧ wr = w) (fun x _ => 1 - (intOf x).toNat)
  case atStart => exact ⟨.inl rfl, rfl⟩
  case round =>
    obtain ⟨rfl | rfl, rfl⟩ := hrel
    · go_wp2
      go_roundw
      case rel => exact ⟨.inr rfl, trivial⟩
      case measure => simp [intOf]
    · go_wp2
      go_ret
      exact ⟨rfl, rfl⟩

set_option maxRecDepth 100000 in
theorem contains_one (b : Nat) (w : World) (h0 : w.cell? ⟨b, 0, none⟩ = some (.int .i64 0)) (h1 : w.cell? ⟨b, 1, none⟩ = some (.int .i64 1)) : Calls Try.prog 24 #[.slice (some ⟨b, 0, none⟩) 2 2, .int .i64 1] w fun e w' => e = .returned (.bool true) ∧ w' = w := by
  have HI := Lib.hid (index_one b w h0 h1)
  clear h0 h1
  go_enter Try.func24, Try.ntmps24
  go_wp2_with (go_at_call 31; refine HI.out.mono ?_; rintro e w1 ⟨rfl, rfl⟩)
  go_ret
  exact ⟨rfl, rfl⟩

set_option maxRecDepth 100000 in
set_option maxHeartbeats 1000000 in
theorem gone_one (s : ByteArray) (b : Nat) (w : World) (h : w.cell? ⟨b, 0, none⟩ = some (.int .i64 1)) : Calls Try.prog 23 #[.agg #[.int .i64 0, .int .i64 1, .string s], .pointer (some ⟨b, 0, none⟩)] w fun e w' => e = .returned (.bool true) ∧ Below w.heap.size w w' := by
  have hbl : b < w.heap.size := World.block_lt_of_cell? _ _ h
  obtain ⟨o, ho⟩ : ∃ o, w.alloc (.cells #[.int .i64 0, .int .i64 1, .string s] 44) = o := ⟨_, rfl⟩
  obtain ⟨S, hS⟩ : ∃ S, w.heap.size = S := ⟨_, rfl⟩
  have HBo := Lib.hid (show Below w.heap.size w o from ho ▸ (Below.refl _ w).alloc (Nat.le_refl _) _)
  have HRo := Lib.hid (show Row o S 44 [.int .i64 0, .int .i64 1, .string s] (0, 0) from hS ▸ ho ▸ Row.new w 44 [.int .i64 0, .int .i64 1, .string s] (0, 0))
  have HC := Lib.hid (show o.cell? ⟨b, 0, none⟩ = some (.int .i64 1) from (HBo.out.cell (p := ⟨b, 0, none⟩) hbl).trans h)
  obtain ⟨od, hod⟩ : ∃ od, o.drew = od := ⟨_, rfl⟩
  have HBd := Lib.hid (show Below w.heap.size w od from hod ▸ below_drew HBo.out)
  have HCn := Lib.hid (contains_one S od (by rw [← hod]; exact HRo.out.cell 0) (by rw [← hod]; exact HRo.out.cell 1))
  have hHeld : od.cell? ⟨b, 0, none⟩ = some (.int .i64 1) := by rw [← hod]; exact HC.out
  clear h hbl HRo HC
  go_enter Try.func23, Try.ntmps23
  go_wp2_with fail
  refine wp_region_noPanic ?_
  refine wp_region_sch (fun wx => wx.cell? ⟨b, 0, none⟩ = some (.int .i64 1)) (fun i => [3].contains i)
    (.takes [0, 1, 2] (.run 3 (.takes [4] .done))) (by kernel_rfl) (fun _ _ _ _ _ h => h) (by kernel_rfl) ?_
  rw [hod]
  clear hod
  iterate 3 (
    refine sch_takes_cons ?_
    first
      | (refine sch_take (v := ?_) rfl (by assumption) (by rfl) ?_ ?_; rotate_left; (focus (intro wy hSy; (try dsimp only at hSy); go_simp; (try with_reducible rfl))))
      | (refine sch_pass rfl (by assumption) (by rfl) ?_)
    simp only [Act.put, List.setIfInBounds_toArray, List.set_cons_zero, List.set_cons_succ])
  refine sch_takes_nil ?_
  refine sch_run rfl (fun K hK => ?_)
  go_simp
  with_reducible refine HCn.out.mono ?_
  rintro e w5 ⟨rfl, rfl⟩
  refine hK.out _ _ (fun _ => hHeld) ?_
  clear hK K
  try simp only [Act.put, List.setIfInBounds_toArray, List.set_cons_zero, List.set_cons_succ]
  refine sch_takes_cons ?_
  first
    | (refine sch_take (v := ?_) rfl (by assumption) (by rfl) ?_ ?_; rotate_left; (focus (intro wy hSy; (try dsimp only at hSy); go_simp; (try with_reducible rfl))))
    | (refine sch_pass rfl (by assumption) (by rfl) ?_)
  simp only [Act.put, List.setIfInBounds_toArray, List.set_cons_zero, List.set_cons_succ]
  refine sch_takes_nil ?_
  refine sch_done ?_
  refine NoPanic.normal ?_
  clear hHeld HCn
  go_wp2
  go_ret
  exact ⟨rfl, HBd.out⟩

set_option maxRecDepth 100000 in
set_option maxHeartbeats 1000000 in
theorem indexfunc_one (s : ByteArray) (g b c : Nat) (w : World) (h : w.cell? ⟨b, 0, none⟩ = some (.int .i64 1)) (k0 : w.cell? ⟨g, 0, none⟩ = some (.int .i64 0)) (k1 : w.cell? ⟨g, 1, none⟩ = some (.int .i64 1)) (k2 : w.cell? ⟨g, 2, none⟩ = some (.string s)) :
    Calls Try.prog 30 #[.slice (some ⟨g, 0, none⟩) 1 c, .func (.func 23) #[] #[.pointer (some ⟨b, 0, none⟩)]] w fun e w' => e = .returned (.int .i64 0) ∧ Below w.heap.size w w' := by
  have HG := Lib.hid (gone_one s b w h)
  clear h
  go_enter Try.func30, Try.ntmps30
  go_wp2_with fail
  go_loopw [8] (fun x wr => x = .int .i64 0 ∧ wr = w) (fun _ _ => 0)
  case atStart => exact ⟨rfl, rfl⟩
  case round =>
    obtain ⟨rfl, rfl⟩ := hrel
    go_wp2_with (go_at_call 23; refine HG.out.mono ?_; rintro e w' ⟨rfl, hb⟩; have HB := Lib.hid hb; clear hb)
    go_ret
    exact ⟨rfl, HB.out⟩

set_option maxRecDepth 100000 in
set_option maxHeartbeats 2000000 in
theorem delfunc_one (s : ByteArray) (A : Option Addr) (b c : Nat) (w : World) (h : w.cell? ⟨b, 0, none⟩ = some (.int .i64 1)) (hm : MsO w A [((0, 1), s)] c) :
    Calls Try.prog 22 #[.slice A 1 c, .func (.func 23) #[] #[.pointer (some ⟨b, 0, none⟩)]] w fun e w' => e = .returned (.slice A 0 c) ∧ ∃ w1, Below w.heap.size w w1 ∧ MsO w' A [] c ∧ Only (fun k => blk A = some k) w1 w' := by
  have hle : 1 ≤ c := hm.le
  obtain ⟨g, cs, rfl, hr, hcs, hget⟩ := hm.row (by exact Nat.one_pos)
  have HI := Lib.hid (indexfunc_one s g b c w h (by rw [hr.cell, hget 0 (by show _ < 3; decide)]; rfl) (by rw [hr.cell, hget 1 (by show _ < 3; decide)]; rfl) (by rw [hr.cell, hget 2 (by show _ < 3; decide)]; rfl))
  have HCL := Lib.hid (fun ty wx (hx : Row wx g 44 cs (0, 0)) => run_clear_msg wx ty g 0 c cs hx (by omega))
  have HFIN := Lib.hid (fun wx (hb : Below w.heap.size w wx) => show ∀ w', w' = wx.setRow g (cs.take 0 ++ Z3 ++ cs.drop (0 + 3)).toArray → ∃ w1, Below w.heap.size w w1 ∧ MsO w' (some ⟨g, 0, none⟩) [] c ∧ Only (fun k => blk (some (⟨g, 0, none⟩ : Addr)) = some k) w1 w' from fun w' hw => by
    subst hw
    refine ⟨wx, hb, ⟨Nat.zero_le _, .inr ⟨g, _, rfl, (hr.below hb hr.lt).setRow_, ?_, fun j hj => by simp at hj⟩⟩, ⟨rfl, rfl, rfl, by simp, fun k _ hk => setRow_other wx g k _ (fun e => hk (by simp [blk, e]))⟩⟩
    rw [List.length_append, List.length_append, List.length_take, List.length_drop]
    show c * 3 ≤ min 0 cs.length + 3 + (cs.length - (0 + 3))
    omega)
  have HR := Lib.hid (fun wx (hb : Below w.heap.size w wx) => hr.below hb hr.lt)
  have hfr := fun wx => ms_from (some ⟨g, 0, none⟩) 1 c 0 (by omega) wx
  rw [if_neg (by omega)] at hfr
  simp only [Option.map_some, Addr.add_lit, Nat.zero_mul, Nat.zero_add, Nat.sub_zero, Int.natCast_zero] at hfr
  have hup := fun wx => ms_upto (some ⟨g, 0, none⟩) 1 c 0 (by omega) wx
  simp only [Int.natCast_zero] at hup
  clear h hm hr hcs hget
  go_enter Try.func22, Try.ntmps22
  go_wp2_with fail
  refine HI.out.mono ?_
  rintro e w1 ⟨rfl, hb1⟩
  have hcl := fun ty => HCL.out ty w1 (HR.out w1 hb1)
  obtain ⟨w2, hw2⟩ : ∃ w2, w1.setRow g (cs.take 0 ++ Z3 ++ cs.drop (0 + 3)).toArray = w2 := ⟨_, rfl⟩
  simp only [hw2] at hcl
  have HE := Lib.hid (HFIN.out w1 hb1 w2 hw2.symm)
  clear hb1 HI HCL HFIN HR hw2
  go_wp2_with fail
  go_loopw [5, 6] (fun x y wr => x = .int .i64 0 ∧ y = .int .i64 1 ∧ wr = w1) (fun _ _ _ => 0)
  case atStart => exact ⟨rfl, rfl, rfl⟩
  case round =>
    obtain ⟨rfl, rfl, rfl⟩ := hrel
    go_wp2_with fail
    go_ret
    exact ⟨rfl, HE.out⟩

set_option maxRecDepth 100000 in
set_option maxHeartbeats 2000000 in
theorem clear_one (d : FV) (s : ByteArray) (w : World) (hd : d.In w) (hl : d.l = [((0, 1), s)]) : Calls Try.prog 11 #[d.ptr, .int .i64 1] w (d.Turned w [] (.tuple #[])) := by
  obtain ⟨o, ho⟩ : ∃ o, w.alloc (.cells #[.int .i64 1] 3) = o := ⟨_, rfl⟩
  obtain ⟨S, hS⟩ : ∃ S, w.heap.size = S := ⟨_, rfl⟩
  have hbo : Below w.heap.size w o := ho ▸ (Below.refl _ w).alloc (Nat.le_refl _) _
  have hro : Row o S 3 [.int .i64 1] (0, 0) := hS ▸ ho ▸ Row.new w 3 [.int .i64 1] (0, 0)
  have ko := hd.keeps hbo
  have HN := Lib.hid (isNone_no d o ko)
  have hms := ko.ms
  have hc := ko.c1
  rw [hl] at hms hc
  simp only [List.length_singleton] at hc
  have HD := Lib.hid (delfunc_one s d.A S d.c o (hro.cell 0) hms)
  have HFIN := Lib.hid (fun w1 w2 (hb : Below o.heap.size o w1) (hm : MsO w2 d.A [] d.c) (hon : Only (fun k => blk d.A = some k) w1 w2) => show (w2.cell? ⟨d.b, 1, none⟩ = some (.slice d.A 1 d.c) ∧ w2.frozen? ⟨d.b, 1, none⟩ = false) ∧ d.Turned w [] (.tuple #[]) (.returned (.tuple #[])) (w2.setCell ⟨d.b, 1, none⟩ (.slice d.A 0 d.c)) by
    have hne : ¬ blk d.A = some d.b := fun e => hd.ne e rfl
    have row2 := (ko.keeps hb).box.only hon hne
    have o3 : Only (· = d.b) w2 (w2.setCell ⟨d.b, 1, none⟩ (.slice d.A 0 d.c)) := (Only.refl (· = d.b) w2).setCell (p := ⟨d.b, 1, none⟩) rfl _
    have c2 := row2.cell 1
    rw [hl] at c2
    refine ⟨⟨c2, row2.loose 1⟩, ⟨d.b, d.A, d.c, []⟩, rfl, rfl, rfl, ⟨row2.put 1 _, hm.only o3 fun k hk e => hne (e ▸ hk)⟩, ?_, fun k hk => .inl hk⟩
    have a1 : Only d.mine w w1 := Only.below (hbo.trans (hb.mono hbo.size)) d.mine
    exact (a1.then hon (fun k _ hk => .inr hk)).then o3 (fun k _ hk => .inl hk))
  unfold FV.ptr at HN ⊢
  clear hd hbo hro ko hms hl
  go_enter Try.func11, Try.ntmps11
  go_wp2_with first
    | (go_at_call 12; refine HN.out.mono ?_; rintro e w1 ⟨rfl, rfl⟩)
    | (go_at_call 22; refine HD.out.mono ?_; rintro e w2 ⟨rfl, w3, hb, hm, hon⟩; obtain ⟨⟨p1, p2⟩, p3⟩ := HFIN.out w3 w2 hb hm hon; have HP3 := Lib.hid p3; clear hb hm hon p3)
  go_end0
  exact HP3.out
end Go.Proofs.Ytamanckcnhhaiaa
