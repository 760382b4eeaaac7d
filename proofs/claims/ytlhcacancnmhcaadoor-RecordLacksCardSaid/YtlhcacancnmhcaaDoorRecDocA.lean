/-
  The walks over the document's answer for package record, part A: a header.
-/
import Derived.Test.YtlhcacancnmhcaaDoorRecCodeG
import Derived.Test.YtlhcacancnmhcaaDoorRefC
import Derived.Test.YtlhcacancnmhcaaDoorOctRefB
import Derived.Deep.RegionLaw
import Derived.Shelf.Abstract
import Derived.Test.YtlhcacancnmhcaaDoorDraw
namespace Go.Proofs.YtlhcacancnmhcaaDoor
open Go.RowKit

/-- A call of a Go function as a step of a region that draws its order. -/
theorem step_calls {P : Program} {ops : Array Oper} {o : Oper} {a : Act} {w : World} {K : Act → World → Prop} {Q : Exit → Act → World → Prop} {E : Prop} (hgd : o.guard = none) (f : FuncId) (args : Array Operand) (ts : Array TypeId)
    (ho : o.op = .call { callee := .value (.func f), args := args, argTypes := ts }) (vals : Array Value) (hv : args.map a.eval = vals) (he : Enters P f) {R : Ending → World → Prop} (hc : Calls P f vals w R)
    (h : ∀ e w', R e w' → ∃ v, e = .returned v ∧ K (a.put o.dst v) w') : if Region.wanted o (yielded ops a.tmps) = true then Oper.wp P o a w K Q else E := by
  have hw : Region.wanted o (yielded ops a.tmps) = true := by simp [Region.wanted, hgd]
  rw [if_pos hw]
  have hex : (execOp a.eval o).run P w = .ok (.enter f vals) w := by
    have e1 := he vals w
    have ef : a.eval (.func f) = .func (.func f) #[] #[] := rfl
    simp [execOp, ho, resolve, invoke, ef, hv, Deferred.ofValue, e1]
  unfold Oper.wp
  rw [hex, Oper.upon_enter]
  refine hc.mono fun e w' hr => ?_
  obtain ⟨v, rfl, hk⟩ := h e w' hr
  exact hk

/-- More bytes onto a row of the call's own, as a step. -/
theorem step_grw {ops : Array Oper} {o : Oper} {a : Act} {K : Act → World → Prop} {Q : Exit → Act → World → Prop} {E : Prop} {T : TypeId} {w w1 : World} {l r : List UInt8} {v : Value} (hgd : o.guard = none) (s x : Operand)
    (ho : o.op = .call { callee := .builtin .append, args := #[s, x], argTypes := #[47, 47] }) (hs : a.eval s = v) (hg : Grw w l v w1) (ad : Addr) (m c n : Nat) (hx : a.eval x = .slice (some ad) m c) (hm : r.length = m) (hr : Reads T w1 (some ad) r)
    (hle : l.length + m ≤ 140000000000) (hn : (l ++ r).length = n) (h : ∀ A' c' w2, n ≤ c' → (A' = none → c' = 0) → Reads 5 w2 A' (l ++ r) → Below w.heap.size w w2 → K (a.put o.dst (.slice A' n c')) w2) : if Region.wanted o (yielded ops a.tmps) = true then Oper.wp Tryd.prog o a w1 K Q else E := by
  have hw : Region.wanted o (yielded ops a.tmps) = true := by simp [Region.wanted, hgd]
  rw [if_pos hw]
  obtain ⟨i0, hi0, hz0, hz1, hz2⟩ := info_parts Tryd.info_u8
  subst hm
  obtain ⟨v', w', hrn, h2, h3, _, _⟩ := run_append_own_at (P := Tryd.prog) w1 w.heap.size 47 o.type 5 i0 _ 1 1 Tryd.underlying47 hi0 hz0 hz1 hz2 rfl (by decide) v l.length (byt l) hg.1 ad r.length c (byt r) (by rw [byt_length, Nat.mul_one]) (reads_news hr) (byt_one _) (by unfold maxLen; omega) (by omega) hg.2.size
  have hgm : Grw w (l ++ r) v' w' := hg.more h2 h3
  obtain ⟨A', c', rfl, q1, q2, q3⟩ := hgm.reads
  rw [hn] at q1
  unfold Oper.wp execOp
  simp only [ho, resolve, invoke, builtin, Sem.run_bind, Sem.run_pure, Result.andThen_ok, List.map_toArray, List.map_cons, List.map_nil, hs, hx, hrn, hn]
  exact h A' c' w' q1 q2 q3 hgm.2

theorem enters_number : Enters Tryd.prog 36 := enters_of Tryd.func36 (by kernel_rfl) rfl
theorem enters_rseal : Enters Tryd.prog 22 := enters_of Tryd.func22 (by kernel_rfl) rfl

/-- New bytes. -/
def NewN (w : World) (n : Nat) (r : List UInt8) (e : Ending) (w' : World) : Prop :=
  ∃ A c, e = .returned (.slice A n c) ∧ r.length = n ∧ n ≤ c ∧ Reads 5 w' A r ∧ Below w.heap.size w w'

theorem grw_one {w o w1 : World} {k : Nat} {b : UInt8} (hb : Below w.heap.size w o) (hk : ((b.toNat : Nat) : Int) = (k : Int)) (h1 : Below (o.alloc (.cells #[.int .u8 (k : Int)] 5)).heap.size (o.alloc (.cells #[.int .u8 (k : Int)] 5)) w1) : Grw w [b] (.slice (some ⟨o.heap.size, 0, none⟩) 1 1) w1 := by
  have hr : Row w1 o.heap.size 5 (byt [b]) (0, 0) := by
    have := (Row.new o 5 [.int .u8 (k : Int)] (0, 0)).below h1 (by rw [size_new]; omega)
    rw [← hk] at this
    exact this
  refine ⟨⟨rfl, .inr ⟨o.heap.size, 1, (byt [b]).toArray, rfl, hb.size, hr, Nat.le_refl 1, by unfold maxLen; omega, rfl, rfl⟩⟩, ?_⟩
  exact (hb.alloc hb.size _).trans (h1.mono (by rw [size_new]; have := hb.size; omega))

set_option maxRecDepth 100000 in
set_option maxHeartbeats 1000000 in
theorem rhead_any (r : Rec) (w : World) (hr : r.d.length ≤ 1000000) :
    Calls Tryd.prog 27 #[recV r] w (NewN w 9 (headR r)) := by
  unfold recV
  have HF := Lib.hid (show sealL ([r.k] ++ be r.d.length 4) = headR r from rfl)
  have HL := Lib.hid (show ([r.k] ++ be r.d.length 4).length = 5 from by simp [be_length])
  have hs : (tb r.d).size = r.d.length := tb_size _
  generalize headR r = H at *
  obtain ⟨n, hn⟩ : ∃ n, r.d.length = n := ⟨_, rfl⟩
  rw [hn] at hs hr HF HL
  generalize tb r.d = s at *
  obtain ⟨q, hq⟩ : ∃ q, r.k.toNat = q := ⟨_, rfl⟩
  generalize r.k = kb at *
  have hqk : ((kb.toNat : Nat) : Int) = (q : Int) := by rw [hq]
  rw [hq]
  subst hs
  clear hn hq
  obtain ⟨o, ho⟩ : ∃ o, w.alloc (.cells #[.int .u8 (q : Int), .string s] 36) = o := ⟨_, rfl⟩
  obtain ⟨W, hW⟩ : ∃ W, o.drew = W := ⟨_, rfl⟩
  have HB0 := Lib.hid (show Below w.heap.size w W by rw [← hW, ← ho]; exact ((Below.refl _ _).alloc (Nat.le_refl _) _).drew)
  have hrow : Row W w.heap.size 36 [.int .u8 (q : Int), .string s] (0, 0) := by rw [← hW, ← ho]; exact Row.new w 36 [.int .u8 (q : Int), .string s] (0, 0)
  have HC := Lib.hid (show ∀ wx, Below W.heap.size W wx → wx.cell? ⟨w.heap.size, 0, none⟩ = some (.int .u8 (q : Int)) ∧ wx.cell? ⟨w.heap.size, 1, none⟩ = some (.string s) from fun wx hb => by
    have h := hrow.below hb hrow.lt
    exact ⟨by rw [h.cell]; rfl, by rw [h.cell]; rfl⟩)
  have hHeld := HC.out W (Below.refl _ _)
  have HN := Lib.hid (fun wx (hb : Below W.heap.size W wx) => show Calls Tryd.prog 36 #[.int .u64 (s.size : Int), .int .i64 4] wx fun e w' => e = .returned (.slice (some ⟨wx.heap.size, 0, none⟩) 4 4) ∧ Below W.heap.size W w' ∧ Below wx.heap.size wx w' ∧ Row w' wx.heap.size 5 (byt (be s.size 4)) (0, 0) from
    (refNumber_any s.size 4 wx (by omega) (by omega)).mono fun e w' ⟨h1, h2, h3⟩ => ⟨h1, hb.trans (h2.mono hb.size), h2, h3⟩)
  have HBA := Lib.hid (show Below W.heap.size W (W.alloc (.cells #[.int .u8 (q : Int)] 5)) from (Below.refl _ _).alloc (Nat.le_refl _) _)
  have HBB := Lib.hid (show ∀ w1, Below W.heap.size W w1 → Below W.heap.size W (w1.alloc (.cells #[.int .u8 (q : Int)] 5)) from fun w1 h => h.alloc h.size _)
  have HGA := Lib.hid (fun w1 h1 => grw_one (w := W) (o := W) (w1 := w1) (Below.refl _ _) hqk h1)
  have HGB := Lib.hid (fun (w1 : World) (h1 : Below W.heap.size W w1) => grw_one (w1 := w1.alloc (.cells #[.int .u8 (q : Int)] 5)) h1 hqk (Below.refl _ _))
  have HRA := Lib.hid (show ∀ (g : Nat) w1, Row w1 g 5 (byt (be s.size 4)) (0, 0) → Reads 5 w1 (some ⟨g, 0, none⟩) (be s.size 4) from fun g w1 h => row_reads h)
  have HRB := Lib.hid (show ∀ (g : Nat) w1, Row w1 g 5 (byt (be s.size 4)) (0, 0) → Reads 5 (w1.alloc (.cells #[.int .u8 (q : Int)] 5)) (some ⟨g, 0, none⟩) (be s.size 4) from fun g w1 h => row_reads (h.alloc _))
  have HS := Lib.hid (show ∀ (A : Option Addr) (c : Nat) w2, (A = none → c = 0) → Reads 5 w2 A ([kb] ++ be s.size 4) → Below W.heap.size W w2 → Calls Tryd.prog 22 #[.slice A 5 c] w2 (NewN W 9 H) from fun A c w2 hA hrd hb =>
    (rseal_any A _ 5 c w2 HL.out hrd hA (by omega)).mono fun e w3 ⟨g, cap, he, h1, h2, h3, h4⟩ => ⟨_, cap, he, by rw [← HF.out, h1], h2, by rw [← HF.out]; exact h3, hb.trans (h4.mono hb.size)⟩)
  have HBE := Lib.hid (be_length s.size 4)
  have wsz : IntKind.u64.wrap (s.size : Int) = (s.size : Int) := IntWalk.u64_in _ (by omega)
  clear hqk hrow
  go_enter Tryd.func27, Tryd.ntmps27
  go_wp2_with fail
  refine wp_region_noPanic ?_
  refine wp_region_sch (fun wx => wx.cell? ⟨w.heap.size, 0, none⟩ = some (.int .u8 (q : Int)) ∧ wx.cell? ⟨w.heap.size, 1, none⟩ = some (.string s)) (fun i => [2, 7, 8, 9].contains i)
    (.takes [0, 1, 3, 4, 5, 6] (.fork [2, 7] (fun k => if k = 2 then (.run 7 (.run 8 (.run 9 (.takes [10] .done)))) else (.run 2 (.run 8 (.run 9 (.takes [10] .done))))))) (by kernel_rfl) (fun _ _ _ _ _ h => h) (by kernel_rfl) ?_
  rw [hW]
  clear hW ho
  iterate 6 (
    refine sch_takes_cons ?_
    first
      | (refine sch_take (v := ?_) rfl (by assumption) (by rfl) ?_ ?_; rotate_left; (focus (intro wy hSy; (try dsimp only at hSy); go_simp; (try with_reducible rfl))))
      | (refine sch_pass rfl (by assumption) (by rfl) ?_)
    simp only [Act.put, List.setIfInBounds_toArray, List.set_cons_zero, List.set_cons_succ])
  refine sch_takes_nil ?_
  refine sch_fork rfl (fun K hK => ?_) (sch_fork rfl (fun K hK => ?_) sch_fork_nil)
  · go_simp
    have hHeld := HC.out _ HBA.out
    refine hK.out _ _ (fun _ => hHeld) ?_
    clear hK K
    change wpSch _ _ _ _ _ _ (.run 7 (.run 8 (.run 9 (.takes [10] .done)))) _ _
    try simp only [Act.put, List.setIfInBounds_toArray, List.set_cons_zero, List.set_cons_succ]
    refine sch_run rfl (fun K hK => ?_)
    go_simp
    with_reducible refine (HN.out _ HBA.out).mono ?_
    rintro e wn ⟨rfl, hbn, hbm, hrn⟩
    have hHeld := HC.out _ hbn
    try dsimp only
    refine hK.out _ _ (fun _ => hHeld) ?_
    clear hK K
    try simp only [Act.put, List.setIfInBounds_toArray, List.set_cons_zero, List.set_cons_succ]
    refine sch_run rfl (fun K hK => ?_)
    refine step_grw (l := [kb]) (r := be s.size 4) (v := .slice (some ⟨_, 0, none⟩) 1 1) rfl (.tmp 5) (.tmp 10) (by rfl) (by rfl) (HGA.out _ hbm) ⟨_, 0, none⟩ 4 4 5 (by rfl) HBE.out (HRA.out _ _ hrn) (by simp) HL.out ?_
    intro A5 c5 w2 q1 q2 q3 q4
    have hHeld := HC.out w2 q4
    refine hK.out _ _ (fun _ => hHeld) ?_
    clear hK K
    try simp only [Act.put, List.setIfInBounds_toArray, List.set_cons_zero, List.set_cons_succ]
    refine sch_run rfl (fun K hK => ?_)
    go_simp
    with_reducible refine (HS.out A5 c5 _ q2 q3 q4).mono ?_
    rintro e w3 ⟨A6, c6, rfl, p1, p2, p3, p4⟩
    have hHeld := HC.out w3 p4
    try dsimp only
    refine hK.out _ _ (fun _ => hHeld) ?_
    clear hK K
    try simp only [Act.put, List.setIfInBounds_toArray, List.set_cons_zero, List.set_cons_succ]
    refine sch_takes_cons ?_
    first
      | (refine sch_take (v := ?_) rfl (by assumption) (by rfl) ?_ ?_; rotate_left; (focus (intro wy hSy; (try dsimp only at hSy); go_simp; (try with_reducible rfl))))
      | (refine sch_pass rfl (by assumption) (by rfl) ?_)
    simp only [Act.put, List.setIfInBounds_toArray, List.set_cons_zero, List.set_cons_succ]
    refine sch_takes_nil ?_
    refine sch_done ?_
    refine NoPanic.normal ?_
    have HE := Lib.hid (show NewN w 9 H (.returned (.slice A6 9 c6)) w3 from ⟨A6, c6, rfl, p1, p2, p3, HB0.out.trans (p4.mono HB0.out.size)⟩)
    clear p1 p2 p3 p4 q1 q2 q3 q4
    go_wp2
    go_ret
    exact HE.out
  · go_simp
    with_reducible refine (HN.out _ (Below.refl _ _)).mono ?_
    rintro e wn ⟨rfl, hbn, hbm, hrn⟩
    have hHeld := HC.out _ hbn
    try dsimp only
    refine hK.out _ _ (fun _ => hHeld) ?_
    clear hK K
    change wpSch _ _ _ _ _ _ (.run 2 (.run 8 (.run 9 (.takes [10] .done)))) _ _
    try simp only [Act.put, List.setIfInBounds_toArray, List.set_cons_zero, List.set_cons_succ]
    refine sch_run rfl (fun K hK => ?_)
    go_simp
    have hHeld := HC.out _ (HBB.out _ hbn)
    refine hK.out _ _ (fun _ => hHeld) ?_
    clear hK K
    try simp only [Act.put, List.setIfInBounds_toArray, List.set_cons_zero, List.set_cons_succ]
    refine sch_run rfl (fun K hK => ?_)
    refine step_grw (l := [kb]) (r := be s.size 4) (v := .slice (some ⟨_, 0, none⟩) 1 1) rfl (.tmp 5) (.tmp 10) (by rfl) (by rfl) (HGB.out _ hbn) ⟨_, 0, none⟩ 4 4 5 (by rfl) HBE.out (HRB.out _ _ hrn) (by simp) HL.out ?_
    intro A5 c5 w2 q1 q2 q3 q4
    have hHeld := HC.out w2 q4
    refine hK.out _ _ (fun _ => hHeld) ?_
    clear hK K
    try simp only [Act.put, List.setIfInBounds_toArray, List.set_cons_zero, List.set_cons_succ]
    refine sch_run rfl (fun K hK => ?_)
    go_simp
    with_reducible refine (HS.out A5 c5 _ q2 q3 q4).mono ?_
    rintro e w3 ⟨A6, c6, rfl, p1, p2, p3, p4⟩
    have hHeld := HC.out w3 p4
    try dsimp only
    refine hK.out _ _ (fun _ => hHeld) ?_
    clear hK K
    try simp only [Act.put, List.setIfInBounds_toArray, List.set_cons_zero, List.set_cons_succ]
    refine sch_takes_cons ?_
    first
      | (refine sch_take (v := ?_) rfl (by assumption) (by rfl) ?_ ?_; rotate_left; (focus (intro wy hSy; (try dsimp only at hSy); go_simp; (try with_reducible rfl))))
      | (refine sch_pass rfl (by assumption) (by rfl) ?_)
    simp only [Act.put, List.setIfInBounds_toArray, List.set_cons_zero, List.set_cons_succ]
    refine sch_takes_nil ?_
    refine sch_done ?_
    refine NoPanic.normal ?_
    have HE := Lib.hid (show NewN w 9 H (.returned (.slice A6 9 c6)) w3 from ⟨A6, c6, rfl, p1, p2, p3, HB0.out.trans (p4.mono HB0.out.size)⟩)
    clear p1 p2 p3 p4 q1 q2 q3 q4
    go_wp2
    go_ret
    exact HE.out
end Go.Proofs.YtlhcacancnmhcaaDoor
