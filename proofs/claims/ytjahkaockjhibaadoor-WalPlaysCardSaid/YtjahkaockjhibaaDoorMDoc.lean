/-
  The walks over the document's answer for package record, part A: a header.
-/
import Derived.Test.YtjahkaockjhibaaDoorMRec
import Derived.Test.YtjahkaockjhibaaDoorMRef
import Derived.Test.YtjahkaockjhibaaDoorMOctR
import Derived.Deep.RegionLaw
import Derived.Shelf.Abstract
import Derived.Test.YtjahkaockjhibaaDoorDraw
namespace Go.Proofs.YtjahkaockjhibaaDoor
open Go.RowKit

/-- A call of a Go function as a step of a region that draws its order. -/
theorem step_calls {P : Program} {ops : Array Oper} {o : Oper} {a : Act} {w : World} {K : Act → World → Prop} {Q : Exit → Act → World → Prop} {E : Prop} (hgd : o.guard = none) (f : FuncId) (args : Array Operand) (ts : Array TypeId)
    (ho : o.op = .call { callee := .value (.func f), args := args, argTypes := ts }) (vals : Array Value) (hv : args.map a.eval = vals) (he : Enters P f) {R : Ending → World → Prop} (hc : Calls P f vals w R)
    (h : ∀ e w', R e w' → ∃ v, e = .returned v ∧ K (a.put o.dst v) w') : if Region.wanted o (yielded ops a.tmps) = true then Oper.wp P o a w K Q else E := by
  have hw : Region.wanted o (yielded ops a.tmps) = true := by simp [Region.wanted, hgd]
  rw [if_pos hw]
  have hex : (execOp a.eval o).run P w = .ok (.enter f vals) w := by
    have e1 := he vals w
    have ef : a.eval (.func f) = .func (.func f) #[] #[] := rfl
    simp [execOp, ho, resolve, invoke, ef, hv, Deferred.ofValue, e1]
  unfold Oper.wp
  rw [hex, Oper.upon_enter]
  refine hc.mono fun e w' hr => ?_
  obtain ⟨v, rfl, hk⟩ := h e w' hr
  exact hk

/-- More bytes onto a row of the call's own, as a step. -/
theorem step_grw {ops : Array Oper} {o : Oper} {a : Act} {K : Act → World → Prop} {Q : Exit → Act → World → Prop} {E : Prop} {T : TypeId} {w w1 : World} {l r : List UInt8} {v : Value} (hgd : o.guard = none) (s x : Operand)
    (ho : o.op = .call { callee := .builtin .append, args := #[s, x], argTypes := #[80, 80] }) (hs : a.eval s = v) (hg : Grw w l v w1) (ad : Addr) (m c n : Nat) (hx : a.eval x = .slice (some ad) m c) (hm : r.length = m) (hr : Reads T w1 (some ad) r)
    (hle : l.length + m ≤ 140000000000) (hn : (l ++ r).length = n) (h : ∀ A' c' w2, n ≤ c' → (A' = none → c' = 0) → Reads 5 w2 A' (l ++ r) → Below w.heap.size w w2 → K (a.put o.dst (.slice A' n c')) w2) : if Region.wanted o (yielded ops a.tmps) = true then Oper.wp Tryd.prog o a w1 K Q else E := by
  have hw : Region.wanted o (yielded ops a.tmps) = true := by simp [Region.wanted, hgd]
  rw [if_pos hw]
  obtain ⟨i0, hi0, hz0, hz1, hz2⟩ := info_parts Tryd.info_u8
  subst hm
  obtain ⟨v', w', hrn, h2, h3, _, _⟩ := run_append_own_at (P := Tryd.prog) w1 w.heap.size 80 o.type 5 i0 _ 1 1 Tryd.underlying80 hi0 hz0 hz1 hz2 rfl (by decide) v l.length (byt l) hg.1 ad r.length c (byt r) (by rw [byt_length, Nat.mul_one]) (reads_news hr) (byt_one _) (by unfold maxLen; omega) (by omega) hg.2.size
  have hgm : Grw w (l ++ r) v' w' := hg.more h2 h3
  obtain ⟨A', c', rfl, q1, q2, q3⟩ := hgm.reads
  rw [hn] at q1
  unfold Oper.wp execOp
  simp only [ho, resolve, invoke, builtin, Sem.run_bind, Sem.run_pure, Result.andThen_ok, List.map_toArray, List.map_cons, List.map_nil, hs, hx, hrn, hn]
  exact h A' c' w' q1 q2 q3 hgm.2

set_option maxRecDepth 100000 in
theorem enters_number : Enters Tryd.prog 104 := enters_of Tryd.func104 (by kernel_rfl) rfl
set_option maxRecDepth 100000 in
theorem enters_rseal : Enters Tryd.prog 81 := enters_of Tryd.func81 (by kernel_rfl) rfl

/-- New bytes. -/
def NewN (w : World) (n : Nat) (r : List UInt8) (e : Ending) (w' : World) : Prop :=
  ∃ A c, e = .returned (.slice A n c) ∧ r.length = n ∧ n ≤ c ∧ Reads 5 w' A r ∧ Below w.heap.size w w'

theorem grw_one {w o w1 : World} {k : Nat} {b : UInt8} (hb : Below w.heap.size w o) (hk : ((b.toNat : Nat) : Int) = (k : Int)) (h1 : Below (o.alloc (.cells #[.int .u8 (k : Int)] 5)).heap.size (o.alloc (.cells #[.int .u8 (k : Int)] 5)) w1) : Grw w [b] (.slice (some ⟨o.heap.size, 0, none⟩) 1 1) w1 := by
  have hr : Row w1 o.heap.size 5 (byt [b]) (0, 0) := by
    have := (Row.new o 5 [.int .u8 (k : Int)] (0, 0)).below h1 (by rw [size_new]; omega)
    rw [← hk] at this
    exact this
  refine ⟨⟨rfl, .inr ⟨o.heap.size, 1, (byt [b]).toArray, rfl, hb.size, hr, Nat.le_refl 1, by unfold maxLen; omega, rfl, rfl⟩⟩, ?_⟩
  exact (hb.alloc hb.size _).trans (h1.mono (by rw [size_new]; have := hb.size; omega))

set_option maxRecDepth 100000 in
set_option maxHeartbeats 1000000 in
theorem rhead_any (r : Rec) (w : World) (hr : r.d.length ≤ 1000000) :
    Calls Tryd.prog 96 #[recV r] w (NewN w 9 (headR r)) := by
  unfold recV
  have HF := Lib.hid (show sealL ([r.k] ++ be r.d.length 4) = headR r from rfl)
  have HL := Lib.hid (show ([r.k] ++ be r.d.length 4).length = 5 from by simp [be_length])
  have hs : (tb r.d).size = r.d.length := tb_size _
  generalize headR r = H at *
  obtain ⟨n, hn⟩ : ∃ n, r.d.length = n := ⟨_, rfl⟩
  rw [hn] at hs hr HF HL
  generalize tb r.d = s at *
  obtain ⟨q, hq⟩ : ∃ q, r.k.toNat = q := ⟨_, rfl⟩
  generalize r.k = kb at *
  have hqk : ((kb.toNat : Nat) : Int) = (q : Int) := by rw [hq]
  rw [hq]
  subst hs
  clear hn hq
  obtain ⟨o, ho⟩ : ∃ o, w.alloc (.cells #[.int .u8 (q : Int), .string s] 107) = o := ⟨_, rfl⟩
  obtain ⟨W, hW⟩ : ∃ W, o.drew = W := ⟨_, rfl⟩
  have HB0 := Lib.hid (show Below w.heap.size w W by rw [← hW, ← ho]; exact ((Below.refl _ _).alloc (Nat.le_refl _) _).drew)
  have hrow : Row W w.heap.size 107 [.int .u8 (q : Int), .string s] (0, 0) := by rw [← hW, ← ho]; exact Row.new w 107 [.int .u8 (q : Int), .string s] (0, 0)
  have HC := Lib.hid (show ∀ wx, Below W.heap.size W wx → wx.cell? ⟨w.heap.size, 0, none⟩ = some (.int .u8 (q : Int)) ∧ wx.cell? ⟨w.heap.size, 1, none⟩ = some (.string s) from fun wx hb => by
    have h := hrow.below hb hrow.lt
    exact ⟨by rw [h.cell]; rfl, by rw [h.cell]; rfl⟩)
  have hHeld := HC.out W (Below.refl _ _)
  have HN := Lib.hid (fun wx (hb : Below W.heap.size W wx) => show Calls Tryd.prog 104 #[.int .u64 (s.size : Int), .int .i64 4] wx fun e w' => e = .returned (.slice (some ⟨wx.heap.size, 0, none⟩) 4 4) ∧ Below W.heap.size W w' ∧ Below wx.heap.size wx w' ∧ Row w' wx.heap.size 5 (byt (be s.size 4)) (0, 0) from
    (refNumber_any s.size 4 wx (by omega) (by omega)).mono fun e w' ⟨h1, h2, h3⟩ => ⟨h1, hb.trans (h2.mono hb.size), h2, h3⟩)
  have HBA := Lib.hid (show Below W.heap.size W (W.alloc (.cells #[.int .u8 (q : Int)] 5)) from (Below.refl _ _).alloc (Nat.le_refl _) _)
  have HBB := Lib.hid (show ∀ w1, Below W.heap.size W w1 → Below W.heap.size W (w1.alloc (.cells #[.int .u8 (q : Int)] 5)) from fun w1 h => h.alloc h.size _)
  have HGA := Lib.hid (fun w1 h1 => grw_one (w := W) (o := W) (w1 := w1) (Below.refl _ _) hqk h1)
  have HGB := Lib.hid (fun (w1 : World) (h1 : Below W.heap.size W w1) => grw_one (w1 := w1.alloc (.cells #[.int .u8 (q : Int)] 5)) h1 hqk (Below.refl _ _))
  have HRA := Lib.hid (show ∀ (g : Nat) w1, Row w1 g 5 (byt (be s.size 4)) (0, 0) → Reads 5 w1 (some ⟨g, 0, none⟩) (be s.size 4) from fun g w1 h => row_reads h)
  have HRB := Lib.hid (show ∀ (g : Nat) w1, Row w1 g 5 (byt (be s.size 4)) (0, 0) → Reads 5 (w1.alloc (.cells #[.int .u8 (q : Int)] 5)) (some ⟨g, 0, none⟩) (be s.size 4) from fun g w1 h => row_reads (h.alloc _))
  have HS := Lib.hid (show ∀ (A : Option Addr) (c : Nat) w2, (A = none → c = 0) → Reads 5 w2 A ([kb] ++ be s.size 4) → Below W.heap.size W w2 → Calls Tryd.prog 81 #[.slice A 5 c] w2 (NewN W 9 H) from fun A c w2 hA hrd hb =>
    (rseal_any A _ 5 c w2 HL.out hrd hA (by omega)).mono fun e w3 ⟨g, cap, he, h1, h2, h3, h4⟩ => ⟨_, cap, he, by rw [← HF.out, h1], h2, by rw [← HF.out]; exact h3, hb.trans (h4.mono hb.size)⟩)
  have HBE := Lib.hid (be_length s.size 4)
  have wsz : IntKind.u64.wrap (s.size : Int) = (s.size : Int) := IntWalk.u64_in _ (by omega)
  clear hqk hrow
  go_enter Tryd.func96, Tryd.ntmps96
  go_wp2_with fail
  refine wp_region_noPanic ?_
  refine wp_region_sch (fun wx => wx.cell? ⟨w.heap.size, 0, none⟩ = some (.int .u8 (q : Int)) ∧ wx.cell? ⟨w.heap.size, 1, none⟩ = some (.string s)) (fun i => [2, 7, 8, 9].contains i)
    (.takes [0, 1, 3, 4, 5, 6] (.fork [2, 7] (fun k => if k = 2 then (.run 7 (.run 8 (.run 9 (.takes [10] .done)))) else (.run 2 (.run 8 (.run 9 (.takes [10] .done))))))) (by kernel_rfl) (fun _ _ _ _ _ h => h) (by kernel_rfl) ?_
  rw [hW]
  clear hW ho
  iterate 6 (
    refine sch_takes_cons ?_
    first
      | (refine sch_take (v := ?_) rfl (by assumption) (by rfl) ?_ ?_; rotate_left; (focus (intro wy hSy; (try dsimp only at hSy); go_simp; (try with_reducible rfl))))
      | (refine sch_pass rfl (by assumption) (by rfl) ?_)
    simp only [Act.put, List.setIfInBounds_toArray, List.set_cons_zero, List.set_cons_succ])
  refine sch_takes_nil ?_
  refine sch_fork rfl (fun K hK => ?_) (sch_fork rfl (fun K hK => ?_) sch_fork_nil)
  · go_simp
    have hHeld := HC.out _ HBA.out
    refine hK.out _ _ (fun _ => hHeld) ?_
    clear hK K
    change wpSch _ _ _ _ _ _ (.run 7 (.run 8 (.run 9 (.takes [10] .done)))) _ _
    try simp only [Act.put, List.setIfInBounds_toArray, List.set_cons_zero, List.set_cons_succ]
    refine sch_run rfl (fun K hK => ?_)
    go_simp
    with_reducible refine (HN.out _ HBA.out).mono ?_
    rintro e wn ⟨rfl, hbn, hbm, hrn⟩
    have hHeld := HC.out _ hbn
    try dsimp only
    refine hK.out _ _ (fun _ => hHeld) ?_
    clear hK K
    try simp only [Act.put, List.setIfInBounds_toArray, List.set_cons_zero, List.set_cons_succ]
    refine sch_run rfl (fun K hK => ?_)
    refine step_grw (l := [kb]) (r := be s.size 4) (v := .slice (some ⟨_, 0, none⟩) 1 1) rfl (.tmp 5) (.tmp 10) (by rfl) (by rfl) (HGA.out _ hbm) ⟨_, 0, none⟩ 4 4 5 (by rfl) HBE.out (HRA.out _ _ hrn) (by simp) HL.out ?_
    intro A5 c5 w2 q1 q2 q3 q4
    have hHeld := HC.out w2 q4
    refine hK.out _ _ (fun _ => hHeld) ?_
    clear hK K
    try simp only [Act.put, List.setIfInBounds_toArray, List.set_cons_zero, List.set_cons_succ]
    refine sch_run rfl (fun K hK => ?_)
    go_simp
    with_reducible refine (HS.out A5 c5 _ q2 q3 q4).mono ?_
    rintro e w3 ⟨A6, c6, rfl, p1, p2, p3, p4⟩
    have hHeld := HC.out w3 p4
    try dsimp only
    refine hK.out _ _ (fun _ => hHeld) ?_
    clear hK K
    try simp only [Act.put, List.setIfInBounds_toArray, List.set_cons_zero, List.set_cons_succ]
    refine sch_takes_cons ?_
    first
      | (refine sch_take (v := ?_) rfl (by assumption) (by rfl) ?_ ?_; rotate_left; (focus (intro wy hSy; (try dsimp only at hSy); go_simp; (try with_reducible rfl))))
      | (refine sch_pass rfl (by assumption) (by rfl) ?_)
    simp only [Act.put, List.setIfInBounds_toArray, List.set_cons_zero, List.set_cons_succ]
    refine sch_takes_nil ?_
    refine sch_done ?_
    refine NoPanic.normal ?_
    have HE := Lib.hid (show NewN w 9 H (.returned (.slice A6 9 c6)) w3 from ⟨A6, c6, rfl, p1, p2, p3, HB0.out.trans (p4.mono HB0.out.size)⟩)
    clear p1 p2 p3 p4 q1 q2 q3 q4
    go_wp2
    go_ret
    exact HE.out
  · go_simp
    with_reducible refine (HN.out _ (Below.refl _ _)).mono ?_
    rintro e wn ⟨rfl, hbn, hbm, hrn⟩
    have hHeld := HC.out _ hbn
    try dsimp only
    refine hK.out _ _ (fun _ => hHeld) ?_
    clear hK K
    change wpSch _ _ _ _ _ _ (.run 2 (.run 8 (.run 9 (.takes [10] .done)))) _ _
    try simp only [Act.put, List.setIfInBounds_toArray, List.set_cons_zero, List.set_cons_succ]
    refine sch_run rfl (fun K hK => ?_)
    go_simp
    have hHeld := HC.out _ (HBB.out _ hbn)
    refine hK.out _ _ (fun _ => hHeld) ?_
    clear hK K
    try simp only [Act.put, List.setIfInBounds_toArray, List.set_cons_zero, List.set_cons_succ]
    refine sch_run rfl (fun K hK => ?_)
    refine step_grw (l := [kb]) (r := be s.size 4) (v := .slice (some ⟨_, 0, none⟩) 1 1) rfl (.tmp 5) (.tmp 10) (by rfl) (by rfl) (HGB.out _ hbn) ⟨_, 0, none⟩ 4 4 5 (by rfl) HBE.out (HRB.out _ _ hrn) (by simp) HL.out ?_
    intro A5 c5 w2 q1 q2 q3 q4
    have hHeld := HC.out w2 q4
    refine hK.out _ _ (fun _ => hHeld) ?_
    clear hK K
    try simp only [Act.put, List.setIfInBounds_toArray, List.set_cons_zero, List.set_cons_succ]
    refine sch_run rfl (fun K hK => ?_)
    go_simp
    with_reducible refine (HS.out A5 c5 _ q2 q3 q4).mono ?_
    rintro e w3 ⟨A6, c6, rfl, p1, p2, p3, p4⟩
    have hHeld := HC.out w3 p4
    try dsimp only
    refine hK.out _ _ (fun _ => hHeld) ?_
    clear hK K
    try simp only [Act.put, List.setIfInBounds_toArray, List.set_cons_zero, List.set_cons_succ]
    refine sch_takes_cons ?_
    first
      | (refine sch_take (v := ?_) rfl (by assumption) (by rfl) ?_ ?_; rotate_left; (focus (intro wy hSy; (try dsimp only at hSy); go_simp; (try with_reducible rfl))))
      | (refine sch_pass rfl (by assumption) (by rfl) ?_)
    simp only [Act.put, List.setIfInBounds_toArray, List.set_cons_zero, List.set_cons_succ]
    refine sch_takes_nil ?_
    refine sch_done ?_
    refine NoPanic.normal ?_
    have HE := Lib.hid (show NewN w 9 H (.returned (.slice A6 9 c6)) w3 from ⟨A6, c6, rfl, p1, p2, p3, HB0.out.trans (p4.mono HB0.out.size)⟩)
    clear p1 p2 p3 p4 q1 q2 q3 q4
    go_wp2
    go_ret
    exact HE.out
end Go.Proofs.YtjahkaockjhibaaDoor

/-
  The walks over the document's answer for package record, part B: a record, written.
-/
namespace Go.Proofs.YtjahkaockjhibaaDoor
open Go.RowKit

set_option maxRecDepth 100000 in
set_option maxHeartbeats 2000000 in
theorem rone_any (r : Rec) (w : World) (hr : r.d.length ≤ 40000) :
    Calls Tryd.prog 82 #[recV r] w fun e w' => e = .returned (.string (tb (one r))) ∧ Below w.heap.size w w' := by
  have HX := Lib.hid (show tb (headR r) ++ tb (sealL r.d) = tb (one r) from by rw [tb_app]; rfl)
  have hz1 : (tb (headR r)).size = 9 := by rw [tb_size, headR_length]
  have hz2 : (tb (sealL r.d)).size = r.d.length + 4 := by rw [tb_size, sealL_length]
  obtain ⟨o, ho⟩ : ∃ o, w.alloc (.cells #[.int .u8 (r.k.toNat : Int), .string (tb r.d)] 107) = o := ⟨_, rfl⟩
  obtain ⟨W, hW⟩ : ∃ W, o.drew = W := ⟨_, rfl⟩
  have HB0 := Lib.hid (show Below w.heap.size w W by rw [← hW, ← ho]; exact ((Below.refl _ _).alloc (Nat.le_refl _) _).drew)
  have hrow : Row W w.heap.size 107 [.int .u8 (r.k.toNat : Int), .string (tb r.d)] (0, 0) := by rw [← hW, ← ho]; exact Row.new w 107 [.int .u8 (r.k.toNat : Int), .string (tb r.d)] (0, 0)
  have HC := Lib.hid (show ∀ wx, Below W.heap.size W wx → wx.cell? ⟨w.heap.size, 0, none⟩ = some (.int .u8 (r.k.toNat : Int)) ∧ wx.cell? ⟨w.heap.size, 1, none⟩ = some (.string (tb r.d)) from fun wx hb => by
    have h := hrow.below hb hrow.lt
    exact ⟨by rw [h.cell]; rfl, by rw [h.cell]; rfl⟩)
  have hHeld := HC.out W (Below.refl _ _)
  have HH := Lib.hid (fun wx (hb : Below W.heap.size W wx) => show Calls Tryd.prog 96 #[.agg #[.int .u8 (r.k.toNat : Int), .string (tb r.d)]] wx fun e w' => ∃ A c, e = .returned (.slice A 9 c) ∧ Reads 5 w' A (headR r) ∧ Below W.heap.size W w' ∧ Below wx.heap.size wx w' from
    (rhead_any r wx (by omega)).mono fun e w' ⟨A, c, h1, _, _, h4, h5⟩ => ⟨A, c, h1, h4, hb.trans (h5.mono hb.size), h5⟩)
  have HS := Lib.hid (fun (wx : World) (A : Option Addr) (c n : Nat) (hn : r.d.length = n) (hrd : Reads 5 wx A r.d) (hA : A = none → c = 0) (hb : Below W.heap.size W wx) => show Calls Tryd.prog 81 #[.slice A n c] wx fun e w' => ∃ g c', e = .returned (.slice (some ⟨g, 0, none⟩) (n + 4) c') ∧ Reads 5 w' (some ⟨g, 0, none⟩) (sealL r.d) ∧ Below W.heap.size W w' ∧ Below wx.heap.size wx w' from
    (rseal_any A r.d n c wx hn hrd hA (by omega)).mono fun e w' ⟨g, c', h1, _, _, h4, h5⟩ => ⟨g, c', h1, h4, hb.trans (h5.mono hb.size), h5⟩)
  obtain ⟨wF, cF, hcv, hcF⟩ := conv_tb r.d
  have HCF := Lib.hid hcF
  have HL1 := Lib.hid (headR_length r)
  have HL2 := Lib.hid (show (sealL r.d).length = r.d.length + 4 from sealL_length r.d)
  obtain ⟨n, hn⟩ : ∃ n, r.d.length = n := ⟨_, rfl⟩
  have HN := Lib.hid hn
  rw [hn] at HL2
  simp only [hn] at hcv hz2 hr
  have HT1 := Lib.hid (fun (A : Option Addr) (c : Nat) (wx : World) (h : Reads 5 wx A (headR r)) => show (convert 80 9 (.slice A 9 c)).run Tryd.prog wx = .ok (.string (tb (headR r))) wx from text_n A (headR r) 9 c wx HL1.out h)
  have HT2 := Lib.hid (fun (A : Option Addr) (c : Nat) (wx : World) (h : Reads 5 wx A (sealL r.d)) => show (convert 80 9 (.slice A (n + 4) c)).run Tryd.prog wx = .ok (.string (tb (sealL r.d))) wx from text_n A (sealL r.d) (n + 4) c wx HL2.out h)
  have hcat : ¬ 9223372036854775807 < 9 + (n + 4) := by omega
  generalize tb (one r) = X at *
  generalize hY : tb (headR r) = Y at *
  generalize hZ : tb (sealL r.d) = Z at *
  generalize headR r = H at *
  generalize sealL r.d = SD at *
  unfold recV
  generalize r.d = d at *
  generalize r.k.toNat = q at *
  clear hn hrow hcF hY hZ
  go_enter Tryd.func82, Tryd.ntmps82
  go_wp2_with fail
  refine wp_region_noPanic ?_
  refine wp_region_sch (fun wx => wx.cell? ⟨w.heap.size, 0, none⟩ = some (.int .u8 (q : Int)) ∧ wx.cell? ⟨w.heap.size, 1, none⟩ = some (.string (tb d))) (fun i => [1, 2, 5, 6, 7].contains i)
    (.takes [0, 3, 4] (.fork [1, 5] (fun k => if k = 1 then (.fork [2, 5] (fun k => if k = 2 then (.run 5 (.run 6 (.run 7 (.takes [8, 9] .done)))) else (.fork [2, 6] (fun k => if k = 2 then (.run 6 (.run 7 (.takes [8, 9] .done))) else (.fork [2, 7] (fun k => if k = 2 then (.run 7 (.takes [8, 9] .done)) else (.run 2 (.takes [8, 9] .done)))))))) else (.run 1 (.fork [2, 6] (fun k => if k = 2 then (.run 6 (.run 7 (.takes [8, 9] .done))) else (.fork [2, 7] (fun k => if k = 2 then (.run 7 (.takes [8, 9] .done)) else (.run 2 (.takes [8, 9] .done)))))))))) (by kernel_rfl) (fun _ _ _ _ _ h => h) (by kernel_rfl) ?_
  rw [hW]
  clear hW ho
  have hb0 : Below W.heap.size W W := Below.refl _ _
  iterate 3 (
    refine sch_takes_cons ?_
    first
      | (refine sch_take (v := ?_) rfl (by assumption) (by rfl) ?_ ?_; rotate_left; (focus (intro wy hSy; (try dsimp only at hSy); go_simp; (try with_reducible rfl))))
      | (refine sch_pass rfl (by assumption) (by rfl) ?_)
    simp only [Act.put, List.setIfInBounds_toArray, List.set_cons_zero, List.set_cons_succ])
  refine sch_takes_nil ?_
  refine sch_fork rfl (fun K hK => ?_) (sch_fork rfl (fun K hK => ?_) sch_fork_nil)
  · go_simp
    with_reducible refine (HH.out _ hb0).mono ?_
    rintro e w1 ⟨A1, c1, rfl, r1_1, hb1, hm1⟩
    have hHeld := HC.out _ hb1
    try dsimp only
    refine hK.out _ _ (fun _ => hHeld) ?_
    clear hK K
    change wpSch _ _ _ _ _ _ (.fork [2, 5] (fun k => if k = 2 then (.run 5 (.run 6 (.run 7 (.takes [8, 9] .done)))) else (.fork [2, 6] (fun k => if k = 2 then (.run 6 (.run 7 (.takes [8, 9] .done))) else (.fork [2, 7] (fun k => if k = 2 then (.run 7 (.takes [8, 9] .done)) else (.run 2 (.takes [8, 9] .done)))))))) _ _
    try simp only [Act.put, List.setIfInBounds_toArray, List.set_cons_zero, List.set_cons_succ]
    refine sch_fork rfl (fun K hK => ?_) (sch_fork rfl (fun K hK => ?_) sch_fork_nil)
    · have ht2 := HT1.out A1 c1 w1 r1_1
      go_simp
      refine hK.out _ _ (fun _ => hHeld) ?_
      clear hK K
      change wpSch _ _ _ _ _ _ (.run 5 (.run 6 (.run 7 (.takes [8, 9] .done)))) _ _
      try simp only [Act.put, List.setIfInBounds_toArray, List.set_cons_zero, List.set_cons_succ]
      refine sch_run rfl (fun K hK => ?_)
      go_simp
      obtain ⟨r5_3, hm3, _⟩ := HCF.out w1
      have hb3 := hb1.trans (hm3.mono hb1.size)
      generalize hcc3 : cF w1 = cc3 at *
      generalize hww3 : wF w1 = w3 at *
      have r1_4 := r1_1.below hm3 (Nat.le_refl _)
      have hHeld := HC.out _ hb3
      refine hK.out _ _ (fun _ => hHeld) ?_
      clear hK K
      try simp only [Act.put, List.setIfInBounds_toArray, List.set_cons_zero, List.set_cons_succ]
      refine sch_run rfl (fun K hK => ?_)
      go_simp
      with_reducible refine (HS.out _ (some ⟨w1.heap.size, 0, none⟩) cc3 n HN.out r5_3 (fun e => by cases e) hb3).mono ?_
      rintro e w5 ⟨g5, c5, rfl, r6_5, hb5, hm5⟩
      have r1_6 := r1_4.below hm5 (Nat.le_refl _)
      have r5_7 := r5_3.below hm5 (Nat.le_refl _)
      have hHeld := HC.out _ hb5
      try dsimp only
      refine hK.out _ _ (fun _ => hHeld) ?_
      clear hK K
      try simp only [Act.put, List.setIfInBounds_toArray, List.set_cons_zero, List.set_cons_succ]
      refine sch_run rfl (fun K hK => ?_)
      have ht8 := HT2.out (some ⟨g5, 0, none⟩) c5 w5 r6_5
      go_simp
      refine hK.out _ _ (fun _ => hHeld) ?_
      clear hK K
      try simp only [Act.put, List.setIfInBounds_toArray, List.set_cons_zero, List.set_cons_succ]
      iterate 2 (
        refine sch_takes_cons ?_
        first
          | (refine sch_take (v := ?_) rfl (by assumption) (by rfl) ?_ ?_; rotate_left; (focus (intro wy hSy; (try dsimp only at hSy); go_simp; (try with_reducible rfl))))
          | (refine sch_pass rfl (by assumption) (by rfl) ?_)
        simp only [Act.put, List.setIfInBounds_toArray, List.set_cons_zero, List.set_cons_succ])
      refine sch_takes_nil ?_
      refine sch_done ?_
      refine NoPanic.normal ?_
      have HE := Lib.hid hb5
      clear hb5
      go_wp2
      go_ret
      exact ⟨by rw [← HX.out]; rfl, HB0.out.trans (HE.out.mono HB0.out.size)⟩
    · go_simp
      obtain ⟨r5_9, hm9, _⟩ := HCF.out w1
      have hb9 := hb1.trans (hm9.mono hb1.size)
      generalize hcc9 : cF w1 = cc9 at *
      generalize hww9 : wF w1 = w9 at *
      have r1_10 := r1_1.below hm9 (Nat.le_refl _)
      have hHeld := HC.out _ hb9
      refine hK.out _ _ (fun _ => hHeld) ?_
      clear hK K
      change wpSch _ _ _ _ _ _ (.fork [2, 6] (fun k => if k = 2 then (.run 6 (.run 7 (.takes [8, 9] .done))) else (.fork [2, 7] (fun k => if k = 2 then (.run 7 (.takes [8, 9] .done)) else (.run 2 (.takes [8, 9] .done)))))) _ _
      try simp only [Act.put, List.setIfInBounds_toArray, List.set_cons_zero, List.set_cons_succ]
      refine sch_fork rfl (fun K hK => ?_) (sch_fork rfl (fun K hK => ?_) sch_fork_nil)
      · have ht11 := HT1.out A1 c1 w9 r1_10
        go_simp
        refine hK.out _ _ (fun _ => hHeld) ?_
        clear hK K
        change wpSch _ _ _ _ _ _ (.run 6 (.run 7 (.takes [8, 9] .done))) _ _
        try simp only [Act.put, List.setIfInBounds_toArray, List.set_cons_zero, List.set_cons_succ]
        refine sch_run rfl (fun K hK => ?_)
        go_simp
        with_reducible refine (HS.out _ (some ⟨w1.heap.size, 0, none⟩) cc9 n HN.out r5_9 (fun e => by cases e) hb9).mono ?_
        rintro e w12 ⟨g12, c12, rfl, r6_12, hb12, hm12⟩
        have r1_13 := r1_10.below hm12 (Nat.le_refl _)
        have r5_14 := r5_9.below hm12 (Nat.le_refl _)
        have hHeld := HC.out _ hb12
        try dsimp only
        refine hK.out _ _ (fun _ => hHeld) ?_
        clear hK K
        try simp only [Act.put, List.setIfInBounds_toArray, List.set_cons_zero, List.set_cons_succ]
        refine sch_run rfl (fun K hK => ?_)
        have ht15 := HT2.out (some ⟨g12, 0, none⟩) c12 w12 r6_12
        go_simp
        refine hK.out _ _ (fun _ => hHeld) ?_
        clear hK K
        try simp only [Act.put, List.setIfInBounds_toArray, List.set_cons_zero, List.set_cons_succ]
        iterate 2 (
          refine sch_takes_cons ?_
          first
            | (refine sch_take (v := ?_) rfl (by assumption) (by rfl) ?_ ?_; rotate_left; (focus (intro wy hSy; (try dsimp only at hSy); go_simp; (try with_reducible rfl))))
            | (refine sch_pass rfl (by assumption) (by rfl) ?_)
          simp only [Act.put, List.setIfInBounds_toArray, List.set_cons_zero, List.set_cons_succ])
        refine sch_takes_nil ?_
        refine sch_done ?_
        refine NoPanic.normal ?_
        have HE := Lib.hid hb12
        clear hb12
        go_wp2
        go_ret
        exact ⟨by rw [← HX.out]; rfl, HB0.out.trans (HE.out.mono HB0.out.size)⟩
      · go_simp
        with_reducible refine (HS.out _ (some ⟨w1.heap.size, 0, none⟩) cc9 n HN.out r5_9 (fun e => by cases e) hb9).mono ?_
        rintro e w16 ⟨g16, c16, rfl, r6_16, hb16, hm16⟩
        have r1_17 := r1_10.below hm16 (Nat.le_refl _)
        have r5_18 := r5_9.below hm16 (Nat.le_refl _)
        have hHeld := HC.out _ hb16
        try dsimp only
        refine hK.out _ _ (fun _ => hHeld) ?_
        clear hK K
        change wpSch _ _ _ _ _ _ (.fork [2, 7] (fun k => if k = 2 then (.run 7 (.takes [8, 9] .done)) else (.run 2 (.takes [8, 9] .done)))) _ _
        try simp only [Act.put, List.setIfInBounds_toArray, List.set_cons_zero, List.set_cons_succ]
        refine sch_fork rfl (fun K hK => ?_) (sch_fork rfl (fun K hK => ?_) sch_fork_nil)
        · have ht19 := HT1.out A1 c1 w16 r1_17
          go_simp
          refine hK.out _ _ (fun _ => hHeld) ?_
          clear hK K
          change wpSch _ _ _ _ _ _ (.run 7 (.takes [8, 9] .done)) _ _
          try simp only [Act.put, List.setIfInBounds_toArray, List.set_cons_zero, List.set_cons_succ]
          refine sch_run rfl (fun K hK => ?_)
          have ht20 := HT2.out (some ⟨g16, 0, none⟩) c16 w16 r6_16
          go_simp
          refine hK.out _ _ (fun _ => hHeld) ?_
          clear hK K
          try simp only [Act.put, List.setIfInBounds_toArray, List.set_cons_zero, List.set_cons_succ]
          iterate 2 (
            refine sch_takes_cons ?_
            first
              | (refine sch_take (v := ?_) rfl (by assumption) (by rfl) ?_ ?_; rotate_left; (focus (intro wy hSy; (try dsimp only at hSy); go_simp; (try with_reducible rfl))))
              | (refine sch_pass rfl (by assumption) (by rfl) ?_)
            simp only [Act.put, List.setIfInBounds_toArray, List.set_cons_zero, List.set_cons_succ])
          refine sch_takes_nil ?_
          refine sch_done ?_
          refine NoPanic.normal ?_
          have HE := Lib.hid hb16
          clear hb16
          go_wp2
          go_ret
          exact ⟨by rw [← HX.out]; rfl, HB0.out.trans (HE.out.mono HB0.out.size)⟩
        · have ht21 := HT2.out (some ⟨g16, 0, none⟩) c16 w16 r6_16
          go_simp
          refine hK.out _ _ (fun _ => hHeld) ?_
          clear hK K
          change wpSch _ _ _ _ _ _ (.run 2 (.takes [8, 9] .done)) _ _
          try simp only [Act.put, List.setIfInBounds_toArray, List.set_cons_zero, List.set_cons_succ]
          refine sch_run rfl (fun K hK => ?_)
          have ht22 := HT1.out A1 c1 w16 r1_17
          go_simp
          refine hK.out _ _ (fun _ => hHeld) ?_
          clear hK K
          try simp only [Act.put, List.setIfInBounds_toArray, List.set_cons_zero, List.set_cons_succ]
          iterate 2 (
            refine sch_takes_cons ?_
            first
              | (refine sch_take (v := ?_) rfl (by assumption) (by rfl) ?_ ?_; rotate_left; (focus (intro wy hSy; (try dsimp only at hSy); go_simp; (try with_reducible rfl))))
              | (refine sch_pass rfl (by assumption) (by rfl) ?_)
            simp only [Act.put, List.setIfInBounds_toArray, List.set_cons_zero, List.set_cons_succ])
          refine sch_takes_nil ?_
          refine sch_done ?_
          refine NoPanic.normal ?_
          have HE := Lib.hid hb16
          clear hb16
          go_wp2
          go_ret
          exact ⟨by rw [← HX.out]; rfl, HB0.out.trans (HE.out.mono HB0.out.size)⟩
  · go_simp
    obtain ⟨r5_23, hm23, _⟩ := HCF.out W
    have hb23 := hb0.trans (hm23.mono hb0.size)
    generalize hcc23 : cF W = cc23 at *
    generalize hww23 : wF W = w23 at *
    have hHeld := HC.out _ hb23
    refine hK.out _ _ (fun _ => hHeld) ?_
    clear hK K
    change wpSch _ _ _ _ _ _ (.run 1 (.fork [2, 6] (fun k => if k = 2 then (.run 6 (.run 7 (.takes [8, 9] .done))) else (.fork [2, 7] (fun k => if k = 2 then (.run 7 (.takes [8, 9] .done)) else (.run 2 (.takes [8, 9] .done))))))) _ _
    try simp only [Act.put, List.setIfInBounds_toArray, List.set_cons_zero, List.set_cons_succ]
    refine sch_run rfl (fun K hK => ?_)
    go_simp
    with_reducible refine (HH.out _ hb23).mono ?_
    rintro e w24 ⟨A24, c24, rfl, r1_24, hb24, hm24⟩
    have r5_25 := r5_23.below hm24 (Nat.le_refl _)
    have hHeld := HC.out _ hb24
    try dsimp only
    refine hK.out _ _ (fun _ => hHeld) ?_
    clear hK K
    try simp only [Act.put, List.setIfInBounds_toArray, List.set_cons_zero, List.set_cons_succ]
    refine sch_fork rfl (fun K hK => ?_) (sch_fork rfl (fun K hK => ?_) sch_fork_nil)
    · have ht26 := HT1.out A24 c24 w24 r1_24
      go_simp
      refine hK.out _ _ (fun _ => hHeld) ?_
      clear hK K
      change wpSch _ _ _ _ _ _ (.run 6 (.run 7 (.takes [8, 9] .done))) _ _
      try simp only [Act.put, List.setIfInBounds_toArray, List.set_cons_zero, List.set_cons_succ]
      refine sch_run rfl (fun K hK => ?_)
      go_simp
      with_reducible refine (HS.out _ (some ⟨W.heap.size, 0, none⟩) cc23 n HN.out r5_25 (fun e => by cases e) hb24).mono ?_
      rintro e w27 ⟨g27, c27, rfl, r6_27, hb27, hm27⟩
      have r1_28 := r1_24.below hm27 (Nat.le_refl _)
      have r5_29 := r5_25.below hm27 (Nat.le_refl _)
      have hHeld := HC.out _ hb27
      try dsimp only
      refine hK.out _ _ (fun _ => hHeld) ?_
      clear hK K
      try simp only [Act.put, List.setIfInBounds_toArray, List.set_cons_zero, List.set_cons_succ]
      refine sch_run rfl (fun K hK => ?_)
      have ht30 := HT2.out (some ⟨g27, 0, none⟩) c27 w27 r6_27
      go_simp
      refine hK.out _ _ (fun _ => hHeld) ?_
      clear hK K
      try simp only [Act.put, List.setIfInBounds_toArray, List.set_cons_zero, List.set_cons_succ]
      iterate 2 (
        refine sch_takes_cons ?_
        first
          | (refine sch_take (v := ?_) rfl (by assumption) (by rfl) ?_ ?_; rotate_left; (focus (intro wy hSy; (try dsimp only at hSy); go_simp; (try with_reducible rfl))))
          | (refine sch_pass rfl (by assumption) (by rfl) ?_)
        simp only [Act.put, List.setIfInBounds_toArray, List.set_cons_zero, List.set_cons_succ])
      refine sch_takes_nil ?_
      refine sch_done ?_
      refine NoPanic.normal ?_
      have HE := Lib.hid hb27
      clear hb27
      go_wp2
      go_ret
      exact ⟨by rw [← HX.out]; rfl, HB0.out.trans (HE.out.mono HB0.out.size)⟩
    · go_simp
      with_reducible refine (HS.out _ (some ⟨W.heap.size, 0, none⟩) cc23 n HN.out r5_25 (fun e => by cases e) hb24).mono ?_
      rintro e w31 ⟨g31, c31, rfl, r6_31, hb31, hm31⟩
      have r1_32 := r1_24.below hm31 (Nat.le_refl _)
      have r5_33 := r5_25.below hm31 (Nat.le_refl _)
      have hHeld := HC.out _ hb31
      try dsimp only
      refine hK.out _ _ (fun _ => hHeld) ?_
      clear hK K
      change wpSch _ _ _ _ _ _ (.fork [2, 7] (fun k => if k = 2 then (.run 7 (.takes [8, 9] .done)) else (.run 2 (.takes [8, 9] .done)))) _ _
      try simp only [Act.put, List.setIfInBounds_toArray, List.set_cons_zero, List.set_cons_succ]
      refine sch_fork rfl (fun K hK => ?_) (sch_fork rfl (fun K hK => ?_) sch_fork_nil)
      · have ht34 := HT1.out A24 c24 w31 r1_32
        go_simp
        refine hK.out _ _ (fun _ => hHeld) ?_
        clear hK K
        change wpSch _ _ _ _ _ _ (.run 7 (.takes [8, 9] .done)) _ _
        try simp only [Act.put, List.setIfInBounds_toArray, List.set_cons_zero, List.set_cons_succ]
        refine sch_run rfl (fun K hK => ?_)
        have ht35 := HT2.out (some ⟨g31, 0, none⟩) c31 w31 r6_31
        go_simp
        refine hK.out _ _ (fun _ => hHeld) ?_
        clear hK K
        try simp only [Act.put, List.setIfInBounds_toArray, List.set_cons_zero, List.set_cons_succ]
        iterate 2 (
          refine sch_takes_cons ?_
          first
            | (refine sch_take (v := ?_) rfl (by assumption) (by rfl) ?_ ?_; rotate_left; (focus (intro wy hSy; (try dsimp only at hSy); go_simp; (try with_reducible rfl))))
            | (refine sch_pass rfl (by assumption) (by rfl) ?_)
          simp only [Act.put, List.setIfInBounds_toArray, List.set_cons_zero, List.set_cons_succ])
        refine sch_takes_nil ?_
        refine sch_done ?_
        refine NoPanic.normal ?_
        have HE := Lib.hid hb31
        clear hb31
        go_wp2
        go_ret
        exact ⟨by rw [← HX.out]; rfl, HB0.out.trans (HE.out.mono HB0.out.size)⟩
      · have ht36 := HT2.out (some ⟨g31, 0, none⟩) c31 w31 r6_31
        go_simp
        refine hK.out _ _ (fun _ => hHeld) ?_
        clear hK K
        change wpSch _ _ _ _ _ _ (.run 2 (.takes [8, 9] .done)) _ _
        try simp only [Act.put, List.setIfInBounds_toArray, List.set_cons_zero, List.set_cons_succ]
        refine sch_run rfl (fun K hK => ?_)
        have ht37 := HT1.out A24 c24 w31 r1_32
        go_simp
        refine hK.out _ _ (fun _ => hHeld) ?_
        clear hK K
        try simp only [Act.put, List.setIfInBounds_toArray, List.set_cons_zero, List.set_cons_succ]
        iterate 2 (
          refine sch_takes_cons ?_
          first
            | (refine sch_take (v := ?_) rfl (by assumption) (by rfl) ?_ ?_; rotate_left; (focus (intro wy hSy; (try dsimp only at hSy); go_simp; (try with_reducible rfl))))
            | (refine sch_pass rfl (by assumption) (by rfl) ?_)
          simp only [Act.put, List.setIfInBounds_toArray, List.set_cons_zero, List.set_cons_succ])
        refine sch_takes_nil ?_
        refine sch_done ?_
        refine NoPanic.normal ?_
        have HE := Lib.hid hb31
        clear hb31
        go_wp2
        go_ret
        exact ⟨by rw [← HX.out]; rfl, HB0.out.trans (HE.out.mono HB0.out.size)⟩
end Go.Proofs.YtjahkaockjhibaaDoor

/-
  The walk over the document's answer for package record, part C: Put.
-/
namespace Go.Proofs.YtjahkaockjhibaaDoor
open Go.RowKit

/-- Data that the document's answer is walked over. -/
def Small (l : List Rec) : Prop := ∀ r ∈ l, r.d.length ≤ 40000
theorem Small.sane {l : List Rec} (h : Small l) : Sane l := fun r hr => by have := h r hr; omega
theorem Small.fit {l : List Rec} (h : Small l) : Fit l := fun r hr => by have := h r hr; omega
theorem Small.at_ {l : List Rec} (h : Small l) (i : Nat) (hi : i < l.length) : l[i].d.length ≤ 40000 := h _ (List.getElem_mem hi)

set_option maxRecDepth 100000 in
set_option maxHeartbeats 1000000 in
theorem rput_any (A : Option Addr) (l : List Rec) (c : Nat) (w : World) (h : Recs w A l) (hl : l.length ≤ 1000) (hs : Small l) :
    Calls Tryd.prog 71 #[.slice A l.length c] w fun e w' => e = .returned (.tuple #[.string (tb (allR l)), .int .i64 0]) ∧ Below w.heap.size w w' := by
  have HR := Lib.hid h
  clear h
  go_enter Tryd.func71, Tryd.ntmps71
  go_wp2_with fail
  go_loopw [4, 5] (fun v i wr => ∃ (k : Nat) (u : ByteArray), k ≤ l.length ∧ v = .string u ∧ i = .int .i64 k ∧ u = tb (allR (l.take k)) ∧ Below w.heap.size w wr) (fun _ i _ => l.length - (intOf i).toNat)
  case atStart => exact ⟨0, _, by omega, rfl, rfl, rfl, Below.refl _ _⟩
  case round =>
    obtain ⟨k, u, hk, rfl, rfl, hu, hb⟩ := hrel
    have HU := Lib.hid hu
    have HB := Lib.hid hb
    by_cases hlt : k < l.length
    · obtain ⟨g, off, rfl, _, h1, h2⟩ := (HR.out.keeps hb).at_ k hlt
      have HO := Lib.hid (rone_any l[k] wr (hs.at_ k hlt))
      have hdl := hs.at_ k hlt
      have hul : u.size ≤ 1000 * 1000013 := by
        rw [hu, tb_size]
        exact Nat.le_trans (allR_le _ (hs.sane.take k)) (Nat.mul_le_mul_right _ (by rw [List.length_take]; omega))
      have hcat : ¬ 9223372036854775807 < u.size + (tb (one l[k])).size := by rw [tb_size, one_length]; omega
      have HX := Lib.hid (show u ++ tb (one l[k]) = tb (allR (l.take (k + 1))) by rw [hu, tb_app, List.take_succ_eq_append_getElem hlt, allR_append, allR_cons, allR_nil, List.append_nil])
      have hg : ¬ (262144 : Int) < ((tb l[k].d).size : Int) := by rw [tb_size]; omega
      unfold recV at HO
      generalize tb (one l[k]) = z at *
      generalize tb l[k].d = d at *
      generalize l[k].k.toNat = q at *
      clear hu hb hdl
      go_wp2_with fail
      refine HO.out.mono ?_
      rintro e w1 ⟨rfl, hb1⟩
      have HB1 := Lib.hid (HB.out.trans (hb1.mono HB.out.size))
      clear hb1
      go_wp2
      go_roundw
      case rel => exact ⟨k + 1, _, by omega, rfl, by go_num, HX.out, HB1.out⟩
      case measure => simp [intOf]; omega
    · obtain rfl : k = l.length := by omega
      rw [List.take_length] at HU
      clear hu hb
      go_wp2
      go_ret2
      exact ⟨by first | rfl | (rw [HU.out]; rfl), HB.out⟩
end Go.Proofs.YtjahkaockjhibaaDoor

/-
  The walk over the document's answer for package record, part D: Scan.
-/
namespace Go.Proofs.YtjahkaockjhibaaDoor
open Go.RowKit

/-- What the document's scan gives back. -/
def RScanV (w : World) (l : List Rec) (n x : Nat) (e : Ending) (w' : World) : Prop :=
  ∃ A c, e = .returned (.tuple #[.slice A l.length c, .int .i64 (n : Int), .int .i64 (x : Int)]) ∧ l.length ≤ c ∧ (A = none → c = 0) ∧ Recs w' A l ∧ Below w.heap.size w w'

theorem index_head (x : List UInt8) (h : 1 ≤ x.length) : ∀ W : World, (Instr.index 9 (.string (tb x)) (.int .i64 0)).run Tryd.prog W = .ok (.int .u8 ((x.headD 0).toNat : Int)) W := fun W => by
  rw [run_index_string _ _ _ _ _ Tryd.underlying9, dif_pos ⟨by omega, by rw [tb_size]; omega⟩]
  cases x with
  | nil => simp at h
  | cons a l => rfl

theorem val_tb (y : List UInt8) : val (tb y).data.toList = val y := by rw [tb_list]

/-- The document's own reading, case by case. -/
theorem look_bad1 {x : List UInt8} (h9 : 9 ≤ x.length) (h : sealed (x.take 5) ≠ x.take 9) : lookR x = .bad := look_c h9 (fun hs => h ((head_is h9).2 hs))
theorem look_bad2 {x : List UInt8} (h9 : 9 ≤ x.length) (hs : sealed (x.take 5) = x.take 9) (hl : lenOf x ≤ 262144) (ht : 13 + lenOf x ≤ x.length) (hb : one ⟨x.headD 0, (x.drop 9).take (lenOf x)⟩ ≠ x.take (13 + lenOf x)) : lookR x = .bad :=
  look_f h9 ((head_is h9).1 hs) hl ht (fun h => hb ((body_is ((head_is h9).1 hs) ht).2 h))
theorem look_told {x : List UInt8} (h9 : 9 ≤ x.length) (hs : sealed (x.take 5) = x.take 9) (hl : lenOf x ≤ 262144) (ht : 13 + lenOf x ≤ x.length) (hb : one ⟨x.headD 0, (x.drop 9).take (lenOf x)⟩ = x.take (13 + lenOf x)) : lookR x = .told ⟨x.headD 0, (x.drop 9).take (lenOf x)⟩ :=
  look_g h9 ((head_is h9).1 hs) hl ht ((body_is ((head_is h9).1 hs) ht).1 hb)

set_option maxRecDepth 100000 in
set_option maxHeartbeats 4000000 in
theorem rscan_any (b : List UInt8) (w : World) (hmax : b.length ≤ 30000) : Calls Tryd.prog 69 #[.string (tb b)] w (RScanV w (scan b).1 (scan b).2.1 (scan b).2.2) := by
  have HMX := Lib.hid hmax
  have HX := Lib.hid (fun k => show (tb b).extract k b.length = tb (b.drop k) by rw [tb_cut, List.take_length])
  have hsz : (tb b).size = b.length := tb_size _
  have HEND := Lib.hid (show ∀ (A : Option Addr) (l : List Rec) (c n x : Nat) (w' : World), scan b = (l, n, x) → l.length ≤ c → (A = none → c = 0) → Recs w' A l → Below w.heap.size w w' → RScanV w (scan b).1 (scan b).2.1 (scan b).2.2 (.returned (.tuple #[.slice A l.length c, .int .i64 (n : Int), .int .i64 (x : Int)])) w' from
    fun A l c n x w' h1 h2 h3 h4 h5 => by rw [h1]; exact ⟨A, c, rfl, h2, h3, h4, h5⟩)
  generalize RScanV w (scan b).1 (scan b).2.1 (scan b).2.2 = Q at *
  go_enter Tryd.func69, Tryd.ntmps69
  go_wp2_with fail
  go_loopw [5, 6] (fun v i wr => ∃ (l : List Rec) (k : Nat) (u : Value), k ≤ b.length ∧ u = v ∧ i = .int .i64 k ∧ l.length ≤ k ∧ scan b = (l ++ (scan (b.drop k)).1, k + (scan (b.drop k)).2.1, (scan (b.drop k)).2.2) ∧ GrR w l u wr) (fun _ i _ => b.length - (intOf i).toNat)
  case atStart => exact ⟨[], 0, _, by omega, rfl, rfl, by simp, by simp, GrR.nil (Below.refl _ _)⟩
  case round =>
    obtain ⟨l, k, v, hk, rfl, rfl, hlk, hsc, hg⟩ := hrel
    have HG := Lib.hid hg
    have HSC := Lib.hid hsc
    have hXk := HX.out k
    have hkI : (k : Int) ≤ (b.length : Int) := by omega
    have HLD := Lib.hid (List.length_drop (i := k) (l := b))
    generalize hx : b.drop k = x at *
    have HX2 := Lib.hid hx
    clear hx hg hsc
    obtain ⟨A, c, rfl, hc, hA, hrd⟩ := HG.out.reads
    have HC := Lib.hid (And.intro hc hA)
    clear hc hA hrd
    have hszx : (tb x).size = x.length := tb_size _
    by_cases h0 : x.length = 0
    · have hkb : k = b.length := by have := HLD.out; omega
      have HS := Lib.hid (show scan b = (l, k, 0) by rw [HSC.out, scan_of_whole (show lookR x = .whole from if_pos h0)]; simp)
      have hkJ : ¬ (k : Int) < (b.length : Int) := by omega
      clear hkI HX HSC h0 hXk hszx hkb
      go_wp2
      refine bodyPost_ret (v := .tuple #[.slice A l.length c, .int .i64 (k : Int), .int .i64 0]) (by simp [results, Tryd.results69, go_sem]) rfl ?_
      exact HEND.out _ _ _ _ _ _ HS.out HC.out.1 HC.out.2 HG.out.recs HG.out.2
    have hkl : (k : Int) < (b.length : Int) := by have := HLD.out; omega
    by_cases h9 : x.length < 9
    · have HS := Lib.hid (show scan b = (l, k, 1) by rw [HSC.out, scan_of_torn (show lookR x = .torn by unfold lookR; rw [if_neg h0, if_pos h9])]; simp)
      have h9I : ((tb x).size : Int) < 9 := by omega
      clear HX HSC h0 h9
      generalize tb x = s at *
      go_wp2
      refine bodyPost_ret (v := .tuple #[.slice A l.length c, .int .i64 (k : Int), .int .i64 1]) (by simp [results, Tryd.results69, go_sem]) rfl ?_
      exact HEND.out _ _ _ _ _ _ HS.out HC.out.1 HC.out.2 HG.out.recs HG.out.2
    replace h9 : 9 ≤ x.length := by omega
    have h9I : ¬ (x.length : Int) < 9 := by omega
    have h9J : (9 : Int) ≤ (x.length : Int) := by omega
    have h5J : (5 : Int) ≤ (x.length : Int) := by omega
    have hX15 : (tb x).extract 1 5 = tb ((x.drop 1).take 4) := by rw [tb_cut, List.drop_take]
    have hX05 : (tb x).extract 0 5 = tb (x.take 5) := by rw [tb_cut, List.drop_zero]
    have hX09 : (tb x).extract 0 9 = tb (x.take 9) := by rw [tb_cut, List.drop_zero]
    have hl4 : ((x.drop 1).take 4).length = 4 := by rw [List.length_take, List.length_drop]; omega
    have HV := Lib.hid (show Calls Tryd.prog 80 #[.string (tb ((x.drop 1).take 4))] wr fun e w' => e = .returned (.int .u64 (lenOf x : Int)) ∧ ∃ d, w' = wr.drewN d from by
      have := value_any 4 (tb ((x.drop 1).take 4)) wr (by rw [tb_size]; omega) (by rw [tb_size]; omega)
      rwa [val_tb] at this)
    have hlt4 : lenOf x < 4294967296 := by
      have := val_lt ((x.drop 1).take 4)
      rw [hl4] at this
      exact this
    have HB1 := Lib.hid (fun h => look_bad1 (x := x) h9 h)
    have HB2 := Lib.hid (fun hs hl ht hb => look_bad2 (x := x) h9 hs hl ht hb)
    have HTO := Lib.hid (fun hs hl ht hb => look_told (x := x) h9 hs hl ht hb)
    have HD := Lib.hid (fun hl => look_d (b := x) h9 hl)
    have HE := Lib.hid (fun hs hl ht => look_e (b := x) h9 ((head_is h9).1 hs) hl ht)
    have hl5 : (x.take 5).length = 5 := by rw [List.length_take]; omega
    obtain ⟨wF, cF, hcv, hcF⟩ := conv_tb (x.take 5)
    have HIX := Lib.hid (index_head x (by omega))
    have HXD := Lib.hid (fun n (_ : 9 + n ≤ x.length) => show (tb x).extract 9 (9 + n) = tb ((x.drop 9).take n) by rw [tb_cut, List.drop_take]; congr 2; omega)
    have HXT := Lib.hid (fun n => show (tb x).extract 0 n = tb (x.take n) by rw [tb_cut, List.drop_zero])
    have hbnd : x.length ≤ 30000 := by have := HLD.out; omega
    obtain ⟨n, hn⟩ : ∃ n, lenOf x = n := ⟨_, rfl⟩
    rw [hn] at HV hlt4 HB2 HTO HD HE
    have HSL := Lib.hid (fun (wx : World) (hb : Below w.heap.size w wx) => show Calls Tryd.prog 81 #[.slice (some ⟨wx.heap.size, 0, none⟩) 5 (cF wx)] (wF wx) fun e w' => ∃ g c', e = .returned (.slice (some ⟨g, 0, none⟩) 9 c') ∧ (convert 80 9 (.slice (some ⟨g, 0, none⟩) 9 c')).run Tryd.prog w' = .ok (.string (tb (sealed (x.take 5)))) w' ∧ Below w.heap.size w w' ∧ Below wx.heap.size wx w' from by
      obtain ⟨q1, q2, q3⟩ := hcF wx
      refine (rseal_any (some ⟨wx.heap.size, 0, none⟩) (x.take 5) 5 (cF wx) (wF wx) hl5 q1 (fun e => by cases e) (by omega)).mono fun e w' ⟨g, c', he, h1, h2, h3, h4⟩ => ?_
      have hb2 : Below wx.heap.size wx w' := q2.trans (h4.mono q2.size)
      exact ⟨g, c', he, text_n (some ⟨g, 0, none⟩) (sealed (x.take 5)) 9 c' w' h1 h3, hb.trans (hb2.mono hb.size), hb2⟩)
    rw [hl5] at hcv
    generalize hU : (x.drop 1).take 4 = U at *
    clear hU hcF hl4 hl5 hn h0
    go_wp2_with fail
    refine HV.out.mono ?_
    rintro e w1 ⟨rfl, d, rfl⟩
    have HG1 := Lib.hid (HG.out.drewN d)
    generalize wr.drewN d = w1 at *
    have hwI : IntKind.i64.wrap (n : Int) = (n : Int) := IntWalk.i64_in _ (by omega)
    clear HV
    go_wp2_with fail
    obtain ⟨W, hW⟩ : ∃ W, w1.drew = W := ⟨_, rfl⟩
    have HG2 := Lib.hid (show GrR w l (.slice A l.length c) W from hW ▸ HG1.out.drewN 1)
    have hBW : Below w.heap.size w W := HG2.out.2
    have hHeld : True := True.intro
    have HY := Lib.hid (show ∀ p q : List UInt8, p ≠ q → ¬ tb p = tb q ∧ ((tb p).toList == (tb q).toList) = false from fun p q h => ⟨fun e => h (tb_inj e), by rw [beq_eq_false_iff_ne, ByteArray.toList_eq, ByteArray.toList_eq, tb_list, tb_list]; exact h⟩)
    by_cases hs : sealed (x.take 5) = x.take 9
    · have HB2' := Lib.hid (HB2.out hs)
      have HTO' := Lib.hid (HTO.out hs)
      have HE' := Lib.hid (HE.out hs)
      rw [hs] at HSL
      generalize hz : x.take 9 = z at *
      clear hs HB2 HTO HE HB1 hz
      by_cases hbig : 262144 < n
      · have HS := Lib.hid (show scan b = (l, k, 2) by rw [HSC.out, scan_of_bad (HD.out hbig)]; simp)
        have hbI : (262144 : Int) < (n : Int) := by omega
        clear hbig HD HSC
        refine wp_region_noPanic ?_
        refine wp_region_sch (fun _ => True) (fun i => [2, 3, 4].contains i)
          (.takes [0, 1, 5, 6] (.run 2 (.run 3 (.run 4 (.takes [7, 8, 9, 10, 11] .done))))) (by kernel_rfl) (fun _ _ _ _ _ h => h) (by kernel_rfl) ?_
        rw [hW]
        clear hW
        iterate 4 (
          refine sch_takes_cons ?_
          first
            | (refine sch_take (v := ?_) rfl (by assumption) (by rfl) ?_ ?_; rotate_left; (focus (intro wy hSy; (try dsimp only at hSy); go_simp; (try with_reducible rfl))))
            | (refine sch_pass rfl (by assumption) (by rfl) ?_)
          simp only [Act.put, List.setIfInBounds_toArray, List.set_cons_zero, List.set_cons_succ])
        refine sch_takes_nil ?_
        refine sch_run rfl (fun K hK => ?_)
        go_simp
        refine hK.out _ _ (fun _ => hHeld) ?_
        clear hK K
        try simp only [Act.put, List.setIfInBounds_toArray, List.set_cons_zero, List.set_cons_succ]
        refine sch_run rfl (fun K hK => ?_)
        go_simp
        with_reducible refine (HSL.out W hBW).mono ?_
        rintro e w3 ⟨g3, c3, rfl, ht3, hb3, hm3⟩
        try dsimp only
        refine hK.out _ _ (fun _ => hHeld) ?_
        clear hK K
        try simp only [Act.put, List.setIfInBounds_toArray, List.set_cons_zero, List.set_cons_succ]
        refine sch_run rfl (fun K hK => ?_)
        go_simp
        refine hK.out _ _ (fun _ => hHeld) ?_
        clear hK K
        try simp only [Act.put, List.setIfInBounds_toArray, List.set_cons_zero, List.set_cons_succ]
        iterate 5 (
          refine sch_takes_cons ?_
          first
            | (refine sch_take (v := ?_) rfl (by assumption) (by rfl) ?_ ?_; rotate_left; (focus (intro wy hSy; (try dsimp only at hSy); go_simp; (try with_reducible rfl))))
            | (refine sch_pass rfl (by assumption) (by rfl) ?_)
          simp only [Act.put, List.setIfInBounds_toArray, List.set_cons_zero, List.set_cons_succ])
        refine sch_takes_nil ?_
        refine sch_done ?_
        refine NoPanic.normal ?_
        have HG3 := Lib.hid (HG2.out.keeps hm3)
        clear hb3 hm3 ht3
        go_wp2
        refine bodyPost_ret (v := .tuple #[.slice A l.length c, .int .i64 (k : Int), .int .i64 2]) (by simp [results, Tryd.results69, go_sem]) rfl ?_
        exact HEND.out _ _ _ _ _ _ HS.out HC.out.1 HC.out.2 HG3.out.recs HG3.out.2
      · have hbI : ¬ (262144 : Int) < (n : Int) := by omega
        refine wp_region_noPanic ?_
        refine wp_region_sch (fun _ => True) (fun i => [2, 3, 4].contains i)
          (.takes [0, 1, 5, 6] (.run 2 (.run 3 (.run 4 (.takes [7, 8, 9, 10, 11] .done))))) (by kernel_rfl) (fun _ _ _ _ _ h => h) (by kernel_rfl) ?_
        rw [hW]
        clear hW
        iterate 4 (
          refine sch_takes_cons ?_
          first
            | (refine sch_take (v := ?_) rfl (by assumption) (by rfl) ?_ ?_; rotate_left; (focus (intro wy hSy; (try dsimp only at hSy); go_simp; (try with_reducible rfl))))
            | (refine sch_pass rfl (by assumption) (by rfl) ?_)
          simp only [Act.put, List.setIfInBounds_toArray, List.set_cons_zero, List.set_cons_succ])
        refine sch_takes_nil ?_
        refine sch_run rfl (fun K hK => ?_)
        go_simp
        refine hK.out _ _ (fun _ => hHeld) ?_
        clear hK K
        try simp only [Act.put, List.setIfInBounds_toArray, List.set_cons_zero, List.set_cons_succ]
        refine sch_run rfl (fun K hK => ?_)
        go_simp
        with_reducible refine (HSL.out W hBW).mono ?_
        rintro e w3 ⟨g3, c3, rfl, ht3, hb3, hm3⟩
        try dsimp only
        refine hK.out _ _ (fun _ => hHeld) ?_
        clear hK K
        try simp only [Act.put, List.setIfInBounds_toArray, List.set_cons_zero, List.set_cons_succ]
        refine sch_run rfl (fun K hK => ?_)
        go_simp
        refine hK.out _ _ (fun _ => hHeld) ?_
        clear hK K
        try simp only [Act.put, List.setIfInBounds_toArray, List.set_cons_zero, List.set_cons_succ]
        iterate 5 (
          refine sch_takes_cons ?_
          first
            | (refine sch_take (v := ?_) rfl (by assumption) (by rfl) ?_ ?_; rotate_left; (focus (intro wy hSy; (try dsimp only at hSy); go_simp; (try with_reducible rfl))))
            | (refine sch_pass rfl (by assumption) (by rfl) ?_)
          simp only [Act.put, List.setIfInBounds_toArray, List.set_cons_zero, List.set_cons_succ])
        refine sch_takes_nil ?_
        refine sch_done ?_
        refine NoPanic.normal ?_
        have HG3 := Lib.hid (HG2.out.keeps hm3)
        clear hb3 hm3 ht3
        have h13 : IntKind.u64.wrap (13 + (n : Int)) = ((13 + n : Nat) : Int) := (IntWalk.u64_in _ (by omega)).trans (by omega)
        have hwx : IntKind.u64.wrap (x.length : Int) = (x.length : Int) := IntWalk.u64_in _ (by omega)
        obtain ⟨N, hN⟩ : ∃ N, 13 + n = N := ⟨_, rfl⟩
        have hNI : 13 + (n : Int) = (N : Int) := by omega
        have hNu : IntKind.u64.wrap (N : Int) = (N : Int) := IntWalk.u64_in _ (by omega)
        have hNi : IntKind.i64.wrap (N : Int) = (N : Int) := IntWalk.i64_in _ (by omega)
        clear h13
        by_cases ht : x.length < 13 + n
        · have HS := Lib.hid (show scan b = (l, k, 1) by rw [HSC.out, scan_of_torn (HE'.out (by omega) ht)]; simp)
          have htI : (x.length : Int) < (N : Int) := by omega
          clear ht hN HSC
          go_wp2
          refine bodyPost_ret (v := .tuple #[.slice A l.length c, .int .i64 (k : Int), .int .i64 1]) (by simp [results, Tryd.results69, go_sem]) rfl ?_
          exact HEND.out _ _ _ _ _ _ HS.out HC.out.1 HC.out.2 HG3.out.recs HG3.out.2
        · have htI : ¬ (x.length : Int) < (N : Int) := by omega
          have htJ : (N : Int) ≤ (x.length : Int) := by omega
          obtain ⟨M, hM⟩ : ∃ M, 9 + n = M := ⟨_, rfl⟩
          have hMI : 9 + (n : Int) = (M : Int) := by omega
          have hMi : IntKind.i64.wrap (M : Int) = (M : Int) := IntWalk.i64_in _ (by omega)
          have hM9 : (9 : Int) ≤ (M : Int) := by omega
          have hMx : (M : Int) ≤ (x.length : Int) := by omega
          have hXD := HXD.out n (by omega)
          rw [hM] at hXD
          have hXT := HXT.out N
          have hDl : ((x.drop 9).take n).length = n := by rw [List.length_take, List.length_drop]; omega
          have hidx := HIX.out
          have HBD := Lib.hid (HB2'.out (by omega) (by omega))
          have HTD := Lib.hid (HTO'.out (by omega) (by omega))
          rw [hN] at HBD HTD
          generalize hk0 : x.headD 0 = k0 at *
          generalize hd0 : (x.drop 9).take n = D at *
          obtain ⟨q, hq⟩ : ∃ q, k0.toNat = q := ⟨_, rfl⟩
          rw [hq] at hidx
          have HO := Lib.hid (fun (wx : World) => show Calls Tryd.prog 82 #[.agg #[.int .u8 (q : Int), .string (tb D)]] wx fun e w' => e = .returned (.string (tb (one ⟨k0, D⟩))) ∧ Below wx.heap.size wx w' from by
            have := rone_any ⟨k0, D⟩ wx (by show D.length ≤ 40000; omega)
            unfold recV at this
            rwa [hq] at this)
          have HQ := Lib.hid hq
          have HND := Lib.hid (show 13 + D.length = N by omega)
          clear hM ht hN HD hk0 hd0 HIX HXD HXT HE' HB2' HTO' hq
          go_wp2_with fail
          generalize hw4 : w3.drew = w4 at *
          have HG4 := Lib.hid (show GrR w l (.slice A l.length c) w4 from hw4 ▸ HG3.out.drewN 1)
          refine wp_region_noPanic ?_
          refine wp_region_sch (fun _ => True) (fun i => [8, 9].contains i)
            (.takes [0, 1, 2, 3, 4, 5, 6, 7] (.run 8 (.run 9 .done))) (by kernel_rfl) (fun _ _ _ _ _ h => h) (by kernel_rfl) ?_
          try rw [hw4]
          clear hw4
          have hHeld : True := True.intro
          iterate 8 (
            refine sch_takes_cons ?_
            first
              | (refine sch_take (v := ?_) rfl (by assumption) (by rfl) ?_ ?_; rotate_left; (focus (intro wy hSy; (try dsimp only at hSy); go_simp; (try with_reducible rfl))))
              | (refine sch_pass rfl (by assumption) (by rfl) ?_)
            simp only [Act.put, List.setIfInBounds_toArray, List.set_cons_zero, List.set_cons_succ])
          refine sch_takes_nil ?_
          refine sch_run rfl (fun K hK => ?_)
          go_simp
          refine hK.out _ _ (fun _ => hHeld) ?_
          clear hK K
          try simp only [Act.put, List.setIfInBounds_toArray, List.set_cons_zero, List.set_cons_succ]
          refine sch_run rfl (fun K hK => ?_)
          go_simp
          refine hK.out _ _ (fun _ => hHeld) ?_
          clear hK K
          try simp only [Act.put, List.setIfInBounds_toArray, List.set_cons_zero, List.set_cons_succ]
          refine sch_done ?_
          refine NoPanic.normal ?_
          have hMo : True := trivial
          obtain ⟨o, ho⟩ : ∃ o, w4.alloc (.cells #[.int .u8 (q : Int), .string (tb D)] 107) = o := ⟨_, rfl⟩
          have HG5 := Lib.hid (show GrR w l (.slice A l.length c) o.drew from (ho ▸ HG4.out.alloc _ : GrR w l (.slice A l.length c) o).drewN 1)
          have HR5 := Lib.hid (show Row o.drew w4.heap.size 107 [.int .u8 (q : Int), .string (tb D)] (0, 0) from ho ▸ (Row.new w4 107 [.int .u8 (q : Int), .string (tb D)] (0, 0)).drew)
          go_wp2_with fail
          obtain ⟨W5, hW5⟩ : ∃ W5, o.drew = W5 := ⟨_, rfl⟩
          rw [hW5] at HG5 HR5
          have HC5 := Lib.hid (show ∀ wx, Below W5.heap.size W5 wx → wx.cell? ⟨w4.heap.size, 0, none⟩ = some (.int .u8 (q : Int)) ∧ wx.cell? ⟨w4.heap.size, 1, none⟩ = some (.string (tb D)) from fun wx hb => by
            have h := HR5.out.below hb HR5.out.lt
            exact ⟨by rw [h.cell]; rfl, by rw [h.cell]; rfl⟩)
          have hHeld := HC5.out W5 (Below.refl _ _)
          by_cases hone : one ⟨k0, D⟩ = x.take N
          · have HS0 := HTD.out hone
            have hp13 := look_pos HS0
            have HS := Lib.hid (show scan b = ((l ++ [⟨k0, D⟩]) ++ (scan (b.drop (k + N))).1, (k + N) + (scan (b.drop (k + N))).2.1, (scan (b.drop (k + N))).2.2) by
              have hN2 : 13 + (⟨k0, D⟩ : Rec).d.length = N := HND.out
              rw [HSC.out, scan_of_rec HS0, ← HX2.out, List.drop_drop, hN2]
              simp only [List.append_assoc, List.singleton_append, Prod.mk.injEq, true_and, and_true]
              omega)
            obtain ⟨K2, hK2⟩ : ∃ K2, k + N = K2 := ⟨_, rfl⟩
            rw [hK2] at HS
            have hKn : (k : Int) + 13 + (n : Int) = (K2 : Int) := by have := HND.out; omega
            have hK13 : IntKind.i64.wrap ((k : Int) + 13) = (k : Int) + 13 := IntWalk.i64_in _ (by have := HLD.out; have := HMX.out; omega)
            have hKw : IntKind.i64.wrap (K2 : Int) = (K2 : Int) := IntWalk.i64_in _ (by have := HLD.out; have := HMX.out; omega)
            rw [hone] at HO
            generalize x.take N = Z at *
            clear hone HBD HTD HS0 hp13 HSC
            refine wp_region_noPanic ?_
            refine wp_region_sch (fun wx => wx.cell? ⟨w4.heap.size, 0, none⟩ = some (.int .u8 (q : Int)) ∧ wx.cell? ⟨w4.heap.size, 1, none⟩ = some (.string (tb D))) (fun i => [1].contains i)
              (.takes [0, 2, 3, 4, 5, 6] (.run 1 (.takes [7] .done))) (by kernel_rfl) (fun _ _ _ _ _ h => h) (by kernel_rfl) ?_
            rw [ho, hW5]
            clear hW5 ho
            iterate 6 (
              refine sch_takes_cons ?_
              first
                | (refine sch_take (v := ?_) rfl (by assumption) (by rfl) ?_ ?_; rotate_left; (focus (intro wy hSy; (try dsimp only at hSy); go_simp; (try with_reducible rfl))))
                | (refine sch_pass rfl (by assumption) (by rfl) ?_)
              simp only [Act.put, List.setIfInBounds_toArray, List.set_cons_zero, List.set_cons_succ])
            refine sch_takes_nil ?_
            refine sch_run rfl (fun K hK => ?_)
            go_simp
            with_reducible refine (HO.out W5).mono ?_
            rintro e w6 ⟨rfl, hb6⟩
            have hHeld := HC5.out w6 hb6
            try dsimp only
            refine hK.out _ _ (fun _ => hHeld) ?_
            clear hK K
            try simp only [Act.put, List.setIfInBounds_toArray, List.set_cons_zero, List.set_cons_succ]
            refine sch_takes_cons ?_
            first
              | (refine sch_take (v := ?_) rfl (by assumption) (by rfl) ?_ ?_; rotate_left; (focus (intro wy hSy; (try dsimp only at hSy); go_simp; (try with_reducible rfl))))
              | (refine sch_pass rfl (by assumption) (by rfl) ?_)
            simp only [Act.put, List.setIfInBounds_toArray, List.set_cons_zero, List.set_cons_succ]
            refine sch_takes_nil ?_
            refine sch_done ?_
            refine NoPanic.normal ?_
            have HG6 := Lib.hid (HG5.out.keeps hb6)
            obtain ⟨c0, c1⟩ := HC5.out w6 hb6
            have HG7 := Lib.hid (HG6.out.alloc (.cells (recC ⟨k0, D⟩).toArray 107))
            have HN7 := Lib.hid (new_rec w6 107 ⟨k0, D⟩)
            have hll : l.length ≤ 1000000 := by have := HMX.out; omega
            have hrc : recC ⟨k0, D⟩ = [.int .u8 (q : Int), .string (tb D)] := by rw [← HQ.out]; rfl
            rw [hrc] at HN7 HG7
            have HRC := Lib.hid hrc
            clear hb6 hrc
            go_wp2_with (at_builtin; refine wpList_rec ⟨k0, D⟩ rfl (.tmp 65) (.tmp 67) rfl rfl HG7.out ⟨w6.heap.size, 0, none⟩ 1 rfl (by rw [HRC.out]; exact HN7.out) hll ?_)
            intro v8 w8 hg8
            have HG8 := Lib.hid hg8
            clear hg8 HG6 HG7 HN7 c0 c1
            go_wp2
            go_roundw
            case rel => exact ⟨l ++ [⟨k0, D⟩], K2, _, by have := HLD.out; omega, rfl, by go_num, by simp; omega, HS.out, HG8.out⟩
            case measure => have := HLD.out; simp [intOf]; omega
          · obtain ⟨hy1, hy2⟩ := HY.out _ _ hone
            have HS := Lib.hid (show scan b = (l, k, 2) by rw [HSC.out, scan_of_bad (HBD.out hone)]; simp)
            generalize one ⟨k0, D⟩ = O at *
            generalize x.take N = Z at *
            clear hone HBD HTD HSC
            refine wp_region_noPanic ?_
            refine wp_region_sch (fun wx => wx.cell? ⟨w4.heap.size, 0, none⟩ = some (.int .u8 (q : Int)) ∧ wx.cell? ⟨w4.heap.size, 1, none⟩ = some (.string (tb D))) (fun i => [1].contains i)
              (.takes [0, 2, 3, 4, 5, 6] (.run 1 (.takes [7] .done))) (by kernel_rfl) (fun _ _ _ _ _ h => h) (by kernel_rfl) ?_
            rw [ho, hW5]
            clear hW5 ho
            iterate 6 (
              refine sch_takes_cons ?_
              first
                | (refine sch_take (v := ?_) rfl (by assumption) (by rfl) ?_ ?_; rotate_left; (focus (intro wy hSy; (try dsimp only at hSy); go_simp; (try with_reducible rfl))))
                | (refine sch_pass rfl (by assumption) (by rfl) ?_)
              simp only [Act.put, List.setIfInBounds_toArray, List.set_cons_zero, List.set_cons_succ])
            refine sch_takes_nil ?_
            refine sch_run rfl (fun K hK => ?_)
            go_simp
            with_reducible refine (HO.out W5).mono ?_
            rintro e w6 ⟨rfl, hb6⟩
            have hHeld := HC5.out w6 hb6
            try dsimp only
            refine hK.out _ _ (fun _ => hHeld) ?_
            clear hK K
            try simp only [Act.put, List.setIfInBounds_toArray, List.set_cons_zero, List.set_cons_succ]
            refine sch_takes_cons ?_
            first
              | (refine sch_take (v := ?_) rfl (by assumption) (by rfl) ?_ ?_; rotate_left; (focus (intro wy hSy; (try dsimp only at hSy); go_simp; (try with_reducible rfl))))
              | (refine sch_pass rfl (by assumption) (by rfl) ?_)
            simp only [Act.put, List.setIfInBounds_toArray, List.set_cons_zero, List.set_cons_succ]
            refine sch_takes_nil ?_
            refine sch_done ?_
            refine NoPanic.normal ?_
            have HG6 := Lib.hid (HG5.out.keeps hb6)
            clear hb6
            go_wp2
            refine bodyPost_ret (v := .tuple #[.slice A l.length c, .int .i64 (k : Int), .int .i64 2]) (by simp [results, Tryd.results69, go_sem]) rfl ?_
            exact HEND.out _ _ _ _ _ _ HS.out HC.out.1 HC.out.2 HG6.out.recs HG6.out.2

    · obtain ⟨hy1, hy2⟩ := HY.out _ _ hs
      have HS := Lib.hid (show scan b = (l, k, 2) by rw [HSC.out, scan_of_bad (HB1.out hs)]; simp)
      generalize sealed (x.take 5) = zs at *
      generalize x.take 9 = z at *
      clear hs HB1 HB2 HTO HE HD HSC
      refine wp_region_noPanic ?_
      refine wp_region_sch (fun _ => True) (fun i => [2, 3, 4].contains i)
        (.takes [0, 1, 5, 6] (.run 2 (.run 3 (.run 4 (.takes [7, 8, 9, 10, 11] .done))))) (by kernel_rfl) (fun _ _ _ _ _ h => h) (by kernel_rfl) ?_
      rw [hW]
      clear hW
      iterate 4 (
        refine sch_takes_cons ?_
        first
          | (refine sch_take (v := ?_) rfl (by assumption) (by rfl) ?_ ?_; rotate_left; (focus (intro wy hSy; (try dsimp only at hSy); go_simp; (try with_reducible rfl))))
          | (refine sch_pass rfl (by assumption) (by rfl) ?_)
        simp only [Act.put, List.setIfInBounds_toArray, List.set_cons_zero, List.set_cons_succ])
      refine sch_takes_nil ?_
      refine sch_run rfl (fun K hK => ?_)
      go_simp
      refine hK.out _ _ (fun _ => hHeld) ?_
      clear hK K
      try simp only [Act.put, List.setIfInBounds_toArray, List.set_cons_zero, List.set_cons_succ]
      refine sch_run rfl (fun K hK => ?_)
      go_simp
      with_reducible refine (HSL.out W hBW).mono ?_
      rintro e w3 ⟨g3, c3, rfl, ht3, hb3, hm3⟩
      try dsimp only
      refine hK.out _ _ (fun _ => hHeld) ?_
      clear hK K
      try simp only [Act.put, List.setIfInBounds_toArray, List.set_cons_zero, List.set_cons_succ]
      refine sch_run rfl (fun K hK => ?_)
      go_simp
      refine hK.out _ _ (fun _ => hHeld) ?_
      clear hK K
      try simp only [Act.put, List.setIfInBounds_toArray, List.set_cons_zero, List.set_cons_succ]
      iterate 5 (
        refine sch_takes_cons ?_
        first
          | (refine sch_take (v := ?_) rfl (by assumption) (by rfl) ?_ ?_; rotate_left; (focus (intro wy hSy; (try dsimp only at hSy); go_simp; (try with_reducible rfl))))
          | (refine sch_pass rfl (by assumption) (by rfl) ?_)
        simp only [Act.put, List.setIfInBounds_toArray, List.set_cons_zero, List.set_cons_succ])
      refine sch_takes_nil ?_
      refine sch_done ?_
      refine NoPanic.normal ?_
      have HG3 := Lib.hid (HG2.out.keeps hm3)
      clear hb3 hm3 ht3
      go_wp2
      refine bodyPost_ret (v := .tuple #[.slice A l.length c, .int .i64 (k : Int), .int .i64 2]) (by simp [results, Tryd.results69, go_sem]) rfl ?_
      exact HEND.out _ _ _ _ _ _ HS.out HC.out.1 HC.out.2 HG3.out.recs HG3.out.2
end Go.Proofs.YtjahkaockjhibaaDoor
