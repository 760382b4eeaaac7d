/-
  The walks over the document's answer for package lsns: Add, Raise.
-/
import Derived.Test.YtkcjhkhdpafjhaaLsnsAdd
namespace Go.Proofs.Ytkcjhkhdpafjhaa
open Go.RowKit

/-- A call's answer: a set in memory of its own, and an error's number. -/
def Told (w : World) (y : LS) (e : Nat) (r : Ending) (wr : World) : Prop := ∃ v, r = .returned (.tuple #[.agg #[.int .u64 (y.low : Int), v], .int .i64 (e : Int)]) ∧ Made w y.ins v wr

theorem Made.from {w w1 w2 : World} {l : List Nat} {v : Value} (h : Made w1 l v w2) (hb : Below w.heap.size w w1) : Made w l v w2 := by
  obtain ⟨⟨h2, h3⟩, hb2⟩ := h
  refine ⟨⟨h2, ?_⟩, hb.trans (hb2.mono hb.size)⟩
  rcases h3 with h3 | ⟨g, cap, cur, h4, h5, h6⟩
  · exact .inl h3
  · exact .inr ⟨g, cap, cur, h4, Nat.le_trans hb.size h5, h6⟩
theorem Mid.gets {w w1 w2 : World} {low n c : Nat} {A : Option Addr} {u1 u2 v : Value} {l : List Nat} (h : Mid w low A n c u1 u2 [] (.slice none 0 0) w1) (hm : Made w1 l v w2) : Mid w low A n c u1 u2 l v w2 :=
  ⟨hm.from h.made.2, h.arg.keeps hm.2, Row.below h.res hm.2 h.res.lt⟩

/-- The end of a call that tells a set and an error. -/
theorem told_zero {w wr : World} {g : Nat} {u1 u2 : Value} (hg : Row wr g 25 [u1, u2] (0, 0)) (hw : w.heap.size ≤ g) (hb : Below w.heap.size w wr) (e : Nat) :
    Row ((wr.setCell ⟨g, 0, none⟩ (.int .u64 0)).setCell ⟨g, 1, none⟩ (.slice none 0 0)) g 25 [.int .u64 0, .slice none 0 0] (0, 0) ∧
      Told w LS.zero e (.returned (.tuple #[.agg #[.int .u64 0, .slice none 0 0], .int .i64 (e : Int)])) ((wr.setCell ⟨g, 0, none⟩ (.int .u64 0)).setCell ⟨g, 1, none⟩ (.slice none 0 0)) :=
  ⟨(hg.put 0 _).put 1 _, .slice none 0 0, rfl, Made.nil _ _ ((hb.setCell hw _).setCell hw _)⟩

set_option maxRecDepth 100000 in
set_option maxHeartbeats 1000000 in
theorem radd_any (x : LV) (m : Nat) (w : World) (h : x.In w) (hn : x.n ≤ 1100) :
    Calls Try.prog 22 #[x.v, .int .u64 (m : Int)] w (Told w ((x.s.addS m).orZ (x.s.addE m)) (x.s.addE m)) := by
  have HX := Lib.hid (fun w (h : x.In w) => rright_any x w h (by omega))
  have HI := Lib.hid ((h.alloc (.cells #[.int .u64 (x.low : Int), .slice x.A x.n x.c] 25)).alloc (.cells #[.int .u64 0, .slice none 0 0] 25))
  have HW := Lib.hid (fun w (h : x.In w) (hR : x.s.right = true) => rwith_any x m w h hn hR)
  have HE := Lib.hid (show x.s.addE m = if x.s.right then (if (x.s.addS m).ins.length ≤ 1000 then 0 else 6) else 40 from rfl)
  have HZ := Lib.hid (show (x.s.addS m).orZ (x.s.addE m) = if x.s.addE m = 0 then x.s.addS m else LS.zero from rfl)
  obtain ⟨Z, hZ⟩ : ∃ Z, (x.s.addS m).orZ (x.s.addE m) = Z := ⟨_, rfl⟩
  obtain ⟨E, hE⟩ : ∃ E, x.s.addE m = E := ⟨_, rfl⟩
  rw [hZ] at HZ ⊢
  rw [hE] at HE HZ ⊢
  clear hZ hE
  have HLW := Lib.hid (show (x.s.addS m).low = x.low by unfold LS.addS; split <;> rfl)
  obtain ⟨Y, hY⟩ : ∃ Y, x.s.addS m = Y := ⟨_, rfl⟩
  obtain ⟨b, hb⟩ : ∃ b, x.s.right = b := ⟨_, rfl⟩
  rw [hY] at HW HLW HE HZ
  rw [hb] at HX HW HE
  clear hb hY
  obtain ⟨low, A, n, c, l⟩ := x
  obtain ⟨hl, hc, hnil, HR⟩ := h.parts
  clear h
  simp only [LV.v] at hn HI HX HW HLW ⊢
  subst hl
  have HM := Lib.hid (Mid.start w low A l.length c (.int .u64 0) (.slice none 0 0))
  clear hnil
  go_enter Try.func22, Try.ntmps22
  go_wp2_with fail
  refine (HX.out _ HI.out).mono ?_
  rintro e w1 ⟨rfl, hb1⟩
  have HM1 := Lib.hid (HM.out.keeps hb1)
  have HI1 := Lib.hid (HI.out.keeps hb1)
  clear hb1 HM HI HX
  cases b
  · have r0 := HM1.out.r0
    have r1 := HM1.out.r1
    have f0 := HM1.out.f0
    have f1 := HM1.out.f1
    go_wp2
    obtain ⟨hr, ht⟩ := told_zero HM1.out.res (by omega) HM1.out.made.2 40
    have k0 := hr.cell 0
    have k1 := hr.cell 1
    simp at k0 k1
    have e1 : E = 40 := HE.out
    have e2 : Z = LS.zero := by have := HZ.out; rw [e1] at this; exact this
    refine bodyPost_ret (v := .tuple #[.agg #[.int .u64 0, .slice none 0 0], .int .i64 40]) ?_ rfl (by rw [e1, e2]; exact ht)
    simp [results, Try.results22, go_sem, k0, k1]
  · have c0 := HM1.out.c0
    have c1 := HM1.out.c1
    go_wp2_with fail
    refine (HW.out _ HI1.out trivial).mono ?_
    rintro e w2 ⟨v, rfl, hm⟩
    obtain ⟨A2, c2, rfl, hc2, hn2, ho2, hb2⟩ := hm.own
    have HM2 := Lib.hid ((HM1.out.gets hm).alloc (.cells #[.int .u64 (low : Int), .slice A2 Y.ins.length c2] 25))
    clear hm ho2 hb2 HM1 HI1 HW c0 c1
    have r0 := HM2.out.r0
    have r1 := HM2.out.r1
    have f0 := HM2.out.f0
    have f1 := HM2.out.f1
    by_cases h3 : Y.ins.length ≤ 1000
    · go_wp2
      obtain ⟨hr, hm⟩ := HM2.out.made.laid HM2.out.res (by omega) (.int .u64 (low : Int)) (.slice A2 Y.ins.length c2)
      have k0 := hr.cell 0
      have k1 := hr.cell 1
      simp at k0 k1
      refine bodyPost_ret (v := .tuple #[.agg #[.int .u64 (low : Int), .slice A2 Y.ins.length c2], .int .i64 0]) ?_ rfl ?_
      · simp [results, Try.results22, go_sem, k0, k1]
      · have e1 : E = 0 := by simpa [h3] using HE.out
        have e2 : Z = Y := by have := HZ.out; rwa [if_pos e1] at this
        rw [e1, e2]
        exact ⟨_, by rw [← HLW.out]; rfl, hm⟩
    · go_wp2
      obtain ⟨hr, ht⟩ := told_zero HM2.out.res (by omega) HM2.out.made.2 6
      have k0 := hr.cell 0
      have k1 := hr.cell 1
      simp at k0 k1
      refine bodyPost_ret (v := .tuple #[.agg #[.int .u64 0, .slice none 0 0], .int .i64 6]) ?_ rfl ?_
      · simp [results, Try.results22, go_sem, k0, k1]
      · have e1 : E = 6 := by simpa [h3] using HE.out
        have e2 : Z = LS.zero := by have := HZ.out; rw [e1] at this; exact this
        rw [e1, e2]
        exact ht

/-- In the midst of Raise: besides, the set that grows lies in a third block. -/
structure Grow (w : World) (low : Nat) (A : Option Addr) (n c : Nat) (u1 u2 : Value) (b0 : Nat) (lw : Nat) (l : List Nat) (v : Value) (wr : World) : Prop where
  mid : Mid w low A n c u1 u2 l v wr
  third : Row wr b0 25 [.int .u64 (lw : Int), v] (0, 0)
  up : w.heap.size + 1 < b0

section
variable {w wr w' : World} {low b0 lw : Nat} {A : Option Addr} {n c : Nat} {u1 u2 : Value} {l l' : List Nat} {v v' : Value} {m : Nat}
theorem Mid.setRow (h : Mid w low A n c u1 u2 l v wr) {g : Nat} {old : List Value} {mk : Nat × Nat} (hg : Row wr g 25 old mk) (hw : w.heap.size + 1 < g) (i : Nat) (u : Value) : Mid w low A n c u1 u2 l v (wr.setCell ⟨g, i, none⟩ u) :=
  ⟨h.made.setCell hg (by omega) i u, Row.far h.arg (by show w.heap.size ≠ g; omega) u, Row.far h.res (by show w.heap.size + 1 ≠ g; omega) u⟩
theorem Grow.drewN (h : Grow w low A n c u1 u2 b0 lw l v wr) (k : Nat) : Grow w low A n c u1 u2 b0 lw l v (wr.drewN k) := ⟨h.mid.drewN k, h.third.drewN k, h.up⟩
theorem Grow.drew (h : Grow w low A n c u1 u2 b0 lw l v wr) : Grow w low A n c u1 u2 b0 lw l v wr.drew := ⟨h.mid.drew, h.third.drew, h.up⟩
theorem Grow.alloc (h : Grow w low A n c u1 u2 b0 lw l v wr) (o : Obj) : Grow w low A n c u1 u2 b0 lw l v (wr.alloc o) := ⟨h.mid.alloc o, h.third.alloc o, h.up⟩
theorem Grow.more (h : Grow w low A n c u1 u2 b0 lw l v wr) {y : Nat} (h1 : w'.ownsRow w.heap.size 22 1 v' (l.length + 1) (nv l ++ nv [y])) (hg : wr.grownBy w' v.ownBlock) :
    Mid w low A n c u1 u2 (l ++ [y]) v' w' ∧ Row w' b0 25 [.int .u64 (lw : Int), v] (0, 0) :=
  ⟨h.mid.more rfl h1 hg, Row.grown h.third hg (own_ne h.mid.made.1 h.third (by decide))⟩
theorem Grow.put {y : Nat} (hm : Mid w low A n c u1 u2 (l ++ [y]) v' w') (ht : Row w' b0 25 [.int .u64 (lw : Int), v] (0, 0)) (hu : w.heap.size + 1 < b0) : Grow w low A n c u1 u2 b0 lw (l ++ [y]) v' (w'.setCell ⟨b0, 1, none⟩ v') :=
  ⟨hm.setRow ht hu 1 v', ht.put 1 v', hu⟩
end

set_option maxRecDepth 100000 in
set_option maxHeartbeats 2000000 in
theorem rraise_any (x : LV) (m : Nat) (w : World) (h : x.In w) (hn : x.n ≤ 1100) :
    Calls Try.prog 24 #[x.v, .int .u64 (m : Int)] w (Told w ((x.s.raiseS m).orZ x.s.raiseE) x.s.raiseE) := by
  obtain ⟨i0, hi0, hz0, hz1, hz2⟩ := Try.info64
  have HX := Lib.hid (fun w (h : x.In w) => rright_any x w h (by omega))
  have HI := Lib.hid ((h.alloc (.cells #[.int .u64 (x.low : Int), .slice x.A x.n x.c] 25)).alloc (.cells #[.int .u64 0, .slice none 0 0] 25))
  have HE := Lib.hid (show x.s.raiseE = if x.s.right then 0 else 40 from rfl)
  have HZ := Lib.hid (show (x.s.raiseS m).orZ x.s.raiseE = if x.s.raiseE = 0 then ⟨max x.low m, x.l.filter (fun y => decide (max x.low m < y))⟩ else LS.zero from rfl)
  obtain ⟨Z, hZ⟩ : ∃ Z, (x.s.raiseS m).orZ x.s.raiseE = Z := ⟨_, rfl⟩
  obtain ⟨E, hE⟩ : ∃ E, x.s.raiseE = E := ⟨_, rfl⟩
  rw [hZ] at HZ ⊢
  rw [hE] at HE HZ ⊢
  clear hZ hE
  obtain ⟨b, hb⟩ : ∃ b, x.s.right = b := ⟨_, rfl⟩
  rw [hb] at HX HE
  clear hb
  obtain ⟨low, A, n, c, l⟩ := x
  obtain ⟨hl, hc, hnil, HR⟩ := h.parts
  clear h
  simp only [LV.v] at hn HI HX HZ ⊢
  subst hl
  have HM := Lib.hid (Mid.start w low A l.length c (.int .u64 0) (.slice none 0 0))
  clear hnil
  go_enter Try.func24, Try.ntmps24
  go_wp2_with fail
  refine (HX.out _ HI.out).mono ?_
  rintro e w1 ⟨rfl, hb1⟩
  have HM1 := Lib.hid (HM.out.keeps hb1)
  clear hb1 HM HI HX
  cases b
  · have r0 := HM1.out.r0
    have r1 := HM1.out.r1
    have f0 := HM1.out.f0
    have f1 := HM1.out.f1
    go_wp2
    obtain ⟨hr, ht⟩ := told_zero HM1.out.res (by omega) HM1.out.made.2 40
    have k0 := hr.cell 0
    have k1 := hr.cell 1
    simp at k0 k1
    have e1 : E = 40 := HE.out
    have e2 : Z = LS.zero := by have := HZ.out; rw [e1] at this; exact this
    refine bodyPost_ret (v := .tuple #[.agg #[.int .u64 0, .slice none 0 0], .int .i64 40]) ?_ rfl (by rw [e1, e2]; exact ht)
    simp [results, Try.results24, go_sem, k0, k1]
  · have e1 : E = 0 := HE.out
    have e2 : Z = ⟨max low m, l.filter (fun y => decide (max low m < y))⟩ := by have := HZ.out; rwa [if_pos e1] at this
    subst e1 e2
    clear HE HZ
    obtain ⟨M, hM⟩ : ∃ M, max low m = M := ⟨_, rfl⟩
    rw [hM]
    have c0 := HM1.out.c0
    have c1 := HM1.out.c1
    have HG1 := Lib.hid (show Grow w low A l.length c (.int .u64 0) (.slice none 0 0) w1.heap.size M [] (.slice none 0 0) (w1.alloc (.cells #[.int .u64 (M : Int), .slice none 0 0] 25)) from
      ⟨HM1.out.alloc _, Row.new w1 25 [.int .u64 (M : Int), .slice none 0 0] (0, 0), HM1.out.res.lt⟩)
    by_cases hlm : low < m
    · have hMm : M = m := by omega
      subst hMm
      go_wp2_with fail
      clear c0 c1
      have HMM := Lib.hid hM
      clear hM
      go_loopw [7] (fun i wr => ∃ (k : Nat) (v : Value), k ≤ l.length ∧ i = .int .i64 k ∧ Grow w low A l.length c (.int .u64 0) (.slice none 0 0) w1.heap.size M ((l.take k).filter (fun y => decide (M < y))) v wr) (fun i _ => l.length - (intOf i).toNat)
      case atStart => exact ⟨0, .slice none 0 0, by omega, rfl, HG1.out⟩
      case round =>
        obtain ⟨k, v, hk, rfl, hg⟩ := hrel
        obtain ⟨F, hF⟩ : ∃ F, (l.take k).filter (fun y => decide (M < y)) = F := ⟨_, rfl⟩
        rw [hF] at hg
        have HFL := Lib.hid (show F.length ≤ 1100 by rw [← hF]; exact Nat.le_trans (List.length_filter_le _ _) (by rw [List.length_take]; omega))
        have HF := Lib.hid hF
        clear hF
        obtain ⟨A2, c2, rfl, _⟩ := hg.mid.made.own
        have HGR := Lib.hid hg
        have c0 := hg.mid.c0
        have c1 := hg.mid.c1
        have t0 : wr.cell? ⟨w1.heap.size, 0, none⟩ = some (.int .u64 (M : Int)) := by rw [hg.third.cell]; rfl
        have t1 : wr.cell? ⟨w1.heap.size, 1, none⟩ = some (.slice A2 F.length c2) := by rw [hg.third.cell]; rfl
        have g1 := hg.third.loose 1
        by_cases hlen : k < l.length
        · have HT := Lib.hid (List.take_succ_eq_append_getElem hlen)
          obtain ⟨g, off, rfl, hcell⟩ := (hg.mid.reads HR.out).cells (by omega)
          have hk1 := hcell k hlen
          obtain ⟨y, hy⟩ : ∃ y, l[k] = y := ⟨_, rfl⟩
          rw [hy] at hk1 HT
          have HYL := Lib.hid hy
          clear hy hcell hg
          by_cases e1 : M < y
          · have HT2 := Lib.hid (show (l.take (k + 1)).filter (fun y => decide (M < y)) = F ++ [y] by
              rw [HT.out, List.filter_append, HF.out]; simp [e1])
            go_wp2_with (go_quiet (fail))
            have HQ := Lib.hid (((HGR.out.drewN nq).drew).alloc (.cells #[.int .u64 (y : Int)] 22))
            have HQ := Lib.hid (show Grow _ _ _ _ _ _ _ _ _ _ _ ((wr.drewN (nq + 1)).alloc (.cells #[.int .u64 (y : Int)] 22)) from HQ.out)
            have HOW := Lib.hid HQ.out.mid.made.1
            have a1 : ((wr.drewN (nq + 1)).alloc (.cells #[.int .u64 (y : Int)] 22)).cell? ⟨w1.heap.size, 1, none⟩ = some (.slice A2 F.length c2) := by rw [HQ.out.third.cell]; rfl
            have a2 := HQ.out.mid.c1
            have a3 : ((wr.drewN (nq + 1)).alloc (.cells #[.int .u64 (y : Int)] 22)).cell? ⟨g, off + k, none⟩ = some (.int .u64 (y : Int)) := by
              obtain ⟨g', off', hg', hcell⟩ := (HQ.out.mid.reads HR.out).cells (by omega)
              simp only [Option.some.injEq, Addr.mk.injEq, and_true] at hg'
              obtain ⟨rfl, rfl⟩ := hg'
              rw [hcell k hlen, HYL.out]
            have HSZ := Lib.hid HQ.out.mid.made.2.size
            have HRY := Lib.hid (rn_one (wr.drewN nq).drew y)
            have HG := Lib.hid (fun (v : Value) (w4 : World) (hown : w4.ownsRow w.heap.size 22 1 v (F.length + 1) (nv F ++ nv [y])) (hgr : ((wr.drewN nq).drew.alloc (.cells #[.int .u64 (y : Int)] 22)).grownBy w4 (Value.slice A2 F.length c2).ownBlock) =>
              show ∃ A4 c4, v = .slice A4 (F.length + 1) c4 ∧ w4.cell? ⟨w1.heap.size, 0, none⟩ = some (.int .u64 (M : Int)) ∧ w4.cell? ⟨w1.heap.size, 1, none⟩ = some (.slice A2 F.length c2) ∧ w4.frozen? ⟨w1.heap.size, 1, none⟩ = false ∧ Grow w low (some ⟨g, off, none⟩) l.length c (.int .u64 0) (.slice none 0 0) w1.heap.size M (F ++ [y]) (.slice A4 (F.length + 1) c4) (w4.setCell ⟨w1.heap.size, 1, none⟩ (.slice A4 (F.length + 1) c4)) from by
                obtain ⟨hm, ht⟩ := HQ.out.more hown hgr
                obtain ⟨A4, c4, hv, _⟩ := hm.made.own
                rw [show (F ++ [y]).length = F.length + 1 by simp] at hv
                subst hv
                exact ⟨A4, c4, rfl, by rw [ht.cell]; rfl, by rw [ht.cell]; rfl, ht.loose 1, Grow.put hm ht HQ.out.up⟩)
            go_wp2_with fail
            go_region_law (refine step_own_nums rfl (.tmp 37) (.tmp 43) 23 rfl w.heap.size 22 i0 Try.underlying23 hi0 hz0 hz1 hz2 (.slice A2 F.length c2) F.length _ (by rfl) HOW.out _ [y] 1 1 (by rfl) rfl HRY.out (fun e => by cases e) (by have := HFL.out; omega) HSZ.out ?_; intro v4 w4 hown hgr; obtain ⟨A4, c4, rfl, s0, s1, s2, HGF⟩ := HG.out v4 w4 hown hgr; clear hown hgr)
            all_goals
              go_wp2
              go_round
              case rel => exact ⟨k + 1, _, by omega, by go_num, by rw [HT2.out]; exact HGF⟩
              case measure => simp [intOf]; omega
          · have e2 : decide ((M : Int) < (y : Int)) = false := decide_eq_false (by omega)
            have HT2 := Lib.hid (show (l.take (k + 1)).filter (fun y => decide (M < y)) = F by
              rw [HT.out, List.filter_append, HF.out]; simp [e1])
            go_wp2_with (go_quiet (fail))
            go_wp2
            go_round
            case rel => exact ⟨k + 1, _, by omega, by go_num, by rw [HT2.out]; exact ⟨HGR.out.mid.drewN _, HGR.out.third.drewN _, HGR.out.up⟩⟩
            case measure => simp [intOf]; omega
        · obtain rfl : k = l.length := by omega
          clear hg
          have r0 := HGR.out.mid.r0
          have r1 := HGR.out.mid.r1
          have f0 := HGR.out.mid.f0
          have f1 := HGR.out.mid.f1
          rw [List.take_length] at HF
          go_wp2
          obtain ⟨hr, hm⟩ := HGR.out.mid.made.laid HGR.out.mid.res (by omega) (.int .u64 (M : Int)) (.slice A2 F.length c2)
          have k0 := hr.cell 0
          have k1 := hr.cell 1
          simp at k0 k1
          refine bodyPost_ret (v := .tuple #[.agg #[.int .u64 (M : Int), .slice A2 F.length c2], .int .i64 0]) ?_ rfl ?_
          · simp [results, Try.results24, go_sem, k0, k1]
          · rw [HMM.out, HF.out]; exact ⟨_, rfl, hm⟩
    · have hMm : M = low := by omega
      subst hMm
      go_wp2_with fail
      clear c0 c1
      have HMM := Lib.hid hM
      clear hM
      go_loopw [7] (fun i wr => ∃ (k : Nat) (v : Value), k ≤ l.length ∧ i = .int .i64 k ∧ Grow w M A l.length c (.int .u64 0) (.slice none 0 0) w1.heap.size M ((l.take k).filter (fun y => decide (M < y))) v wr) (fun i _ => l.length - (intOf i).toNat)
      case atStart => exact ⟨0, .slice none 0 0, by omega, rfl, HG1.out⟩
      case round =>
        obtain ⟨k, v, hk, rfl, hg⟩ := hrel
        obtain ⟨F, hF⟩ : ∃ F, (l.take k).filter (fun y => decide (M < y)) = F := ⟨_, rfl⟩
        rw [hF] at hg
        have HFL := Lib.hid (show F.length ≤ 1100 by rw [← hF]; exact Nat.le_trans (List.length_filter_le _ _) (by rw [List.length_take]; omega))
        have HF := Lib.hid hF
        clear hF
        obtain ⟨A2, c2, rfl, _⟩ := hg.mid.made.own
        have HGR := Lib.hid hg
        have c0 := hg.mid.c0
        have c1 := hg.mid.c1
        have t0 : wr.cell? ⟨w1.heap.size, 0, none⟩ = some (.int .u64 (M : Int)) := by rw [hg.third.cell]; rfl
        have t1 : wr.cell? ⟨w1.heap.size, 1, none⟩ = some (.slice A2 F.length c2) := by rw [hg.third.cell]; rfl
        have g1 := hg.third.loose 1
        by_cases hlen : k < l.length
        · have HT := Lib.hid (List.take_succ_eq_append_getElem hlen)
          obtain ⟨g, off, rfl, hcell⟩ := (hg.mid.reads HR.out).cells (by omega)
          have hk1 := hcell k hlen
          obtain ⟨y, hy⟩ : ∃ y, l[k] = y := ⟨_, rfl⟩
          rw [hy] at hk1 HT
          have HYL := Lib.hid hy
          clear hy hcell hg
          by_cases e1 : M < y
          · have HT2 := Lib.hid (show (l.take (k + 1)).filter (fun y => decide (M < y)) = F ++ [y] by
              rw [HT.out, List.filter_append, HF.out]; simp [e1])
            go_wp2_with (go_quiet (fail))
            have HQ := Lib.hid (((HGR.out.drewN nq).drew).alloc (.cells #[.int .u64 (y : Int)] 22))
            have HQ := Lib.hid (show Grow _ _ _ _ _ _ _ _ _ _ _ ((wr.drewN (nq + 1)).alloc (.cells #[.int .u64 (y : Int)] 22)) from HQ.out)
            have HOW := Lib.hid HQ.out.mid.made.1
            have a1 : ((wr.drewN (nq + 1)).alloc (.cells #[.int .u64 (y : Int)] 22)).cell? ⟨w1.heap.size, 1, none⟩ = some (.slice A2 F.length c2) := by rw [HQ.out.third.cell]; rfl
            have a2 := HQ.out.mid.c1
            have a3 : ((wr.drewN (nq + 1)).alloc (.cells #[.int .u64 (y : Int)] 22)).cell? ⟨g, off + k, none⟩ = some (.int .u64 (y : Int)) := by
              obtain ⟨g', off', hg', hcell⟩ := (HQ.out.mid.reads HR.out).cells (by omega)
              simp only [Option.some.injEq, Addr.mk.injEq, and_true] at hg'
              obtain ⟨rfl, rfl⟩ := hg'
              rw [hcell k hlen, HYL.out]
            have HSZ := Lib.hid HQ.out.mid.made.2.size
            have HRY := Lib.hid (rn_one (wr.drewN nq).drew y)
            have HG := Lib.hid (fun (v : Value) (w4 : World) (hown : w4.ownsRow w.heap.size 22 1 v (F.length + 1) (nv F ++ nv [y])) (hgr : ((wr.drewN nq).drew.alloc (.cells #[.int .u64 (y : Int)] 22)).grownBy w4 (Value.slice A2 F.length c2).ownBlock) =>
              show ∃ A4 c4, v = .slice A4 (F.length + 1) c4 ∧ w4.cell? ⟨w1.heap.size, 0, none⟩ = some (.int .u64 (M : Int)) ∧ w4.cell? ⟨w1.heap.size, 1, none⟩ = some (.slice A2 F.length c2) ∧ w4.frozen? ⟨w1.heap.size, 1, none⟩ = false ∧ Grow w M (some ⟨g, off, none⟩) l.length c (.int .u64 0) (.slice none 0 0) w1.heap.size M (F ++ [y]) (.slice A4 (F.length + 1) c4) (w4.setCell ⟨w1.heap.size, 1, none⟩ (.slice A4 (F.length + 1) c4)) from by
                obtain ⟨hm, ht⟩ := HQ.out.more hown hgr
                obtain ⟨A4, c4, hv, _⟩ := hm.made.own
                rw [show (F ++ [y]).length = F.length + 1 by simp] at hv
                subst hv
                exact ⟨A4, c4, rfl, by rw [ht.cell]; rfl, by rw [ht.cell]; rfl, ht.loose 1, Grow.put hm ht HQ.out.up⟩)
            go_wp2_with fail
            go_region_law (refine step_own_nums rfl (.tmp 37) (.tmp 43) 23 rfl w.heap.size 22 i0 Try.underlying23 hi0 hz0 hz1 hz2 (.slice A2 F.length c2) F.length _ (by rfl) HOW.out _ [y] 1 1 (by rfl) rfl HRY.out (fun e => by cases e) (by have := HFL.out; omega) HSZ.out ?_; intro v4 w4 hown hgr; obtain ⟨A4, c4, rfl, s0, s1, s2, HGF⟩ := HG.out v4 w4 hown hgr; clear hown hgr)
            all_goals
              go_wp2
              go_round
              case rel => exact ⟨k + 1, _, by omega, by go_num, by rw [HT2.out]; exact HGF⟩
              case measure => simp [intOf]; omega
          · have e2 : decide ((M : Int) < (y : Int)) = false := decide_eq_false (by omega)
            have HT2 := Lib.hid (show (l.take (k + 1)).filter (fun y => decide (M < y)) = F by
              rw [HT.out, List.filter_append, HF.out]; simp [e1])
            go_wp2_with (go_quiet (fail))
            go_wp2
            go_round
            case rel => exact ⟨k + 1, _, by omega, by go_num, by rw [HT2.out]; exact ⟨HGR.out.mid.drewN _, HGR.out.third.drewN _, HGR.out.up⟩⟩
            case measure => simp [intOf]; omega
        · obtain rfl : k = l.length := by omega
          clear hg
          have r0 := HGR.out.mid.r0
          have r1 := HGR.out.mid.r1
          have f0 := HGR.out.mid.f0
          have f1 := HGR.out.mid.f1
          rw [List.take_length] at HF
          go_wp2
          obtain ⟨hr, hm⟩ := HGR.out.mid.made.laid HGR.out.mid.res (by omega) (.int .u64 (M : Int)) (.slice A2 F.length c2)
          have k0 := hr.cell 0
          have k1 := hr.cell 1
          simp at k0 k1
          refine bodyPost_ret (v := .tuple #[.agg #[.int .u64 (M : Int), .slice A2 F.length c2], .int .i64 0]) ?_ rfl ?_
          · simp [results, Try.results24, go_sem, k0, k1]
          · rw [HMM.out, HF.out]; exact ⟨_, rfl, hm⟩

end Go.Proofs.Ytkcjhkhdpafjhaa
