/-
  The walks over the document's answer for package lsns: Right, Has, Most, Same.
-/
import Derived.Test.YtkcjhkhdpafjhaaLsnsBase
namespace Go.Proofs.Ytkcjhkhdpafjhaa
open Go.RowKit

set_option maxRecDepth 100000 in
set_option maxHeartbeats 1000000 in
theorem rright_any (x : LV) (w : World) (h : x.In w) (hn : x.n ≤ 9223372036854775807) :
    Calls Try.prog 13 #[x.v] w fun r w' => r = .returned (.bool x.s.right) ∧ Below w.heap.size w w' := by
  obtain ⟨low, A, n, c, l⟩ := x
  obtain ⟨hl, hc, _, _, _, hr⟩ := h
  simp only at hl hc hr hn
  subst hl
  have HN := Lib.hid (below_new w (.cells #[.int .u64 (low : Int), .slice A l.length c] 25))
  have HR := Lib.hid (hr.alloc (.cells #[.int .u64 (low : Int), .slice A l.length c] 25))
  have HL := Lib.hid (LiesS.new w low A l.length c)
  show Calls Try.prog _ #[.agg #[.int .u64 (low : Int), .slice A l.length c]] w fun r w' => r = .returned (.bool (LS.right ⟨low, l⟩)) ∧ Below w.heap.size w w'
  unfold LS.right
  simp only
  by_cases hbig : l.length ≤ 1000
  · rw [decide_eq_true hbig, Bool.true_and]
    go_enter Try.func13, Try.ntmps13
    go_wp2
    obtain ⟨W, hW⟩ : ∃ W, w.alloc (.cells #[.int .u64 (low : Int), .slice A l.length c] 25) = W := ⟨_, rfl⟩
    rw [hW] at HN HR HL
    simp only [hW]
    clear hr hW
    go_loopw [3] (fun i wr => ∃ k : Nat, k ≤ l.length ∧ i = .int .i64 k ∧ asc low (l.take k) = true ∧ Keep W wr) (fun i _ => l.length - (intOf i).toNat)
    case atStart => exact ⟨0, by omega, rfl, rfl, Keep.refl W⟩
    case round =>
      obtain ⟨k, hk, rfl, ha, hkp⟩ := hrel
      have HK := Lib.hid hkp
      have c0 := (HL.out.keep hkp).c0
      have c1 := (HL.out.keep hkp).c1
      by_cases hlt : k < l.length
      · obtain ⟨g, off, rfl, hcell⟩ := (HR.out.keep hkp).cells (by omega)
        clear hkp
        have hk1 := hcell k hlt
        have hstep := Lib.hid (asc_take hlt ha)
        have hlast : 0 < k → ∃ z, l[k - 1]'(by omega) = z ∧ wr.cell? ⟨g, off + (k - 1), none⟩ = some (.int .u64 (z : Int)) := fun _ => ⟨_, rfl, hcell (k - 1) (by omega)⟩
        obtain ⟨y, hy⟩ : ∃ y, l[k] = y := ⟨_, rfl⟩
        rw [hy] at hk1 hstep
        have HY := Lib.hid hy
        clear hy hcell
        by_cases e1 : y ≤ low
        · have hf : asc low l = false := asc_of_take (k + 1) (by rw [hstep.out, decide_eq_false (by omega), Bool.false_and])
          have HF := Lib.hid hf
          clear hf ha hstep
          go_wp2_with (go_quiet (fail))
          go_wp2
          go_ret
          exact ⟨by rw [HF.out]; rfl, HN.out.trans ((HK.out.drewN _).mono HN.out.size)⟩
        · have hd1 : decide ((y : Int) ≤ (low : Int)) = false := decide_eq_false (by omega)
          by_cases e2 : 0 < k
          · obtain ⟨z, hz, hcz⟩ := hlast e2
            rw [dif_pos e2, hz] at hstep
            clear hz hlast
            obtain ⟨j, rfl⟩ : ∃ j, k = j + 1 := ⟨k - 1, by omega⟩
            rw [Nat.add_sub_cancel] at hcz
            have hd2 : decide (0 < ((j + 1 : Nat) : Int)) = true := decide_eq_true (by omega)
            by_cases e3 : y ≤ z
            · have hf : asc low l = false := asc_of_take (j + 1 + 1) (by rw [hstep.out, decide_eq_false (by omega : ¬ z < y), Bool.and_false])
              have HF := Lib.hid hf
              clear hf ha hstep
              go_wp2_with (go_quiet (fail))
              go_wp2
              go_ret
              exact ⟨by rw [HF.out]; rfl, HN.out.trans ((HK.out.drewN _).mono HN.out.size)⟩
            · have hd3 : decide ((y : Int) ≤ (z : Int)) = false := decide_eq_false (by omega)
              have HT := Lib.hid (show asc low (l.take (j + 1 + 1)) = true by rw [hstep.out, decide_eq_true (by omega : low < y), decide_eq_true (by omega : z < y)]; rfl)
              clear ha hstep
              go_wp2_with (go_quiet (fail))
              go_wp2
              go_round
              case rel => exact ⟨j + 1 + 1, by omega, by go_num, HT.out, HK.out.drewN _⟩
              case measure => simp [intOf]; omega
          · have hd2 : decide (0 < (k : Int)) = false := decide_eq_false (by omega)
            have HT := Lib.hid (show asc low (l.take (k + 1)) = true by rw [hstep.out, dif_neg e2, decide_eq_true (by omega : low < y)]; rfl)
            clear ha hstep hlast
            go_wp2_with (go_quiet (fail))
            go_wp2
            go_round
            case rel => exact ⟨k + 1, by omega, by go_num, HT.out, HK.out.drewN _⟩
            case measure => simp [intOf]; omega
      · obtain rfl : k = l.length := by omega
        rw [List.take_length] at ha
        have HA := Lib.hid ha
        clear ha hkp
        go_wp2
        go_ret
        exact ⟨by rw [HA.out]; rfl, HN.out.trans (HK.out.mono HN.out.size)⟩
  · rw [decide_eq_false hbig, Bool.false_and]
    go_enter Try.func13, Try.ntmps13
    go_wp2
    go_ret
    exact ⟨rfl, HN.out⟩

theorem contains_take (l : List Nat) (k m : Nat) (h : k < l.length) : (l.take (k + 1)).contains m = ((l.take k).contains m || l[k] == m) := by
  rw [List.take_succ_eq_append_getElem h, Bool.eq_iff_iff, Bool.or_eq_true, List.contains_iff_mem, List.contains_iff_mem, List.mem_append, List.mem_singleton, beq_iff_eq, eq_comm (a := m)]

/-- What each walk wants of its argument. -/
theorem LV.In.parts {w : World} {low : Nat} {A : Option Addr} {n c : Nat} {l : List Nat} (h : LV.In w ⟨low, A, n, c, l⟩) :
    l.length = n ∧ n ≤ c ∧ (A = none → c = 0) ∧ Hid (RN w A l) := ⟨h.len, h.cap, h.nil, Lib.hid h.reads⟩

set_option maxRecDepth 100000 in
set_option maxHeartbeats 1000000 in
theorem rhas_any (x : LV) (m : Nat) (w : World) (h : x.In w) (hn : x.n ≤ 9223372036854775807) :
    Calls Try.prog 15 #[x.v, .int .u64 (m : Int)] w fun r w' => r = .returned (.bool (x.s.has m)) ∧ Below w.heap.size w w' := by
  have HX := Lib.hid (fun w (h : x.In w) => rright_any x w h hn)
  have HI := Lib.hid (h.alloc (.cells #[.int .u64 (x.low : Int), .slice x.A x.n x.c] 25))
  have HE : x.s.has m = (x.s.right && (decide (m ≤ x.low) || x.l.contains m)) := rfl
  rw [HE]
  clear HE
  obtain ⟨R, hR⟩ : ∃ R, x.s.right = R := ⟨_, rfl⟩
  rw [hR] at HX ⊢
  clear hR
  obtain ⟨low, A, n, c, l⟩ := x
  obtain ⟨hl, hc, hnil, HR⟩ := h.parts
  clear h
  simp only [LV.v] at hn HI HX ⊢
  subst hl
  have HN := Lib.hid (below_new w (.cells #[.int .u64 (low : Int), .slice A l.length c] 25))
  have HR := Lib.hid (HR.out.alloc (.cells #[.int .u64 (low : Int), .slice A l.length c] 25))
  have HL := Lib.hid (LiesS.new w low A l.length c)
  obtain ⟨W, hW⟩ : ∃ W, w.alloc (.cells #[.int .u64 (low : Int), .slice A l.length c] 25) = W := ⟨_, rfl⟩
  rw [hW] at HN HR HL HI
  have c0 := HL.out.c0
  have c1 := HL.out.c1
  go_enter Try.func15, Try.ntmps15
  go_wp2
  clear hW
  obtain ⟨b0, hb0⟩ : ∃ b0, decide (m ≤ low) = b0 := ⟨_, rfl⟩
  go_loop [5, 6] (fun is i => ∃ (k : Nat) (b : Bool), k ≤ l.length ∧ i = .int .i64 k ∧ is = .bool b ∧ b = (b0 || (l.take k).contains m)) (fun _ i => l.length - (intOf i).toNat)
  case atStart => exact ⟨0, b0, by omega, rfl, by rw [hb0], by simp⟩
  case round =>
    obtain ⟨k, b, hk, rfl, rfl, hb⟩ := hrel
    have HB := Lib.hid hb
    clear hb
    by_cases hlt : k < l.length
    · have HT := Lib.hid (contains_take l k m hlt)
      cases b
      · obtain ⟨g, off, rfl, hcell⟩ := HR.out.cells (by omega)
        have hk1 := hcell k hlt
        obtain ⟨y, hy⟩ : ∃ y, l[k] = y := ⟨_, rfl⟩
        rw [hy] at hk1
        have HY := Lib.hid hy
        clear hy hcell
        go_wp2
        go_round
        case rel => exact ⟨k + 1, _, by omega, by go_num, rfl, by rw [HT.out, HY.out, ← Bool.or_assoc, ← HB.out, Bool.false_or, Bool.eq_iff_iff]; simp; omega⟩
        case measure => simp [intOf]; omega
      · go_wp2
        go_round
        case rel => exact ⟨k + 1, _, by omega, by go_num, rfl, by rw [HT.out, ← Bool.or_assoc, ← HB.out]; rfl⟩
        case measure => simp [intOf]; omega
    · obtain rfl : k = l.length := by omega
      rw [List.take_length] at HB
      go_wp2_with fail
      refine (HX.out _ HI.out).mono ?_
      rintro e w1 ⟨rfl, hb1⟩
      have HB1 := Lib.hid hb1
      clear hb1
      cases R
      all_goals
        go_wp2
        go_ret
        exact ⟨by first | rfl | (rw [hb0, ← HB.out]; rfl), HN.out.trans (HB1.out.mono HN.out.size)⟩

theorem rmost_take (l : List Nat) (low k : Nat) (h : k < l.length) : (l.take (k + 1)).getLast?.getD low = l[k] := by
  rw [List.take_succ_eq_append_getElem h, List.getLast?_concat]; rfl

set_option maxRecDepth 100000 in
set_option maxHeartbeats 1000000 in
theorem rmost_any (x : LV) (w : World) (h : x.In w) (hn : x.n ≤ 9223372036854775807) :
    Calls Try.prog 17 #[x.v] w fun r w' => r = .returned (.int .u64 (x.s.most : Int)) ∧ Below w.heap.size w w' := by
  have HX := Lib.hid (fun w (h : x.In w) => rright_any x w h hn)
  have HI := Lib.hid (h.alloc (.cells #[.int .u64 (x.low : Int), .slice x.A x.n x.c] 25))
  have HE : x.s.most = if x.s.right then x.l.getLast?.getD x.low else 0 := rfl
  rw [HE]
  clear HE
  obtain ⟨R, hR⟩ : ∃ R, x.s.right = R := ⟨_, rfl⟩
  rw [hR] at HX ⊢
  clear hR
  obtain ⟨low, A, n, c, l⟩ := x
  obtain ⟨hl, hc, hnil, HR⟩ := h.parts
  clear h
  simp only [LV.v] at hn HI HX ⊢
  subst hl
  have HN := Lib.hid (below_new w (.cells #[.int .u64 (low : Int), .slice A l.length c] 25))
  have HR := Lib.hid (HR.out.alloc (.cells #[.int .u64 (low : Int), .slice A l.length c] 25))
  have HL := Lib.hid (LiesS.new w low A l.length c)
  obtain ⟨W, hW⟩ : ∃ W, w.alloc (.cells #[.int .u64 (low : Int), .slice A l.length c] 25) = W := ⟨_, rfl⟩
  rw [hW] at HN HR HL HI
  have c0 := HL.out.c0
  have c1 := HL.out.c1
  go_enter Try.func17, Try.ntmps17
  go_wp2_with fail
  clear c0 c1
  refine (HX.out _ HI.out).mono ?_
  rintro e w1 ⟨rfl, hb1⟩
  have HB1 := Lib.hid hb1
  have c0 := (HL.out.keeps hb1).c0
  have c1 := (HL.out.keeps hb1).c1
  have HR1 := Lib.hid (HR.out.keeps hb1)
  clear hb1 HR HL HI HX
  clear hW
  cases R
  · go_wp2
    go_ret
    exact ⟨rfl, HN.out.trans (HB1.out.mono HN.out.size)⟩
  · go_wp2
    go_loop [3, 4] (fun vn i => ∃ (k : Nat), k ≤ l.length ∧ i = .int .i64 k ∧ vn = .int .u64 (((l.take k).getLast?.getD low : Nat) : Int)) (fun _ i => l.length - (intOf i).toNat)
    case atStart => exact ⟨0, by omega, rfl, by simp⟩
    case round =>
      obtain ⟨k, hk, rfl, rfl⟩ := hrel
      by_cases hlt : k < l.length
      · have HT := Lib.hid (rmost_take l low k hlt)
        obtain ⟨g, off, rfl, hcell⟩ := HR1.out.cells (by omega)
        have hk1 := hcell k hlt
        obtain ⟨y, hy⟩ : ∃ y, l[k] = y := ⟨_, rfl⟩
        rw [hy] at hk1
        have HY := Lib.hid hy
        clear hy hcell
        obtain ⟨z, hz⟩ : ∃ z, (l.take k).getLast?.getD low = z := ⟨_, rfl⟩
        rw [hz]
        clear hz
        go_wp2
        go_round
        case rel => exact ⟨k + 1, by omega, by go_num, by rw [HT.out, HY.out]⟩
        case measure => simp [intOf]; omega
      · obtain rfl : k = l.length := by omega
        rw [List.take_length]
        obtain ⟨z, hz⟩ : ∃ z, l.getLast?.getD low = z := ⟨_, rfl⟩
        have HZ := Lib.hid hz
        rw [hz]
        clear hz
        go_wp2
        go_ret
        exact ⟨by rw [HZ.out]; rfl, HN.out.trans (HB1.out.mono HN.out.size)⟩

set_option maxRecDepth 100000 in
set_option maxHeartbeats 1000000 in
theorem rsame_any (x y : LV) (w : World) (hx : x.In w) (hy : y.In w) (hn : x.n ≤ 9223372036854775807) (hn2 : y.n ≤ 9223372036854775807) :
    Calls Try.prog 19 #[x.v, y.v] w fun r w' => r = .returned (.bool (decide (x.s = y.s))) ∧ Below w.heap.size w w' := by
  have HE : decide (x.s = y.s) = (decide (x.low = y.low) && decide (x.l = y.l)) := by
    rw [Bool.eq_iff_iff]; simp [LV.s]
  rw [HE]
  clear HE
  obtain ⟨low, A, n, c, l⟩ := x
  obtain ⟨low2, A2, n2, cc2, l2⟩ := y
  obtain ⟨hl, hc, hnil, HR⟩ := hx.parts
  obtain ⟨hl2, hc2, hnil2, HR2⟩ := hy.parts
  clear hx hy
  simp only [LV.v] at hn hn2 ⊢
  subst hl
  have HN2 := Lib.hid hl2
  clear hl2
  have HN := Lib.hid ((below_new w (.cells #[.int .u64 (low : Int), .slice A l.length c] 25)).trans ((below_new _ (.cells #[.int .u64 (low2 : Int), .slice A2 n2 cc2] 25)).mono (by rw [size_new]; omega)))
  have HR := Lib.hid ((HR.out.alloc (.cells #[.int .u64 (low : Int), .slice A l.length c] 25)).alloc (.cells #[.int .u64 (low2 : Int), .slice A2 n2 cc2] 25))
  have HR2 := Lib.hid ((HR2.out.alloc (.cells #[.int .u64 (low : Int), .slice A l.length c] 25)).alloc (.cells #[.int .u64 (low2 : Int), .slice A2 n2 cc2] 25))
  have HL := Lib.hid ((LiesS.new w low A l.length c).keeps (below_new _ (.cells #[.int .u64 (low2 : Int), .slice A2 n2 cc2] 25)))
  have HL2 := Lib.hid (LiesS.new (w.alloc (.cells #[.int .u64 (low : Int), .slice A l.length c] 25)) low2 A2 n2 cc2)
  rw [size_new] at HL2
  obtain ⟨W, hW⟩ : ∃ W, (w.alloc (.cells #[.int .u64 (low : Int), .slice A l.length c] 25)).alloc (.cells #[.int .u64 (low2 : Int), .slice A2 n2 cc2] 25) = W := ⟨_, rfl⟩
  rw [hW] at HN HR HL HR2 HL2
  have c0 := HL.out.c0
  have c1 := HL.out.c1
  have d0 := HL2.out.c0
  have d1 := HL2.out.c1
  by_cases e1 : low = low2
  · subst e1
    by_cases e2 : l.length = n2
    · subst e2
      have HN2 := HN2
      go_enter Try.func19, Try.ntmps19
      go_wp2
      clear hW c0 c1 d0 d1
      go_loopw [5] (fun i wr => ∃ k : Nat, k ≤ l.length ∧ i = .int .i64 k ∧ l.take k = l2.take k ∧ Keep W wr) (fun i _ => l.length - (intOf i).toNat)
      case atStart => exact ⟨0, by omega, rfl, rfl, Keep.refl W⟩
      case round =>
        obtain ⟨k, hk, rfl, ha, hkp⟩ := hrel
        have HK := Lib.hid hkp
        have HA := Lib.hid ha
        have c0 := (HL.out.keep hkp).c0
        have c1 := (HL.out.keep hkp).c1
        have d0 := (HL2.out.keep hkp).c0
        have d1 := (HL2.out.keep hkp).c1
        by_cases hlt : k < l.length
        · obtain ⟨g, off, rfl, hcell⟩ := (HR.out.keep hkp).cells (by omega)
          have hlt2 : k < l2.length := by rw [HN2.out]; exact hlt
          obtain ⟨g2, off2, rfl, hcell2⟩ := (HR2.out.keep hkp).cells (by omega)
          clear hkp ha
          have hk1 := hcell k hlt
          have hk2 := hcell2 k hlt2
          have HT := Lib.hid (show l.take (k + 1) = l2.take (k + 1) ↔ l[k] = l2[k] from by
            rw [List.take_succ_eq_append_getElem hlt, List.take_succ_eq_append_getElem hlt2, HA.out, List.append_cancel_left_eq, List.cons.injEq]; simp only [and_true])
          have HT2 := Lib.hid (show l = l2 → l[k] = l2[k] from fun e => by subst e; rfl)
          obtain ⟨y1, hy1⟩ : ∃ y, l[k] = y := ⟨_, rfl⟩
          obtain ⟨y2, hy2⟩ : ∃ y, l2[k] = y := ⟨_, rfl⟩
          rw [hy1] at hk1 HT HT2
          rw [hy2] at hk2 HT HT2
          clear hcell hcell2 hy1 hy2
          by_cases e3 : y1 = y2
          · subst e3
            go_wp2_with (go_quiet (fail))
            go_wp2
            go_round
            case rel => exact ⟨k + 1, by omega, by go_num, HT.out.2 rfl, HK.out.drewN _⟩
            case measure => simp [intOf]; omega
          · have e4 : ¬ ((y1 : Int) = (y2 : Int)) := by omega
            go_wp2_with (go_quiet (fail))
            go_wp2
            go_ret
            have hd : decide (l = l2) = false := decide_eq_false (fun e => e3 (HT2.out e))
            exact ⟨by rw [hd]; rfl, HN.out.trans ((HK.out.drewN _).mono HN.out.size)⟩
        · obtain rfl : k = l.length := by omega
          clear hkp ha
          go_wp2
          go_ret
          have hll : l = l2 := by
            have := HA.out
            rwa [List.take_length, ← HN2.out, List.take_length] at this
          exact ⟨by rw [decide_eq_true hll]; rfl, HN.out.trans (HK.out.mono HN.out.size)⟩
    · have e3 : ¬ ((l.length : Int) = (n2 : Int)) := by omega
      go_enter Try.func19, Try.ntmps19
      go_wp2
      go_ret
      have hd : decide (l = l2) = false := decide_eq_false (fun e => e2 (by rw [e, HN2.out]))
      exact ⟨by rw [hd]; rfl, HN.out⟩
  · have e3 : ¬ ((low : Int) = (low2 : Int)) := by omega
    go_enter Try.func19, Try.ntmps19
    go_wp2
    go_ret
    have hd : decide (low = low2) = false := decide_eq_false e1
    exact ⟨by rw [hd]; rfl, HN.out⟩

end Go.Proofs.Ytkcjhkhdpafjhaa
