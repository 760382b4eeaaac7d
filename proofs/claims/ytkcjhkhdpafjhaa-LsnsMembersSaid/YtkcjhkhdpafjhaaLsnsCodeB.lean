/-
  The walks over package lsns: Add, and slices.Clone.
-/
import Derived.Test.YtkcjhkhdpafjhaaLsnsCodeA
import Derived.Test.YtkcjhkhdpafjhaaLsnsAddB
import Derived.ArgAppend
import Derived.WalkSpells
import Derived.Deep.RegionHeld3
namespace Go.Proofs.Ytkcjhkhdpafjhaa
open Go.RowKit

theorem Mid.fresh {w w1 w2 : World} {low : Nat} {A : Option Addr} {n c : Nat} {u1 u2 v : Value} {l : List Nat} {k : Nat} (h : Mid w low A n c u1 u2 [] (.slice none 0 0) w1)
    (hown : w2.ownsRow w1.heap.size 22 1 v k (nv l)) (hk : l.length = k) (hg : w1.grownBy w2 none) : Mid w low A n c u1 u2 l v w2 := by
  subst hk
  refine ⟨⟨⟨hown.1, ?_⟩, h.made.2.grown hg h.made.2.size (fun k hk => by cases hk)⟩, Row.grown h.arg hg (by simp), Row.grown h.res hg (by simp)⟩
  rcases hown.2 with h3 | ⟨g, cap, cur, h4, h5, h6⟩
  · exact .inl h3
  · exact .inr ⟨g, cap, cur, h4, Nat.le_trans h.made.2.size h5, h6⟩
theorem nv_take_get {l : List Nat} {p j : Nat} {u : Value} (h : (nv (l.take p))[j]? = some u) : (nv l)[j]? = some u := by
  have e : nv (l.take p) = (nv l).take p := by simp [nv]
  rw [e, List.getElem?_take] at h
  split at h
  · exact h
  · cases h

theorem slice_from {P : Program} {t : TypeId} (ht : P.underlying t = some (.slice (P.elem t))) (hs : ∀ w, (sizeOf (P.elem t)).run P w = .ok 1 w) (A : Option Addr) (n c k : Nat) (hk : k ≤ n) (w : World) :
    (Instr.slice t (.slice A n c) (some (.int .i64 (k : Int))) none none).run P w = .ok (.slice (if c = k then A else A.map (·.add k)) (n - k) (c - k)) w := by
  rw [run_slice_l (w := w) t A n c ht .i64 (k : Int) (by omega) (by omega), hs]
  simp only [Result.andThen, sliced, Nat.mul_one, Int.toNat_natCast]
theorem slice_upto {P : Program} {t : TypeId} (ht : P.underlying t = some (.slice (P.elem t))) (hs : ∀ w, (sizeOf (P.elem t)).run P w = .ok 1 w) (A : Option Addr) (n c k : Nat) (hk : k ≤ n) (hc : n ≤ c) (w : World) :
    (Instr.slice t (.slice A n c) none (some (.int .i64 (k : Int))) (some (.int .i64 (k : Int)))).run P w = .ok (.slice A k k) w := by
  rw [run_slice_hm (w := w) t A n c ht .i64 .i64 (k : Int) (k : Int) (by omega) (by omega) (by omega), hs]
  simp only [Result.andThen, sliced, Nat.zero_mul, Int.toNat_natCast, Nat.sub_zero]
  congr 2
  split
  · rfl
  · cases A with
    | none => rfl
    | some a => exact congrArg some (by cases a; simp [Addr.add])

set_option maxRecDepth 100000 in
set_option maxHeartbeats 1000000 in
theorem clone_any (A : Option Addr) (n c : Nat) (l : List Nat) (w : World) (HR : Hid (RN w A l)) (hl : l.length = n) (hnil : A = none → c = 0) (hn : n ≤ 50000) :
    Calls Try.prog 33 #[.slice A n c] w fun r w' => ∃ v, r = .returned v ∧ Made w l v w' := by
  obtain ⟨i0, hi0, hz0, hz1, hz2⟩ := Try.info64
  have q22 : ∀ (w : World) (a : Option Addr) (n c n' c' : Nat), (binOp .eql 23 (.slice a n c) (.slice none n' c')).run Try.prog w = .ok (.bool a.isNone) w := fun w a n c n' c' => Lib.run_eql_slice_nil w _ _ a n c n' c' Try.underlying23
  subst hl
  cases A with
  | none =>
    obtain rfl := hnil rfl
    obtain rfl := HR.out.none_nil
    clear hnil
    go_enter Try.func33, Try.ntmps33
    go_wp2
    go_ret
    exact ⟨_, rfl, Made.nil w w (Below.refl _ _)⟩
  | some ad =>
    clear hnil
    have HR2 := Lib.hid (HR.out.alloc (.cells #[] 22))
    have HO := Lib.hid (World.ownsRow_made (base := w.heap.size) (e := 22) (size := 1) w #[] 0 (Nat.le_refl _) (Nat.zero_le _) rfl)
    have HB := Lib.hid (below_new w (.cells #[] 22))
    go_enter Try.func33, Try.ntmps33
    go_wp2_with (at_builtin; refine wpList_own_nums rfl (.tmp 5) (.tmp 6) 23 rfl w.heap.size 22 i0 Try.underlying23 hi0 hz0 hz1 hz2 (.slice (some ⟨w.heap.size, 0, none⟩) 0 0) 0 [] rfl HO.out _ l l.length c rfl rfl HR2.out (fun e => by cases e) (by omega) HB.out.size ?_)
    intro v w1 hown hgr
    have HM := Lib.hid (show Made w l v w1 from ⟨by simpa using hown, HB.out.grown hgr HB.out.size (fun k hk => by
      simp [Value.ownBlock] at hk; omega)⟩)
    clear hown hgr
    go_wp2
    go_ret
    exact ⟨_, rfl, HM.out⟩

set_option maxRecDepth 100000 in
set_option maxHeartbeats 4000000 in
theorem add_any (x : LV) (m : Nat) (w : World) (h : x.In w) (hn : x.n ≤ 1100) :
    Calls Try.prog 21 #[x.v, .int .u64 (m : Int)] w (Told w ((x.s.addS m).orZ (x.s.addE m)) (x.s.addE m)) := by
  obtain ⟨i0, hi0, hz0, hz1, hz2⟩ := Try.info64
  have HX := Lib.hid (fun w (h : x.In w) => right_any x w h (by omega))
  have HCT := Lib.hid (fun w (h : x.In w) (hR : x.s.right = true) => contains_any x m w h hR)
  have HI := Lib.hid ((h.alloc (.cells #[.int .u64 (x.low : Int), .slice x.A x.n x.c] 25)).alloc (.cells #[.int .u64 0, .slice none 0 0] 25))
  have HE := Lib.hid (show x.s.addE m = if x.s.right then (if (x.s.addS m).ins.length ≤ 1000 then 0 else 6) else 40 from rfl)
  have HZ := Lib.hid (show (x.s.addS m).orZ (x.s.addE m) = if x.s.addE m = 0 then x.s.addS m else LS.zero from rfl)
  have HH := Lib.hid (show x.s.right = true → x.s.addS m = if (decide (m ≤ x.low) || x.l.contains m) then x.s else ⟨x.low, ins1 m x.l⟩ from fun hR => by
    show (if x.s.has m then x.s else ⟨x.low, ins1 m x.l⟩) = _
    rw [show x.s.has m = (x.s.right && (decide (m ≤ x.low) || x.l.contains m)) from rfl, hR, Bool.true_and])
  have HRI := Lib.hid (LS.right_iff x.s).1
  obtain ⟨Z, hZ⟩ : ∃ Z, (x.s.addS m).orZ (x.s.addE m) = Z := ⟨_, rfl⟩
  obtain ⟨E, hE⟩ : ∃ E, x.s.addE m = E := ⟨_, rfl⟩
  rw [hZ] at HZ ⊢
  rw [hE] at HE HZ ⊢
  clear hZ hE
  obtain ⟨Y, hY⟩ : ∃ Y, x.s.addS m = Y := ⟨_, rfl⟩
  obtain ⟨b, hb⟩ : ∃ b, x.s.right = b := ⟨_, rfl⟩
  obtain ⟨k, hk⟩ : ∃ k, (decide (m ≤ x.low) || x.l.contains m) = k := ⟨_, rfl⟩
  rw [hY] at HH HE HZ
  rw [hb] at HX HE HH HCT HRI
  rw [hk] at HH HCT
  have HKK := Lib.hid hk
  clear hb hY hk
  obtain ⟨low, A, n, c, l⟩ := x
  obtain ⟨hl, hc, hnil, HR⟩ := h.parts
  clear h
  simp only [LV.v, LV.s] at hn HI HX HH HCT HRI HKK ⊢
  subst hl
  have HM := Lib.hid (Mid.start w low A l.length c (.int .u64 0) (.slice none 0 0))
  have HNIL := Lib.hid hnil
  clear hnil
  go_enter Try.func21, Try.ntmps21
  go_wp2_with fail
  refine (HX.out _ HI.out).mono ?_
  rintro e w1 ⟨rfl, hb1⟩
  have HM1 := Lib.hid (HM.out.keeps hb1)
  have HI1 := Lib.hid (HI.out.keeps hb1)
  clear hb1 HM HI HX
  cases b
  · have r0 := HM1.out.r0
    have r1 := HM1.out.r1
    have f0 := HM1.out.f0
    have f1 := HM1.out.f1
    go_wp2
    obtain ⟨hr, ht⟩ := told_zero HM1.out.res (by omega) HM1.out.made.2 40
    have k0 := hr.cell 0
    have k1 := hr.cell 1
    simp at k0 k1
    have e1 : E = 40 := HE.out
    have e2 : Z = LS.zero := by have := HZ.out; rw [e1] at this; exact this
    refine bodyPost_ret (v := .tuple #[.agg #[.int .u64 0, .slice none 0 0], .int .i64 40]) ?_ rfl (by rw [e1, e2]; exact ht)
    simp [results, Try.results21, go_sem, k0, k1]
  · have hri := HRI.out (by trivial)
    have HASC := Lib.hid hri.2
    have hlen : l.length ≤ 1000 := hri.1
    clear hri HRI
    have c0 := HM1.out.c0
    have c1 := HM1.out.c1
    go_wp2_with fail
    refine (HCT.out _ HI1.out (by trivial)).mono ?_
    rintro e w2 ⟨rfl, hb2⟩
    have HM2 := Lib.hid (HM1.out.keeps hb2)
    have HI2 := Lib.hid (HI1.out.keeps hb2)
    clear hb2 HM1 HI1 HCT c0 c1
    have hy := HH.out (by trivial)
    cases k
    · have HY := Lib.hid (show Y = ⟨low, ins1 m l⟩ from hy)
      clear hy HH
      have hno : ¬ (m ≤ low) ∧ l.contains m = false := by
        have := HKK.out
        rw [Bool.or_eq_false_iff, decide_eq_false_iff_not] at this
        exact this
      have hml : low < m := by omega
      have hnm : m ∉ l := fun k => by rw [List.contains_iff_mem.2 k] at hno; cases hno.2
      have HIL := Lib.hid (len_ins1_out HASC.out hml hnm)
      have HFIN := Lib.hid (ins1_at HASC.out hml hnm (pos m l) (pos_take m l) (pos_drop m HASC.out))
      clear hno hnm hml HKK
      have c0 := HM2.out.c0
      have c1 := HM2.out.c1
      by_cases hfull : l.length = 1000
      · have hf2 : (l.length : Int) = 1000 := by omega
        have r0 := HM2.out.r0
        have r1 := HM2.out.r1
        have f0 := HM2.out.f0
        have f1 := HM2.out.f1
        have HF := Lib.hid hfull
        clear hfull
        go_wp2
        obtain ⟨hr, ht⟩ := told_zero HM2.out.res (by omega) HM2.out.made.2 6
        have k0 := hr.cell 0
        have k1 := hr.cell 1
        simp at k0 k1
        refine bodyPost_ret (v := .tuple #[.agg #[.int .u64 0, .slice none 0 0], .int .i64 6]) ?_ rfl ?_
        · simp [results, Try.results21, go_sem, k0, k1]
        · have e1 : E = 6 := by
            have := HE.out
            rw [HY.out] at this
            simpa [HIL.out, HF.out] using this
          have e2 : Z = LS.zero := by have := HZ.out; rw [e1] at this; exact this
          rw [e1, e2]
          exact ht
      · have hf2 : ¬ ((l.length : Int) = 1000) := by omega
        have HP := Lib.hid (fun wx (hk : Keep w2 wx) => position_any m l.length c A l wx (HI2.out.reads.keeps hk) rfl (by omega) HASC.out)
        have hple := pos_le m l
        obtain ⟨p, hp⟩ : ∃ p, pos m l = p := ⟨_, rfl⟩
        rw [hp] at HP HFIN hple
        clear hp
        go_wp2_with fail
        refine (HP.out _ (Keep.refl w2)).mono ?_
        rintro e w3 ⟨rfl, hb3⟩
        have HM3 := Lib.hid (HM2.out.keeps hb3)
        have HI3 := Lib.hid (HI2.out.keeps hb3)
        clear hb3 HM2 HI2 HP c0 c1
        have c0 := HM3.out.c0
        have c1 := HM3.out.c1
        have hs1 := slice_upto (P := Try.prog) (t := 23) Try.underlying23 (fun w => by kernel_rfl) A l.length c p hple hc
        have HNO := Lib.hid (show A = none → p = 0 ∧ p = 0 from fun e => by have := HNIL.out e; omega)
        have HLT := Lib.hid (show (nv (l.take p)).length = p * 1 by rw [nv_length, List.length_take]; omega)
        have HMA := Lib.hid (HM3.out.alloc (.cells #[.int .u64 (m : Int)] 22))
        have HOL := Lib.hid (show ∀ b, A = some b → ∀ j u, (nv (l.take p))[j]? = some u → (w3.alloc (.cells #[.int .u64 (m : Int)] 22)).cell? (b.add j) = some u from fun b e j u hu => by
          subst e
          exact (HI3.out.alloc (.cells #[.int .u64 (m : Int)] 22)).reads.news j u (nv_take_get hu))
        have HNW := Lib.hid (rn_one w3 m).news
        have HPL := Lib.hid (show p + 1 ≤ maxLen by unfold maxLen; omega)
        go_wp2_with (at_builtin; refine wpList_append_grows _ rfl (.tmp 37) (.tmp 39) 23 rfl 22 i0 (.int .u64 0) 1 8 Try.underlying23 hi0 hz0 hz1 hz2 rfl (by decide) A p p (nv (l.take p)) rfl HNO.out HLT.out HOL.out ⟨w3.heap.size, 0, none⟩ 1 1 (nv [m]) rfl rfl HNW.out (nv_one _) (by omega) HPL.out (by omega) ?_)
        intro v4 w4 hown hgr
        rw [← nv_append] at hown
        have HLN3 := Lib.hid (show (l.take p ++ [m]).length = p + 1 by rw [List.length_append, List.length_take, List.length_singleton]; omega)
        have hm4 := HMA.out.fresh (k := p + 1) (by rw [size_new]; exact hown) HLN3.out hgr
        clear hown hgr hs1 c0 c1 HNW HOL HMA HLT HNO
        obtain ⟨A3, c3, hv, _⟩ := hm4.made.own
        rw [HLN3.out] at hv
        subst hv
        have HM4 := Lib.hid hm4
        clear hm4
        go_wp2_with fail
        have c0 := HM4.out.c0
        have c1 := HM4.out.c1
        have hsl := slice_from (P := Try.prog) (t := 23) Try.underlying23 (fun w => by kernel_rfl) A l.length c p hple
        have HSRC := Lib.hid ((HM4.out.drew.reads (HR.out)).drop p c hc)
        have HBN := Lib.hid (show (if c = p then A else A.map (·.add p)) = none → c - p = 0 from fun e => by
          split at e
          · omega
          · have : A = none := by cases A with
              | none => rfl
              | some a => cases e
            have := HNIL.out this
            omega)
        obtain ⟨B, hB⟩ : ∃ B, (if c = p then A else A.map (·.add p)) = B := ⟨_, rfl⟩
        rw [hB] at hsl HSRC HBN
        clear hB
        have HOW3 := Lib.hid (show w4.drew.ownsRow w.heap.size 22 1 (.slice A3 (p + 1) c3) (p + 1) (nv (l.take p ++ [m])) by have := HM4.out.drew.made.1; rwa [HLN3.out] at this)
        have HSZ3 := Lib.hid HM4.out.drew.made.2.size
        have HG := Lib.hid (fun (v : Value) (w5 : World) (hown : w5.ownsRow w.heap.size 22 1 v (p + 1 + (l.length - p)) (nv (l.take p ++ [m]) ++ nv (l.drop p))) (hgr : w4.drew.grownBy w5 (Value.slice A3 (p + 1) c3).ownBlock) =>
          show ∃ A4 c4, v = .slice A4 (l.length + 1) c4 ∧ w5.cell? ⟨w.heap.size, 0, none⟩ = some (.int .u64 (low : Int)) ∧ w5.cell? ⟨w.heap.size + 1, 0, none⟩ = some (.int .u64 0) ∧ w5.cell? ⟨w.heap.size + 1, 1, none⟩ = some (.slice none 0 0) ∧ w5.frozen? ⟨w.heap.size + 1, 0, none⟩ = false ∧ w5.frozen? ⟨w.heap.size + 1, 1, none⟩ = false ∧ Made w (ins1 m l) (.slice A4 (l.length + 1) c4) w5 ∧ Row w5 (w.heap.size + 1) 25 [.int .u64 0, .slice none 0 0] (0, 0) from by
            have hM := HM4.out.drew.more (l' := l.drop p) (m := l.length - p) (by rw [List.length_drop]) (by rw [HLN3.out]; exact hown) hgr
            have e : l.take p ++ [m] ++ l.drop p = ins1 m l := by rw [List.append_assoc]; exact HFIN.out
            rw [e] at hM
            have el := HIL.out
            obtain ⟨A4, c4, hv, _⟩ := hM.made.own
            rw [el] at hv
            subst hv
            exact ⟨A4, c4, rfl, hM.c0, hM.r0, hM.r1, hM.f0, hM.f1, hM.made, hM.res⟩)
        go_region_law (refine step_own_nums rfl (.tmp 43) (.tmp 47) 23 rfl w.heap.size 22 i0 Try.underlying23 hi0 hz0 hz1 hz2 (.slice A3 (p + 1) c3) (p + 1) _ (by rfl) HOW3.out B (l.drop p) (l.length - p) (c - p) (by rfl) (by rw [List.length_drop]) HSRC.out HBN.out (by omega) HSZ3.out ?_; intro v5 w5 hown hgr; obtain ⟨A4, c4, rfl, k0, z0, z1, f0, f1, HM, HO2⟩ := HG.out v5 w5 hown hgr; clear hown hgr)
        all_goals
          go_wp2
          obtain ⟨hr, hm⟩ := HM.laid HO2 (by omega) (.int .u64 (low : Int)) (.slice A4 (l.length + 1) c4)
          have y0 := hr.cell 0
          have y1 := hr.cell 1
          simp at y0 y1
          refine bodyPost_ret (v := .tuple #[.agg #[.int .u64 (low : Int), .slice A4 (l.length + 1) c4], .int .i64 0]) ?_ rfl ?_
          · simp [results, Try.results21, go_sem, y0, y1]
          · have e1 : E = 0 := by
              have := HE.out
              rw [HY.out] at this
              simpa [HIL.out, show l.length + 1 ≤ 1000 by omega] using this
            have e2 : Z = ⟨low, ins1 m l⟩ := by have := HZ.out; rw [if_pos e1, HY.out] at this; exact this
            rw [e1, e2]
            exact ⟨_, rfl, hm⟩
    · have HY := Lib.hid (show Y = ⟨low, l⟩ from hy)
      clear hy HH
      go_wp2_with fail
      have hk0 : Keep w2 w2.drew := (Below.refl _ w2).drew
      have hk1 : Keep w2 w2 := Below.refl _ w2
      have HC := Lib.hid (show ∀ wx, Keep w2 wx → wx.cell? ⟨w.heap.size, 0, none⟩ = some (.int .u64 (low : Int)) ∧ wx.cell? ⟨w.heap.size, 1, none⟩ = some (.slice A l.length c) from fun wx hk =>
        ⟨(HM2.out.keeps hk).c0, (HM2.out.keeps hk).c1⟩)
      have kC := Lib.hid (show ∀ wx, Keep w2 wx → Calls Try.prog 33 #[.slice A l.length c] wx fun r w' => ∃ A2 c2, r = .returned (.slice A2 l.length c2) ∧ Keep w2 w' ∧ w'.cell? ⟨w.heap.size, 0, none⟩ = some (.int .u64 (low : Int)) ∧ w'.cell? ⟨w.heap.size, 1, none⟩ = some (.slice A l.length c) ∧ w'.cell? ⟨w.heap.size + 1, 0, none⟩ = some (.int .u64 0) ∧ w'.cell? ⟨w.heap.size + 1, 1, none⟩ = some (.slice none 0 0) ∧ w'.frozen? ⟨w.heap.size + 1, 0, none⟩ = false ∧ w'.frozen? ⟨w.heap.size + 1, 1, none⟩ = false ∧ Hid (Mid w low A l.length c (.int .u64 0) (.slice none 0 0) l (.slice A2 l.length c2) w') from
        fun wx hk => (clone_any A l.length c l wx (Lib.hid (HI2.out.reads.keeps hk)) rfl HNIL.out (by omega)).mono fun r w' ⟨v, h1, hm⟩ => by
          have hM := (HM2.out.keeps hk).gets hm
          obtain ⟨A2, c2, hv, _⟩ := hM.made.own
          subst hv
          exact ⟨A2, c2, h1, hk.then hm.2, hM.c0, hM.c1, hM.r0, hM.r1, hM.f0, hM.f1, Lib.hid hM⟩)
      go_region_held3 (fun wx => wx.cell? ⟨w.heap.size, 0, none⟩ = some (.int .u64 (low : Int)) ∧ wx.cell? ⟨w.heap.size, 1, none⟩ = some (.slice A l.length c)) (first | exact HC.out _ (by assumption) | go_keep)
        ((go_at_call 33; refine (kC.out _ (by assumption)).mono ?_; rintro e wa ⟨A2, c2, rfl, hka, x0, x1, z0, z1, f0, f1, HMa⟩))
      all_goals
        go_wp2
        obtain ⟨hr, hm⟩ := HMa.out.made.laid HMa.out.res (by omega) (.int .u64 (low : Int)) (.slice A2 l.length c2)
        have y0 := hr.cell 0
        have y1 := hr.cell 1
        simp at y0 y1
        refine bodyPost_ret (v := .tuple #[.agg #[.int .u64 (low : Int), .slice A2 l.length c2], .int .i64 0]) ?_ rfl ?_
        · simp [results, Try.results21, go_sem, y0, y1]
        · have e1 : E = 0 := by
            have := HE.out
            rw [HY.out] at this
            simpa [hlen] using this
          have e2 : Z = ⟨low, l⟩ := by have := HZ.out; rw [if_pos e1, HY.out] at this; exact this
          rw [e1, e2]
          exact ⟨_, rfl, hm⟩

end Go.Proofs.Ytkcjhkhdpafjhaa
