/-
  The walks over the document's answer for package lsns: a number more (with), Add.
-/
import Derived.Test.YtkcjhkhdpafjhaaLsnsOwn
namespace Go.Proofs.Ytkcjhkhdpafjhaa
open Go.RowKit

/-- In the midst of a call: its set lies in the first block, its result's cells in the second, its own numbers somewhere behind. -/
structure Mid (w : World) (low : Nat) (A : Option Addr) (n c : Nat) (u1 u2 : Value) (l : List Nat) (v : Value) (wr : World) : Prop where
  made : Made w l v wr
  arg : LiesS wr w.heap.size low A n c
  res : Row wr (w.heap.size + 1) 25 [u1, u2] (0, 0)

section
variable {w wr w' : World} {low : Nat} {A : Option Addr} {n c : Nat} {u1 u2 : Value} {l l' : List Nat} {v v' : Value} {m : Nat}
theorem Mid.alloc (h : Mid w low A n c u1 u2 l v wr) (o : Obj) : Mid w low A n c u1 u2 l v (wr.alloc o) := ⟨h.made.keepRow o, Row.alloc h.arg o, h.res.alloc o⟩
theorem Mid.drewN (h : Mid w low A n c u1 u2 l v wr) (k : Nat) : Mid w low A n c u1 u2 l v (wr.drewN k) := ⟨h.made.drewN k, Row.drewN h.arg k, h.res.drewN k⟩
theorem Mid.drew (h : Mid w low A n c u1 u2 l v wr) : Mid w low A n c u1 u2 l v wr.drew := ⟨h.made.drew, Row.drew h.arg, h.res.drew⟩
theorem own_ne {T : TypeId} {base g : Nat} {cs : List Value} {mk : Nat × Nat} {xs : List Value} (h : wr.ownsRow base 22 1 v n xs) (hg : Row wr g T cs mk) (hT : 22 ≠ T) : some g ≠ v.ownBlock := by
  rcases h.2 with ⟨rfl, _⟩ | ⟨k, cap, cur, rfl, _, hk, _⟩
  · intro e; cases e
  · intro e
    obtain rfl : g = k := by simpa [Value.ownBlock] using e
    exact Row.ne_ (cs := cur.toList) hk hg hT rfl
theorem Mid.more (h : Mid w low A n c u1 u2 l v wr) (hm : l'.length = m) (h1 : w'.ownsRow w.heap.size 22 1 v' (l.length + m) (nv l ++ nv l')) (hg : wr.grownBy w' v.ownBlock) : Mid w low A n c u1 u2 (l ++ l') v' w' :=
  ⟨h.made.more hm h1 hg, Row.grown h.arg hg (own_ne h.made.1 h.arg (by decide)), Row.grown h.res hg (own_ne h.made.1 h.res (by decide))⟩
theorem Mid.c0 (h : Mid w low A n c u1 u2 l v wr) : wr.cell? ⟨w.heap.size, 0, none⟩ = some (.int .u64 (low : Int)) := h.arg.c0
theorem Mid.c1 (h : Mid w low A n c u1 u2 l v wr) : wr.cell? ⟨w.heap.size, 1, none⟩ = some (.slice A n c) := h.arg.c1
theorem Mid.r0 (h : Mid w low A n c u1 u2 l v wr) : wr.cell? ⟨w.heap.size + 1, 0, none⟩ = some u1 := by rw [h.res.cell]; rfl
theorem Mid.r1 (h : Mid w low A n c u1 u2 l v wr) : wr.cell? ⟨w.heap.size + 1, 1, none⟩ = some u2 := by rw [h.res.cell]; rfl
theorem Mid.f0 (h : Mid w low A n c u1 u2 l v wr) : wr.frozen? ⟨w.heap.size + 1, 0, none⟩ = false := h.res.loose 0
theorem Mid.f1 (h : Mid w low A n c u1 u2 l v wr) : wr.frozen? ⟨w.heap.size + 1, 1, none⟩ = false := h.res.loose 1
theorem Mid.keeps (h : Mid w low A n c u1 u2 [] (.slice none 0 0) wr) (hb : Below wr.heap.size wr w') : Mid w low A n c u1 u2 [] (.slice none 0 0) w' :=
  ⟨Made.nil _ _ (h.made.2.trans (hb.mono h.made.2.size)), h.arg.keeps hb, Row.below h.res hb h.res.lt⟩
theorem Mid.start (w : World) (low : Nat) (A : Option Addr) (n c : Nat) (u1 u2 : Value) : Mid w low A n c u1 u2 [] (.slice none 0 0) ((w.alloc (.cells #[.int .u64 (low : Int), .slice A n c] 25)).alloc (.cells #[u1, u2] 25)) := by
  refine ⟨Made.nil _ _ ((below_new w _).trans ((below_new _ _).mono (by rw [size_new]; omega))), Row.alloc (LiesS.new w low A n c) _, ?_⟩
  have := Row.new (w.alloc (.cells #[.int .u64 (low : Int), .slice A n c] 25)) 25 [u1, u2] (0, 0)
  rw [size_new] at this
  exact this
theorem Mid.reads {B : Option Addr} (h : Mid w low A n c u1 u2 l v wr) (hr : RN w B l') : RN wr B l' := hr.keeps h.made.2
end

theorem rn_one (w : World) (y : Nat) : RN (w.alloc (.cells #[.int .u64 (y : Int)] 22)) (some ⟨w.heap.size, 0, none⟩) [y] := fun _ =>
  ⟨22, w.heap.size, 0, [.int .u64 (y : Int)], (0, 0), rfl, Row.new w 22 [.int .u64 (y : Int)] (0, 0), fun j hj => by
    have : j = 0 := by simp at hj; omega
    subst this; rfl⟩

/-- A number more, at its place. -/
def withL (x : LS) (m : Nat) : List Nat := (x.addS m).ins

set_option maxRecDepth 100000 in
set_option maxHeartbeats 2000000 in
theorem rwith_any (x : LV) (m : Nat) (w : World) (h : x.In w) (hn : x.n ≤ 1100) (hR : x.s.right = true) :
    Calls Try.prog 35 #[x.v, .int .u64 (m : Int)] w fun r w' => ∃ v, r = .returned (.agg #[.int .u64 (x.low : Int), v]) ∧ Made w (x.s.addS m).ins v w' := by
  obtain ⟨i0, hi0, hz0, hz1, hz2⟩ := Try.info64
  have HX := Lib.hid (fun w (h : x.In w) => rhas_any x m w h (by omega))
  have HC := Lib.hid (fun w (h : x.In w) => rcopy_any x w h (by omega))
  have HI := Lib.hid ((h.alloc (.cells #[.int .u64 (x.low : Int), .slice x.A x.n x.c] 25)).alloc (.cells #[.int .u64 0, .slice none 0 0] 25))
  have HH := Lib.hid (LS.has_iff hR m)
  have HAS := Lib.hid ((LS.right_iff _).1 hR).2
  have HE : x.s.addS m = if x.s.has m then x.s else ⟨x.low, ins1 m x.l⟩ := rfl
  rw [HE]
  clear HE
  obtain ⟨b, hb⟩ : ∃ b, x.s.has m = b := ⟨_, rfl⟩
  rw [hb] at HX HH ⊢
  clear hb
  obtain ⟨low, A, n, c, l⟩ := x
  obtain ⟨hl, hc, hnil, HR⟩ := h.parts
  clear h hR
  simp only [LV.v, LV.s] at hn HI HX HC HH HAS ⊢
  subst hl
  have HM := Lib.hid (Mid.start w low A l.length c (.int .u64 0) (.slice none 0 0))
  have HA := Lib.hid hnil
  clear hnil
  go_enter Try.func35, Try.ntmps35
  go_wp2_with fail
  refine (HX.out _ HI.out).mono ?_
  rintro e w1 ⟨rfl, hb1⟩
  have HM1 := Lib.hid (HM.out.keeps hb1)
  have HI1 := Lib.hid (HI.out.keeps hb1)
  clear hb1 HM HI HX
  have c0 := HM1.out.c0
  have c1 := HM1.out.c1
  cases b
  · have hno : ¬ (m ≤ low ∨ m ∈ l) := fun k => by have := HH.out.2 k; cases this
    have hml : low < m := by omega
    have HIN := Lib.hid (fun k (h1 : ∀ x ∈ l.take k, x < m) (h2 : ∀ x ∈ l.drop k, m ≤ x) => ins1_at HAS.out hml (fun h => hno (.inr h)) k h1 h2)
    have HML := Lib.hid hml
    clear hml hno
    go_wp2_with fail
    clear c0 c1
    go_loopw [5, 6] (fun vi i wr => ∃ k : Nat, k ≤ l.length ∧ i = .int .i64 k ∧ Mid w low A l.length c (.int .u64 0) (.slice none 0 0) (l.take k) vi wr ∧ ∀ x ∈ l.take k, x < m) (fun _ i _ => l.length - (intOf i).toNat)
    case atStart => exact ⟨0, by omega, rfl, HM1.out, by simp⟩
    case round =>
      obtain ⟨k, hk, rfl, hm, hlt⟩ := hrel
      have HMK := Lib.hid hm
      have HLT := Lib.hid hlt
      have HLN := Lib.hid (show (l.take k).length = k by rw [List.length_take]; omega)
      obtain ⟨A2, c2, hv, _⟩ := hm.made.own
      rw [HLN.out] at hv
      subst hv
      clear hm hlt HM1
      have c0 := HMK.out.c0
      have c1 := HMK.out.c1
      by_cases hlen : k < l.length
      · have HT := Lib.hid (List.take_succ_eq_append_getElem hlen)
        have HDR := Lib.hid (List.drop_eq_getElem_cons hlen)
        obtain ⟨g, off, rfl, hcell⟩ := (HMK.out.reads HR.out).cells (by omega)
        have hk1 := hcell k hlen
        obtain ⟨y, hy⟩ : ∃ y, l[k] = y := ⟨_, rfl⟩
        rw [hy] at hk1 HT HDR
        clear hy hcell
        by_cases e1 : y < m
        · have HB := Lib.hid (HMK.out.alloc (.cells #[.int .u64 (y : Int)] 22))
          have HOW := Lib.hid (show (wr.alloc (.cells #[.int .u64 (y : Int)] 22)).ownsRow w.heap.size 22 1 (.slice A2 k c2) k (nv (l.take k)) by have := HB.out.made.1; rwa [HLN.out] at this)
          have HSZ := Lib.hid HB.out.made.2.size
          go_wp2_with (at_builtin; refine wpList_own_nums rfl (.tmp 26) (.tmp 32) 23 rfl w.heap.size 22 i0 Try.underlying23 hi0 hz0 hz1 hz2 (.slice A2 k c2) k _ rfl HOW.out _ [y] 1 1 rfl rfl (rn_one wr y) (fun e => by cases e) (by omega) HSZ.out ?_)
          intro v3 w3 hown hgr
          have HM3 := Lib.hid (HB.out.more (l' := [y]) (m := 1) rfl (by rw [HLN.out]; exact hown) hgr)
          clear hown hgr
          go_wp2
          go_round
          case rel =>
            refine ⟨k + 1, by omega, by go_num, by rw [HT.out]; exact HM3.out, fun x hx => ?_⟩
            rw [HT.out] at hx
            rcases List.mem_append.1 hx with hx | hx
            · exact HLT.out x hx
            · have := List.mem_singleton.1 hx; omega
          case measure => simp [intOf]; omega
        · have hd : decide ((y : Int) < (m : Int)) = false := decide_eq_false (by omega)
          have HFIN := Lib.hid (HIN.out k HLT.out (fun x hx => by
            rw [HDR.out] at hx
            have ha := HAS.out
            rw [← List.take_append_drop k l, HDR.out] at ha
            have hb := (asc_cons _ _ _).1 (asc_right ha)
            rcases List.mem_cons.1 hx with rfl | hx
            · omega
            · have := asc_mem hb.2 x hx; omega))
          have HB := Lib.hid (HMK.out.alloc (.cells #[.int .u64 (m : Int)] 22))
          have HOW := Lib.hid (show (wr.alloc (.cells #[.int .u64 (m : Int)] 22)).ownsRow w.heap.size 22 1 (.slice A2 k c2) k (nv (l.take k)) by have := HB.out.made.1; rwa [HLN.out] at this)
          have HSZ := Lib.hid HB.out.made.2.size
          go_wp2_with (at_builtin; refine wpList_own_nums rfl (.tmp 36) (.tmp 38) 23 rfl w.heap.size 22 i0 Try.underlying23 hi0 hz0 hz1 hz2 (.slice A2 k c2) k _ rfl HOW.out _ [m] 1 1 rfl rfl (rn_one wr m) (fun e => by cases e) (by omega) HSZ.out ?_)
          intro v3 w3 hown hgr
          have hm3 := HB.out.more (l' := [m]) (m := 1) rfl (by rw [HLN.out]; exact hown) hgr
          have HLN3 := Lib.hid (show (l.take k ++ [m]).length = k + 1 by rw [List.length_append, HLN.out]; rfl)
          clear hown hgr
          obtain ⟨A3, c3, hv, _⟩ := hm3.made.own
          rw [HLN3.out] at hv
          subst hv
          have HM3 := Lib.hid hm3
          clear hm3 c0 c1
          go_wp2_with fail
          have c0 := HM3.out.c0
          have c1 := HM3.out.c1
          have hb1 : (k : Int) ≤ (l.length : Int) := by omega
          have hb2 : ¬ c = k := by omega
          have HSRC := Lib.hid (show RN w3.drew (some ⟨g, off + k, none⟩) (l.drop k) by
            have := (HM3.out.drew.reads HR.out).drop k c hc
            rw [if_neg hb2, Option.map_some, Addr.add_lit] at this
            exact this)
          have HOW3 := Lib.hid (show w3.drew.ownsRow w.heap.size 22 1 (.slice A3 (k + 1) c3) (k + 1) (nv (l.take k ++ [m])) by have := HM3.out.drew.made.1; rwa [HLN3.out] at this)
          have HSZ3 := Lib.hid HM3.out.drew.made.2.size
          have HG := Lib.hid (fun (v : Value) (w4 : World) (hown : w4.ownsRow w.heap.size 22 1 v (k + 1 + (l.length - k)) (nv (l.take k ++ [m]) ++ nv (l.drop k))) (hgr : w3.drew.grownBy w4 (Value.slice A3 (k + 1) c3).ownBlock) =>
            show ∃ A4 c4, v = .slice A4 (l.length + 1) c4 ∧ w4.cell? ⟨w.heap.size, 0, none⟩ = some (.int .u64 (low : Int)) ∧ w4.cell? ⟨w.heap.size + 1, 0, none⟩ = some (.int .u64 0) ∧ w4.cell? ⟨w.heap.size + 1, 1, none⟩ = some (.slice none 0 0) ∧ w4.frozen? ⟨w.heap.size + 1, 0, none⟩ = false ∧ w4.frozen? ⟨w.heap.size + 1, 1, none⟩ = false ∧ Made w (ins1 m l) (.slice A4 (l.length + 1) c4) w4 ∧ Row w4 (w.heap.size + 1) 25 [.int .u64 0, .slice none 0 0] (0, 0) from by
              have hM := HM3.out.drew.more (l' := l.drop k) (m := l.length - k) (by rw [List.length_drop]) (by rw [HLN3.out]; exact hown) hgr
              have e : l.take k ++ [m] ++ l.drop k = ins1 m l := by rw [List.append_assoc]; exact HFIN.out
              rw [e] at hM
              have el : (ins1 m l).length = l.length + 1 := by rw [← HFIN.out, List.length_append, HLN.out, List.length_cons, List.length_drop]; omega
              obtain ⟨A4, c4, hv, _⟩ := hM.made.own
              rw [el] at hv
              subst hv
              exact ⟨A4, c4, rfl, hM.c0, hM.r0, hM.r1, hM.f0, hM.f1, hM.made, hM.res⟩)
          go_region_law (refine step_own_nums rfl (.tmp 42) (.tmp 46) 23 rfl w.heap.size 22 i0 Try.underlying23 hi0 hz0 hz1 hz2 (.slice A3 (k + 1) c3) (k + 1) _ (by rfl) HOW3.out (some ⟨g, off + k, none⟩) (l.drop k) (l.length - k) (c - k) (by rfl) (by rw [List.length_drop]) HSRC.out (fun e => by cases e) (by omega) HSZ3.out ?_; intro v4 w4 hown hgr; obtain ⟨A4, c4, rfl, k0, z0, z1, f0, f1, HM, HO2⟩ := HG.out v4 w4 hown hgr; clear hown hgr)
          all_goals
            go_wp2
            obtain ⟨hr, hm⟩ := HM.laid HO2 (by omega) (.int .u64 (low : Int)) (.slice A4 (l.length + 1) c4)
            exact bodyPost_ret (v := .agg #[.int .u64 (low : Int), .slice A4 (l.length + 1) c4]) (results_cell_row (by rfl) _ _ (w.heap.size + 1) _ _ (0, 0) _ (by rfl) hr Try.underlying25 rfl Try.size_ls) rfl ⟨_, rfl, hm⟩
      · have HKL := Lib.hid (show k = l.length by omega)
        have HDN := Lib.hid (show l.drop k = [] from List.drop_eq_nil_of_le (by omega))
        have HFIN := Lib.hid (HIN.out k HLT.out (fun x hx => by rw [HDN.out] at hx; cases hx))
        cases A with
        | none =>
          obtain rfl := HA.out rfl
          obtain rfl : k = 0 := by omega
          obtain rfl : l = [] := List.eq_nil_of_length_eq_zero (by omega)
          have HB := Lib.hid (HMK.out.alloc (.cells #[.int .u64 (m : Int)] 22))
          have HOW := Lib.hid (show (wr.alloc (.cells #[.int .u64 (m : Int)] 22)).ownsRow w.heap.size 22 1 (.slice A2 0 c2) 0 (nv (([] : List Nat).take 0)) by have := HB.out.made.1; rwa [HLN.out] at this)
          have HSZ := Lib.hid HB.out.made.2.size
          go_wp2_with (at_builtin; refine wpList_own_nums rfl (.tmp 36) (.tmp 38) 23 rfl w.heap.size 22 i0 Try.underlying23 hi0 hz0 hz1 hz2 (.slice A2 0 c2) 0 _ rfl HOW.out _ [m] 1 1 rfl rfl (rn_one wr m) (fun e => by cases e) (by omega) HSZ.out ?_)
          intro v3 w3 hown hgr
          have hm3 := HB.out.more (l' := [m]) (m := 1) rfl (by rw [HLN.out]; exact hown) hgr
          have HLN3 := Lib.hid (show (([] : List Nat).take 0 ++ [m]).length = 0 + 1 by rw [List.length_append, HLN.out]; rfl)
          clear hown hgr
          obtain ⟨A3, c3, hv, _⟩ := hm3.made.own
          rw [HLN3.out] at hv
          subst hv
          have HM3 := Lib.hid hm3
          clear hm3 c0 c1
          go_wp2_with fail
          have c0 := HM3.out.c0
          have c1 := HM3.out.c1
          have HSRC := Lib.hid (show RN w3.drew (none) (([] : List Nat).drop 0) by rw [HDN.out]; exact RN.nil)
          have HOW3 := Lib.hid (show w3.drew.ownsRow w.heap.size 22 1 (.slice A3 (0 + 1) c3) (0 + 1) (nv (([] : List Nat).take 0 ++ [m])) by have := HM3.out.drew.made.1; rwa [HLN3.out] at this)
          have HSZ3 := Lib.hid HM3.out.drew.made.2.size
          have HG := Lib.hid (fun (v : Value) (w4 : World) (hown : w4.ownsRow w.heap.size 22 1 v (0 + 1 + (0)) (nv (([] : List Nat).take 0 ++ [m]) ++ nv (([] : List Nat).drop 0))) (hgr : w3.drew.grownBy w4 (Value.slice A3 (0 + 1) c3).ownBlock) =>
            show ∃ A4 c4, v = .slice A4 (0 + 1) c4 ∧ w4.cell? ⟨w.heap.size, 0, none⟩ = some (.int .u64 (low : Int)) ∧ w4.cell? ⟨w.heap.size + 1, 0, none⟩ = some (.int .u64 0) ∧ w4.cell? ⟨w.heap.size + 1, 1, none⟩ = some (.slice none 0 0) ∧ w4.frozen? ⟨w.heap.size + 1, 0, none⟩ = false ∧ w4.frozen? ⟨w.heap.size + 1, 1, none⟩ = false ∧ Made w (ins1 m []) (.slice A4 (0 + 1) c4) w4 ∧ Row w4 (w.heap.size + 1) 25 [.int .u64 0, .slice none 0 0] (0, 0) from by
              have hM := HM3.out.drew.more (l' := (([] : List Nat).drop 0)) (m := 0) rfl (by rw [HLN3.out]; exact hown) hgr
              have e : ([] : List Nat).take 0 ++ [m] ++ (([] : List Nat).drop 0) = ins1 m [] := by rw [List.append_assoc]; exact HFIN.out
              rw [e] at hM
              have el : (ins1 m []).length = 0 + 1 := by rw [← HFIN.out, List.length_append, HLN.out, List.length_cons, List.length_drop]; omega
              obtain ⟨A4, c4, hv, _⟩ := hM.made.own
              rw [el] at hv
              subst hv
              exact ⟨A4, c4, rfl, hM.c0, hM.r0, hM.r1, hM.f0, hM.f1, hM.made, hM.res⟩)
          go_region_law (refine step_own_nums rfl (.tmp 42) (.tmp 46) 23 rfl w.heap.size 22 i0 Try.underlying23 hi0 hz0 hz1 hz2 (.slice A3 (0 + 1) c3) (0 + 1) _ (by rfl) HOW3.out none (([] : List Nat).drop 0) (0) (0) (by rfl) rfl HSRC.out (fun _ => rfl) (by omega) HSZ3.out ?_; intro v4 w4 hown hgr; obtain ⟨A4, c4, rfl, k0, z0, z1, f0, f1, HM, HO2⟩ := HG.out v4 w4 hown hgr; clear hown hgr)
          all_goals
            go_wp2
            obtain ⟨hr, hm⟩ := HM.laid HO2 (by omega) (.int .u64 (low : Int)) (.slice A4 (0 + 1) c4)
            exact bodyPost_ret (v := .agg #[.int .u64 (low : Int), .slice A4 (0 + 1) c4]) (results_cell_row (by rfl) _ _ (w.heap.size + 1) _ _ (0, 0) _ (by rfl) hr Try.underlying25 rfl Try.size_ls) rfl ⟨_, rfl, hm⟩
        | some a =>
          by_cases hb2 : c = k
          · have HB := Lib.hid (HMK.out.alloc (.cells #[.int .u64 (m : Int)] 22))
            have HOW := Lib.hid (show (wr.alloc (.cells #[.int .u64 (m : Int)] 22)).ownsRow w.heap.size 22 1 (.slice A2 k c2) k (nv (l.take k)) by have := HB.out.made.1; rwa [HLN.out] at this)
            have HSZ := Lib.hid HB.out.made.2.size
            go_wp2_with (at_builtin; refine wpList_own_nums rfl (.tmp 36) (.tmp 38) 23 rfl w.heap.size 22 i0 Try.underlying23 hi0 hz0 hz1 hz2 (.slice A2 k c2) k _ rfl HOW.out _ [m] 1 1 rfl rfl (rn_one wr m) (fun e => by cases e) (by omega) HSZ.out ?_)
            intro v3 w3 hown hgr
            have hm3 := HB.out.more (l' := [m]) (m := 1) rfl (by rw [HLN.out]; exact hown) hgr
            have HLN3 := Lib.hid (show (l.take k ++ [m]).length = k + 1 by rw [List.length_append, HLN.out]; rfl)
            clear hown hgr
            obtain ⟨A3, c3, hv, _⟩ := hm3.made.own
            rw [HLN3.out] at hv
            subst hv
            have HM3 := Lib.hid hm3
            clear hm3 c0 c1
            go_wp2_with fail
            have c0 := HM3.out.c0
            have c1 := HM3.out.c1
            have hb1 : (k : Int) ≤ (l.length : Int) := by omega
            have HSRC := Lib.hid (show RN w3.drew (some a) (l.drop k) by rw [HDN.out]; exact RN.nil)
            have HOW3 := Lib.hid (show w3.drew.ownsRow w.heap.size 22 1 (.slice A3 (k + 1) c3) (k + 1) (nv (l.take k ++ [m])) by have := HM3.out.drew.made.1; rwa [HLN3.out] at this)
            have HSZ3 := Lib.hid HM3.out.drew.made.2.size
            have HG := Lib.hid (fun (v : Value) (w4 : World) (hown : w4.ownsRow w.heap.size 22 1 v (k + 1 + (l.length - k)) (nv (l.take k ++ [m]) ++ nv (l.drop k))) (hgr : w3.drew.grownBy w4 (Value.slice A3 (k + 1) c3).ownBlock) =>
              show ∃ A4 c4, v = .slice A4 (l.length + 1) c4 ∧ w4.cell? ⟨w.heap.size, 0, none⟩ = some (.int .u64 (low : Int)) ∧ w4.cell? ⟨w.heap.size + 1, 0, none⟩ = some (.int .u64 0) ∧ w4.cell? ⟨w.heap.size + 1, 1, none⟩ = some (.slice none 0 0) ∧ w4.frozen? ⟨w.heap.size + 1, 0, none⟩ = false ∧ w4.frozen? ⟨w.heap.size + 1, 1, none⟩ = false ∧ Made w (ins1 m l) (.slice A4 (l.length + 1) c4) w4 ∧ Row w4 (w.heap.size + 1) 25 [.int .u64 0, .slice none 0 0] (0, 0) from by
                have hM := HM3.out.drew.more (l' := l.drop k) (m := l.length - k) (by rw [List.length_drop]) (by rw [HLN3.out]; exact hown) hgr
                have e : l.take k ++ [m] ++ l.drop k = ins1 m l := by rw [List.append_assoc]; exact HFIN.out
                rw [e] at hM
                have el : (ins1 m l).length = l.length + 1 := by rw [← HFIN.out, List.length_append, HLN.out, List.length_cons, List.length_drop]; omega
                obtain ⟨A4, c4, hv, _⟩ := hM.made.own
                rw [el] at hv
                subst hv
                exact ⟨A4, c4, rfl, hM.c0, hM.r0, hM.r1, hM.f0, hM.f1, hM.made, hM.res⟩)
            go_region_law (refine step_own_nums rfl (.tmp 42) (.tmp 46) 23 rfl w.heap.size 22 i0 Try.underlying23 hi0 hz0 hz1 hz2 (.slice A3 (k + 1) c3) (k + 1) _ (by rfl) HOW3.out (some a) (l.drop k) (l.length - k) 0 (by rfl) (by rw [List.length_drop]) HSRC.out (fun e => by cases e) (by omega) HSZ3.out ?_; intro v4 w4 hown hgr; obtain ⟨A4, c4, rfl, k0, z0, z1, f0, f1, HM, HO2⟩ := HG.out v4 w4 hown hgr; clear hown hgr)
            all_goals
              go_wp2
              obtain ⟨hr, hm⟩ := HM.laid HO2 (by omega) (.int .u64 (low : Int)) (.slice A4 (l.length + 1) c4)
              exact bodyPost_ret (v := .agg #[.int .u64 (low : Int), .slice A4 (l.length + 1) c4]) (results_cell_row (by rfl) _ _ (w.heap.size + 1) _ _ (0, 0) _ (by rfl) hr Try.underlying25 rfl Try.size_ls) rfl ⟨_, rfl, hm⟩
          · have HB := Lib.hid (HMK.out.alloc (.cells #[.int .u64 (m : Int)] 22))
            have HOW := Lib.hid (show (wr.alloc (.cells #[.int .u64 (m : Int)] 22)).ownsRow w.heap.size 22 1 (.slice A2 k c2) k (nv (l.take k)) by have := HB.out.made.1; rwa [HLN.out] at this)
            have HSZ := Lib.hid HB.out.made.2.size
            go_wp2_with (at_builtin; refine wpList_own_nums rfl (.tmp 36) (.tmp 38) 23 rfl w.heap.size 22 i0 Try.underlying23 hi0 hz0 hz1 hz2 (.slice A2 k c2) k _ rfl HOW.out _ [m] 1 1 rfl rfl (rn_one wr m) (fun e => by cases e) (by omega) HSZ.out ?_)
            intro v3 w3 hown hgr
            have hm3 := HB.out.more (l' := [m]) (m := 1) rfl (by rw [HLN.out]; exact hown) hgr
            have HLN3 := Lib.hid (show (l.take k ++ [m]).length = k + 1 by rw [List.length_append, HLN.out]; rfl)
            clear hown hgr
            obtain ⟨A3, c3, hv, _⟩ := hm3.made.own
            rw [HLN3.out] at hv
            subst hv
            have HM3 := Lib.hid hm3
            clear hm3 c0 c1
            go_wp2_with fail
            have c0 := HM3.out.c0
            have c1 := HM3.out.c1
            have hb1 : (k : Int) ≤ (l.length : Int) := by omega
            have HSRC := Lib.hid (show RN w3.drew (some (a.add k)) (l.drop k) by rw [HDN.out]; exact RN.nil)
            have HOW3 := Lib.hid (show w3.drew.ownsRow w.heap.size 22 1 (.slice A3 (k + 1) c3) (k + 1) (nv (l.take k ++ [m])) by have := HM3.out.drew.made.1; rwa [HLN3.out] at this)
            have HSZ3 := Lib.hid HM3.out.drew.made.2.size
            have HG := Lib.hid (fun (v : Value) (w4 : World) (hown : w4.ownsRow w.heap.size 22 1 v (k + 1 + (l.length - k)) (nv (l.take k ++ [m]) ++ nv (l.drop k))) (hgr : w3.drew.grownBy w4 (Value.slice A3 (k + 1) c3).ownBlock) =>
              show ∃ A4 c4, v = .slice A4 (l.length + 1) c4 ∧ w4.cell? ⟨w.heap.size, 0, none⟩ = some (.int .u64 (low : Int)) ∧ w4.cell? ⟨w.heap.size + 1, 0, none⟩ = some (.int .u64 0) ∧ w4.cell? ⟨w.heap.size + 1, 1, none⟩ = some (.slice none 0 0) ∧ w4.frozen? ⟨w.heap.size + 1, 0, none⟩ = false ∧ w4.frozen? ⟨w.heap.size + 1, 1, none⟩ = false ∧ Made w (ins1 m l) (.slice A4 (l.length + 1) c4) w4 ∧ Row w4 (w.heap.size + 1) 25 [.int .u64 0, .slice none 0 0] (0, 0) from by
                have hM := HM3.out.drew.more (l' := l.drop k) (m := l.length - k) (by rw [List.length_drop]) (by rw [HLN3.out]; exact hown) hgr
                have e : l.take k ++ [m] ++ l.drop k = ins1 m l := by rw [List.append_assoc]; exact HFIN.out
                rw [e] at hM
                have el : (ins1 m l).length = l.length + 1 := by rw [← HFIN.out, List.length_append, HLN.out, List.length_cons, List.length_drop]; omega
                obtain ⟨A4, c4, hv, _⟩ := hM.made.own
                rw [el] at hv
                subst hv
                exact ⟨A4, c4, rfl, hM.c0, hM.r0, hM.r1, hM.f0, hM.f1, hM.made, hM.res⟩)
            go_region_law (refine step_own_nums rfl (.tmp 42) (.tmp 46) 23 rfl w.heap.size 22 i0 Try.underlying23 hi0 hz0 hz1 hz2 (.slice A3 (k + 1) c3) (k + 1) _ (by rfl) HOW3.out (some (a.add k)) (l.drop k) (l.length - k) (c - k) (by rfl) (by rw [List.length_drop]) HSRC.out (fun e => by cases e) (by omega) HSZ3.out ?_; intro v4 w4 hown hgr; obtain ⟨A4, c4, rfl, k0, z0, z1, f0, f1, HM, HO2⟩ := HG.out v4 w4 hown hgr; clear hown hgr)
            all_goals
              go_wp2
              obtain ⟨hr, hm⟩ := HM.laid HO2 (by omega) (.int .u64 (low : Int)) (.slice A4 (l.length + 1) c4)
              exact bodyPost_ret (v := .agg #[.int .u64 (low : Int), .slice A4 (l.length + 1) c4]) (results_cell_row (by rfl) _ _ (w.heap.size + 1) _ _ (0, 0) _ (by rfl) hr Try.underlying25 rfl Try.size_ls) rfl ⟨_, rfl, hm⟩
  · go_wp2_with fail
    refine (HC.out _ HI1.out).mono ?_
    rintro e w2 ⟨v, rfl, hm⟩
    obtain ⟨A2, c2, rfl, hc2, hn2, ho2, hb2⟩ := hm.own
    have HM2 := Lib.hid (HM1.out.keeps hb2)
    have HMM := Lib.hid (show Made w l (.slice A2 l.length c2) w2 from ⟨by
      have h1 := hm.1
      obtain ⟨h2, h3⟩ := h1
      refine ⟨h2, ?_⟩
      rcases h3 with h3 | ⟨g, cap, cur, h4, h5, h6⟩
      · exact .inl h3
      · exact .inr ⟨g, cap, cur, h4, Nat.le_trans HM1.out.made.2.size h5, h6⟩, HM2.out.made.2⟩)
    clear hm ho2 hb2 HM1 HI1 HC
    clear c0 c1
    have r0 := HM2.out.r0
    have r1 := HM2.out.r1
    have f0 := HM2.out.f0
    have f1 := HM2.out.f1
    go_wp2
    obtain ⟨hr, hm⟩ := HMM.out.laid HM2.out.res (by omega) (.int .u64 (low : Int)) (.slice A2 l.length c2)
    exact bodyPost_ret (v := .agg #[.int .u64 (low : Int), .slice A2 l.length c2]) (results_cell_row (by rfl) _ _ (w.heap.size + 1) _ _ (0, 0) _ (by rfl) hr Try.underlying25 rfl Try.size_ls) rfl ⟨_, rfl, hm⟩

end Go.Proofs.Ytkcjhkhdpafjhaa
