/-
  x, y := Copy(a), Copy(b), in whatever order: written by a program (gen/gencopy.py), state by state.
-/
import Derived.Test.YtpjgmblhlhnniaaLsnsTurnsA
import Derived.Deep.RegionLaw
namespace Go.Proofs.Ytpjgmblhlhnniaa
open Go.RowKit

/-- The region's operations. -/
def copyOps : Array Oper := #[
  { dst := some 27, op := .load 25 (.tmp 3), type := 25, pos := "law.go:36", after := #[], guard := none },
  { dst := some 28, op := .call { callee := .value (.func 20), args := #[.tmp 27], argTypes := #[25] }, type := 25, pos := "law.go:36", after := #[{ on := 0, ground := .data }], guard := none },
  { dst := some 29, op := .load 25 (.tmp 4), type := 25, pos := "law.go:36", after := #[], guard := none },
  { dst := some 30, op := .call { callee := .value (.func 20), args := #[.tmp 29], argTypes := #[25] }, type := 25, pos := "law.go:36", after := #[{ on := 2, ground := .data }, { on := 1, ground := .chain }], guard := none },
  { dst := some 7, op := .alloc 25, type := 0, pos := "law.go:36", after := #[], guard := none },
  { dst := some 8, op := .alloc 25, type := 0, pos := "law.go:36", after := #[], guard := none },
  { dst := none, op := .store 25 (.tmp 7) (.tmp 28), type := 0, pos := "law.go:36", after := #[{ on := 4, ground := .data }, { on := 1, ground := .data }, { on := 3, ground := .chain }, { on := 0, ground := .phase }, { on := 1, ground := .phase }, { on := 2, ground := .textOnly .lateStores }, { on := 3, ground := .textOnly .lateStoresUnsure }, { on := 4, ground := .phase }, { on := 5, ground := .phase }], guard := none },
  { dst := none, op := .store 25 (.tmp 8) (.tmp 30), type := 0, pos := "law.go:36", after := #[{ on := 5, ground := .data }, { on := 3, ground := .data }, { on := 6, ground := .chain }, { on := 0, ground := .phase }, { on := 1, ground := .phase }, { on := 2, ground := .phase }, { on := 3, ground := .phase }, { on := 4, ground := .phase }, { on := 5, ground := .phase }, { on := 6, ground := .phase }], guard := none }]

theorem step_load_ls {ops : Array Oper} {o : Oper} {a : Act} {w : World} {K : Act → World → Prop} {Q : Exit → Act → World → Prop} {E : Prop} (hgd : o.guard = none) (p : Operand) (ho : o.op = .load 25 p)
    (g : Nat) (X : LV) (hx : a.eval p = .pointer (some ⟨g, 0, none⟩)) (hl : LiesS w g X.low X.A X.n X.c) (h : K (a.put o.dst (.agg #[.int .u64 (X.low : Int), .slice X.A X.n X.c])) w) :
    if Region.wanted o (yielded ops a.tmps) = true then Oper.wp Try.prog o a w K Q else E := by
  have hw : Region.wanted o (yielded ops a.tmps) = true := by simp [Region.wanted, hgd]
  rw [if_pos hw]
  have c0 := hl.c0
  have c1 := hl.c1
  unfold Oper.wp execOp
  simp only [ho, hx]
  go_simp
  exact h

/-- A frame, some of its slots written anew. -/
def fr (a : Act) (v27 v28 v29 v30 v7 v8 : Option Value) : Act :=
  { a with tmps := a.tmps.mapIdx fun i u => if i = 27 then v27.getD u else if i = 28 then v28.getD u else if i = 29 then v29.getD u else if i = 30 then v30.getD u else if i = 7 then v7.getD u else if i = 8 then v8.getD u else u }
section
variable {a : Act} {v27 v28 v29 v30 v7 v8 : Option Value}
theorem fr_none : fr a none none none none none none = a := by
  have h : (fr a none none none none none none).tmps = a.tmps := by
    simp only [fr]
    apply Array.ext_getElem?
    intro i
    simp [Array.getElem?_mapIdx]
  show ({ tmps := (fr a none none none none none none).tmps, defers := a.defers } : Act) = a
  rw [h]
theorem fr_put27 (v : Value) : (fr a none v28 v29 v30 v7 v8).put (some 27) v = fr a (some v) v28 v29 v30 v7 v8 := by
  have h : (fr a none v28 v29 v30 v7 v8).tmps.setIfInBounds 27 v = (fr a (some v) v28 v29 v30 v7 v8).tmps := by
    simp only [fr]
    apply Array.ext_getElem?
    intro i
    simp only [Array.getElem?_setIfInBounds, Array.getElem?_mapIdx, Array.size_mapIdx]
    by_cases hi : 27 = i
    · subst hi
      by_cases hz : 27 < a.tmps.size
      · simp [hz]
      · simp [hz]
    · simp [hi, Ne.symm hi]
  show ({ tmps := (fr a none v28 v29 v30 v7 v8).tmps.setIfInBounds 27 v, defers := a.defers } : Act) = { tmps := (fr a (some v) v28 v29 v30 v7 v8).tmps, defers := a.defers }
  rw [h]
theorem fr_put28 (v : Value) : (fr a v27 none v29 v30 v7 v8).put (some 28) v = fr a v27 (some v) v29 v30 v7 v8 := by
  have h : (fr a v27 none v29 v30 v7 v8).tmps.setIfInBounds 28 v = (fr a v27 (some v) v29 v30 v7 v8).tmps := by
    simp only [fr]
    apply Array.ext_getElem?
    intro i
    simp only [Array.getElem?_setIfInBounds, Array.getElem?_mapIdx, Array.size_mapIdx]
    by_cases hi : 28 = i
    · subst hi
      by_cases hz : 28 < a.tmps.size
      · simp [hz]
      · simp [hz]
    · simp [hi, Ne.symm hi]
  show ({ tmps := (fr a v27 none v29 v30 v7 v8).tmps.setIfInBounds 28 v, defers := a.defers } : Act) = { tmps := (fr a v27 (some v) v29 v30 v7 v8).tmps, defers := a.defers }
  rw [h]
theorem fr_put29 (v : Value) : (fr a v27 v28 none v30 v7 v8).put (some 29) v = fr a v27 v28 (some v) v30 v7 v8 := by
  have h : (fr a v27 v28 none v30 v7 v8).tmps.setIfInBounds 29 v = (fr a v27 v28 (some v) v30 v7 v8).tmps := by
    simp only [fr]
    apply Array.ext_getElem?
    intro i
    simp only [Array.getElem?_setIfInBounds, Array.getElem?_mapIdx, Array.size_mapIdx]
    by_cases hi : 29 = i
    · subst hi
      by_cases hz : 29 < a.tmps.size
      · simp [hz]
      · simp [hz]
    · simp [hi, Ne.symm hi]
  show ({ tmps := (fr a v27 v28 none v30 v7 v8).tmps.setIfInBounds 29 v, defers := a.defers } : Act) = { tmps := (fr a v27 v28 (some v) v30 v7 v8).tmps, defers := a.defers }
  rw [h]
theorem fr_put30 (v : Value) : (fr a v27 v28 v29 none v7 v8).put (some 30) v = fr a v27 v28 v29 (some v) v7 v8 := by
  have h : (fr a v27 v28 v29 none v7 v8).tmps.setIfInBounds 30 v = (fr a v27 v28 v29 (some v) v7 v8).tmps := by
    simp only [fr]
    apply Array.ext_getElem?
    intro i
    simp only [Array.getElem?_setIfInBounds, Array.getElem?_mapIdx, Array.size_mapIdx]
    by_cases hi : 30 = i
    · subst hi
      by_cases hz : 30 < a.tmps.size
      · simp [hz]
      · simp [hz]
    · simp [hi, Ne.symm hi]
  show ({ tmps := (fr a v27 v28 v29 none v7 v8).tmps.setIfInBounds 30 v, defers := a.defers } : Act) = { tmps := (fr a v27 v28 v29 (some v) v7 v8).tmps, defers := a.defers }
  rw [h]
theorem fr_put7 (v : Value) : (fr a v27 v28 v29 v30 none v8).put (some 7) v = fr a v27 v28 v29 v30 (some v) v8 := by
  have h : (fr a v27 v28 v29 v30 none v8).tmps.setIfInBounds 7 v = (fr a v27 v28 v29 v30 (some v) v8).tmps := by
    simp only [fr]
    apply Array.ext_getElem?
    intro i
    simp only [Array.getElem?_setIfInBounds, Array.getElem?_mapIdx, Array.size_mapIdx]
    by_cases hi : 7 = i
    · subst hi
      by_cases hz : 7 < a.tmps.size
      · simp [hz]
      · simp [hz]
    · simp [hi, Ne.symm hi]
  show ({ tmps := (fr a v27 v28 v29 v30 none v8).tmps.setIfInBounds 7 v, defers := a.defers } : Act) = { tmps := (fr a v27 v28 v29 v30 (some v) v8).tmps, defers := a.defers }
  rw [h]
theorem fr_put8 (v : Value) : (fr a v27 v28 v29 v30 v7 none).put (some 8) v = fr a v27 v28 v29 v30 v7 (some v) := by
  have h : (fr a v27 v28 v29 v30 v7 none).tmps.setIfInBounds 8 v = (fr a v27 v28 v29 v30 v7 (some v)).tmps := by
    simp only [fr]
    apply Array.ext_getElem?
    intro i
    simp only [Array.getElem?_setIfInBounds, Array.getElem?_mapIdx, Array.size_mapIdx]
    by_cases hi : 8 = i
    · subst hi
      by_cases hz : 8 < a.tmps.size
      · simp [hz]
      · simp [hz]
    · simp [hi, Ne.symm hi]
  show ({ tmps := (fr a v27 v28 v29 v30 v7 none).tmps.setIfInBounds 8 v, defers := a.defers } : Act) = { tmps := (fr a v27 v28 v29 v30 v7 (some v)).tmps, defers := a.defers }
  rw [h]
theorem fr_at (i : Nat) (hi : i ≠ 27 ∧ i ≠ 28 ∧ i ≠ 29 ∧ i ≠ 30 ∧ i ≠ 7 ∧ i ≠ 8) : (fr a v27 v28 v29 v30 v7 v8).eval (.tmp i) = a.eval (.tmp i) := by
  obtain ⟨h1, h2, h3, h4, h5, h6⟩ := hi
  show (fr a v27 v28 v29 v30 v7 v8).tmps.getD i undef = a.tmps.getD i undef
  simp only [fr, Array.getD_eq_getD_getElem?, Array.getElem?_mapIdx, h1, h2, h3, h4, h5, h6, if_false]
  cases a.tmps[i]? <;> rfl
theorem fr_eval27 (hz : 27 < a.tmps.size) (v : Value) : (fr a (some v) v28 v29 v30 v7 v8).eval (.tmp 27) = v := by
  show (fr a (some v) v28 v29 v30 v7 v8).tmps.getD 27 undef = v
  simp [fr, Array.getD_eq_getD_getElem?, hz]
theorem fr_eval28 (hz : 28 < a.tmps.size) (v : Value) : (fr a v27 (some v) v29 v30 v7 v8).eval (.tmp 28) = v := by
  show (fr a v27 (some v) v29 v30 v7 v8).tmps.getD 28 undef = v
  simp [fr, Array.getD_eq_getD_getElem?, hz]
theorem fr_eval29 (hz : 29 < a.tmps.size) (v : Value) : (fr a v27 v28 (some v) v30 v7 v8).eval (.tmp 29) = v := by
  show (fr a v27 v28 (some v) v30 v7 v8).tmps.getD 29 undef = v
  simp [fr, Array.getD_eq_getD_getElem?, hz]
theorem fr_eval30 (hz : 30 < a.tmps.size) (v : Value) : (fr a v27 v28 v29 (some v) v7 v8).eval (.tmp 30) = v := by
  show (fr a v27 v28 v29 (some v) v7 v8).tmps.getD 30 undef = v
  simp [fr, Array.getD_eq_getD_getElem?, hz]
theorem fr_eval7 (hz : 7 < a.tmps.size) (v : Value) : (fr a v27 v28 v29 v30 (some v) v8).eval (.tmp 7) = v := by
  show (fr a v27 v28 v29 v30 (some v) v8).tmps.getD 7 undef = v
  simp [fr, Array.getD_eq_getD_getElem?, hz]
theorem fr_eval8 (hz : 8 < a.tmps.size) (v : Value) : (fr a v27 v28 v29 v30 v7 (some v)).eval (.tmp 8) = v := by
  show (fr a v27 v28 v29 v30 v7 (some v)).tmps.getD 8 undef = v
  simp [fr, Array.getD_eq_getD_getElem?, hz]
end
set_option maxRecDepth 100000 in
set_option maxHeartbeats 8000000 in
theorem two_copies {Q : Exit → Act → World → Prop} (a : Act) (w2 : World) (x y : LV) (gx gy : Nat) (h3 : a.eval (.tmp 3) = .pointer (some ⟨gx, 0, none⟩)) (h4 : a.eval (.tmp 4) = .pointer (some ⟨gy, 0, none⟩)) (hz : 30 < a.tmps.size)
    (hx : AtS w2 gx x) (hy : AtS w2 gy y) (hnx : x.n ≤ 1100) (hny : y.n ≤ 1100)
    (hQ : ∀ (g h : Nat) (C D : LV) (W : World), Copied w2 x.s y.s (.pointer (some ⟨g, 0, none⟩)) (.pointer (some ⟨h, 0, none⟩)) W → Q .normal (fr a (some (.agg #[.int .u64 (x.low : Int), .slice x.A x.n x.c])) (some (.agg #[.int .u64 (C.low : Int), .slice C.A C.n C.c])) (some (.agg #[.int .u64 (y.low : Int), .slice y.A y.n y.c])) (some (.agg #[.int .u64 (D.low : Int), .slice D.A D.n D.c])) (some (.pointer (some ⟨g, 0, none⟩))) (some (.pointer (some ⟨h, 0, none⟩)))) W) :
    wpAny Try.prog .any copyOps Q 8 (Array.replicate 8 false) a w2.drew := by
  have kX := fun wx (hk : Keep w2 wx) => rgot_copy x wx (hx.keeps hk).isIn hnx
  have kY := fun wx (hk : Keep w2 wx) => rgot_copy y wx (hy.keeps hk).isIn hny
  have k01234567 : ∀ (g : Nat) (h : Nat) (C : LV) (D : LV) (W : World), TwoC w2 x.s y.s (some g) (some h) (some C) (some D) true true W → wpAny Try.prog .any copyOps Q 0 #[true, true, true, true, true, true, true, true] (fr a (some (.agg #[.int .u64 (x.low : Int), .slice x.A x.n x.c])) (some (.agg #[.int .u64 (C.low : Int), .slice C.A C.n C.c])) (some (.agg #[.int .u64 (y.low : Int), .slice y.A y.n y.c])) (some (.agg #[.int .u64 (D.low : Int), .slice D.A D.n D.c])) (some (.pointer (some ⟨g, 0, none⟩))) (some (.pointer (some ⟨h, 0, none⟩)))) W := by
    intro g h C D W hT
    exact wpAny_done (by kernel_rfl) (hQ g h C D W hT.done) _
  have k0123456 : ∀ (g : Nat) (h : Nat) (C : LV) (D : LV) (W : World), TwoC w2 x.s y.s (some g) (some h) (some C) (some D) true false W → wpAny Try.prog .any copyOps Q 1 #[true, true, true, true, true, true, true, false] (fr a (some (.agg #[.int .u64 (x.low : Int), .slice x.A x.n x.c])) (some (.agg #[.int .u64 (C.low : Int), .slice C.A C.n C.c])) (some (.agg #[.int .u64 (y.low : Int), .slice y.A y.n y.c])) (some (.agg #[.int .u64 (D.low : Int), .slice D.A D.n D.c])) (some (.pointer (some ⟨g, 0, none⟩))) (some (.pointer (some ⟨h, 0, none⟩)))) W := by
    intro g h C D W hT
    refine wpAny_ready (rs := [7]) (by kernel_rfl) (by simp) ?_
    refine AllReady.cons (o := { dst := none, op := .store 25 (.tmp 8) (.tmp 30), type := 0, pos := "law.go:36", after := #[{ on := 5, ground := .data }, { on := 3, ground := .data }, { on := 6, ground := .chain }, { on := 0, ground := .phase }, { on := 1, ground := .phase }, { on := 2, ground := .phase }, { on := 3, ground := .phase }, { on := 4, ground := .phase }, { on := 5, ground := .phase }, { on := 6, ground := .phase }], guard := none }) rfl (fun K hK => ?_) ?_
    · refine step_store_ls rfl (.tmp 8) (.tmp 30) rfl h D (fr_eval8 (by omega) _) (fr_eval30 (by omega) _) _ _ hT.row2 ?_
      refine hK _ _ ?_
      exact k01234567 g h C D _ hT.put2
    exact AllReady.nil
  have k012345 : ∀ (g : Nat) (h : Nat) (C : LV) (D : LV) (W : World), TwoC w2 x.s y.s (some g) (some h) (some C) (some D) false false W → wpAny Try.prog .any copyOps Q 2 #[true, true, true, true, true, true, false, false] (fr a (some (.agg #[.int .u64 (x.low : Int), .slice x.A x.n x.c])) (some (.agg #[.int .u64 (C.low : Int), .slice C.A C.n C.c])) (some (.agg #[.int .u64 (y.low : Int), .slice y.A y.n y.c])) (some (.agg #[.int .u64 (D.low : Int), .slice D.A D.n D.c])) (some (.pointer (some ⟨g, 0, none⟩))) (some (.pointer (some ⟨h, 0, none⟩)))) W := by
    intro g h C D W hT
    refine wpAny_ready (rs := [6]) (by kernel_rfl) (by simp) ?_
    refine AllReady.cons (o := { dst := none, op := .store 25 (.tmp 7) (.tmp 28), type := 0, pos := "law.go:36", after := #[{ on := 4, ground := .data }, { on := 1, ground := .data }, { on := 3, ground := .chain }, { on := 0, ground := .phase }, { on := 1, ground := .phase }, { on := 2, ground := .textOnly .lateStores }, { on := 3, ground := .textOnly .lateStoresUnsure }, { on := 4, ground := .phase }, { on := 5, ground := .phase }], guard := none }) rfl (fun K hK => ?_) ?_
    · refine step_store_ls rfl (.tmp 7) (.tmp 28) rfl g C (fr_eval7 (by omega) _) (fr_eval28 (by omega) _) _ _ hT.row1 ?_
      refine hK _ _ ?_
      exact k0123456 g h C D _ hT.put1
    exact AllReady.nil
  have k01234 : ∀ (g : Nat) (C : LV) (D : LV) (W : World), TwoC w2 x.s y.s (some g) none (some C) (some D) false false W → wpAny Try.prog .any copyOps Q 3 #[true, true, true, true, true, false, false, false] (fr a (some (.agg #[.int .u64 (x.low : Int), .slice x.A x.n x.c])) (some (.agg #[.int .u64 (C.low : Int), .slice C.A C.n C.c])) (some (.agg #[.int .u64 (y.low : Int), .slice y.A y.n y.c])) (some (.agg #[.int .u64 (D.low : Int), .slice D.A D.n D.c])) (some (.pointer (some ⟨g, 0, none⟩))) none) W := by
    intro g C D W hT
    refine wpAny_ready (rs := [5]) (by kernel_rfl) (by simp) ?_
    refine AllReady.cons (o := { dst := some 8, op := .alloc 25, type := 0, pos := "law.go:36", after := #[], guard := none }) rfl (fun K hK => ?_) ?_
    · refine step_alloc_ls rfl 8 rfl rfl fun h W1 hb hz1 hg => ?_
      refine hK _ _ ?_
      rw [fr_put8]
      exact k012345 g h C D _ (hT.new2 hb hz1 hg)
    exact AllReady.nil
  have k01235 : ∀ (h : Nat) (C : LV) (D : LV) (W : World), TwoC w2 x.s y.s none (some h) (some C) (some D) false false W → wpAny Try.prog .any copyOps Q 3 #[true, true, true, true, false, true, false, false] (fr a (some (.agg #[.int .u64 (x.low : Int), .slice x.A x.n x.c])) (some (.agg #[.int .u64 (C.low : Int), .slice C.A C.n C.c])) (some (.agg #[.int .u64 (y.low : Int), .slice y.A y.n y.c])) (some (.agg #[.int .u64 (D.low : Int), .slice D.A D.n D.c])) none (some (.pointer (some ⟨h, 0, none⟩)))) W := by
    intro h C D W hT
    refine wpAny_ready (rs := [4]) (by kernel_rfl) (by simp) ?_
    refine AllReady.cons (o := { dst := some 7, op := .alloc 25, type := 0, pos := "law.go:36", after := #[], guard := none }) rfl (fun K hK => ?_) ?_
    · refine step_alloc_ls rfl 7 rfl rfl fun g W1 hb hz1 hg => ?_
      refine hK _ _ ?_
      rw [fr_put7]
      exact k012345 g h C D _ (hT.new1 hb hz1 hg)
    exact AllReady.nil
  have k0123 : ∀ (C : LV) (D : LV) (W : World), TwoC w2 x.s y.s none none (some C) (some D) false false W → wpAny Try.prog .any copyOps Q 4 #[true, true, true, true, false, false, false, false] (fr a (some (.agg #[.int .u64 (x.low : Int), .slice x.A x.n x.c])) (some (.agg #[.int .u64 (C.low : Int), .slice C.A C.n C.c])) (some (.agg #[.int .u64 (y.low : Int), .slice y.A y.n y.c])) (some (.agg #[.int .u64 (D.low : Int), .slice D.A D.n D.c])) none none) W := by
    intro C D W hT
    refine wpAny_ready (rs := [4, 5]) (by kernel_rfl) (by simp) ?_
    refine AllReady.cons (o := { dst := some 7, op := .alloc 25, type := 0, pos := "law.go:36", after := #[], guard := none }) rfl (fun K hK => ?_) ?_
    · refine step_alloc_ls rfl 7 rfl rfl fun g W1 hb hz1 hg => ?_
      refine hK _ _ ?_
      rw [fr_put7]
      exact k01234 g C D _ (hT.new1 hb hz1 hg)
    refine AllReady.cons (o := { dst := some 8, op := .alloc 25, type := 0, pos := "law.go:36", after := #[], guard := none }) rfl (fun K hK => ?_) ?_
    · refine step_alloc_ls rfl 8 rfl rfl fun h W1 hb hz1 hg => ?_
      refine hK _ _ ?_
      rw [fr_put8]
      exact k01235 h C D _ (hT.new2 hb hz1 hg)
    exact AllReady.nil
  have k01245 : ∀ (g : Nat) (h : Nat) (C : LV) (W : World), TwoC w2 x.s y.s (some g) (some h) (some C) none false false W → wpAny Try.prog .any copyOps Q 3 #[true, true, true, false, true, true, false, false] (fr a (some (.agg #[.int .u64 (x.low : Int), .slice x.A x.n x.c])) (some (.agg #[.int .u64 (C.low : Int), .slice C.A C.n C.c])) (some (.agg #[.int .u64 (y.low : Int), .slice y.A y.n y.c])) none (some (.pointer (some ⟨g, 0, none⟩))) (some (.pointer (some ⟨h, 0, none⟩)))) W := by
    intro g h C W hT
    refine wpAny_ready (rs := [3]) (by kernel_rfl) (by simp) ?_
    refine AllReady.cons (o := { dst := some 30, op := .call { callee := .value (.func 20), args := #[.tmp 29], argTypes := #[25] }, type := 25, pos := "law.go:36", after := #[{ on := 2, ground := .data }, { on := 1, ground := .chain }], guard := none }) rfl (fun K hK => ?_) ?_
    · refine step_call rfl 20 #[.tmp 29] _ rfl #[(.agg #[.int .u64 (y.low : Int), .slice y.A y.n y.c])] (by simp only [List.map_toArray, List.map_cons, List.map_nil, fr_eval29 (by omega : 29 < a.tmps.size)]) enters_copy (kY _ hT.keep) ?_
      rintro e w1 ⟨D, rfl, hD, hiD, _, hoD, hbD⟩
      refine ⟨_, rfl, ?_⟩
      refine hK _ _ ?_
      rw [fr_put30]
      exact k012345 g h C D _ (hT.got2 hbD hiD hD hoD)
    exact AllReady.nil
  have k0124 : ∀ (g : Nat) (C : LV) (W : World), TwoC w2 x.s y.s (some g) none (some C) none false false W → wpAny Try.prog .any copyOps Q 4 #[true, true, true, false, true, false, false, false] (fr a (some (.agg #[.int .u64 (x.low : Int), .slice x.A x.n x.c])) (some (.agg #[.int .u64 (C.low : Int), .slice C.A C.n C.c])) (some (.agg #[.int .u64 (y.low : Int), .slice y.A y.n y.c])) none (some (.pointer (some ⟨g, 0, none⟩))) none) W := by
    intro g C W hT
    refine wpAny_ready (rs := [3, 5]) (by kernel_rfl) (by simp) ?_
    refine AllReady.cons (o := { dst := some 30, op := .call { callee := .value (.func 20), args := #[.tmp 29], argTypes := #[25] }, type := 25, pos := "law.go:36", after := #[{ on := 2, ground := .data }, { on := 1, ground := .chain }], guard := none }) rfl (fun K hK => ?_) ?_
    · refine step_call rfl 20 #[.tmp 29] _ rfl #[(.agg #[.int .u64 (y.low : Int), .slice y.A y.n y.c])] (by simp only [List.map_toArray, List.map_cons, List.map_nil, fr_eval29 (by omega : 29 < a.tmps.size)]) enters_copy (kY _ hT.keep) ?_
      rintro e w1 ⟨D, rfl, hD, hiD, _, hoD, hbD⟩
      refine ⟨_, rfl, ?_⟩
      refine hK _ _ ?_
      rw [fr_put30]
      exact k01234 g C D _ (hT.got2 hbD hiD hD hoD)
    refine AllReady.cons (o := { dst := some 8, op := .alloc 25, type := 0, pos := "law.go:36", after := #[], guard := none }) rfl (fun K hK => ?_) ?_
    · refine step_alloc_ls rfl 8 rfl rfl fun h W1 hb hz1 hg => ?_
      refine hK _ _ ?_
      rw [fr_put8]
      exact k01245 g h C _ (hT.new2 hb hz1 hg)
    exact AllReady.nil
  have k0125 : ∀ (h : Nat) (C : LV) (W : World), TwoC w2 x.s y.s none (some h) (some C) none false false W → wpAny Try.prog .any copyOps Q 4 #[true, true, true, false, false, true, false, false] (fr a (some (.agg #[.int .u64 (x.low : Int), .slice x.A x.n x.c])) (some (.agg #[.int .u64 (C.low : Int), .slice C.A C.n C.c])) (some (.agg #[.int .u64 (y.low : Int), .slice y.A y.n y.c])) none none (some (.pointer (some ⟨h, 0, none⟩)))) W := by
    intro h C W hT
    refine wpAny_ready (rs := [3, 4]) (by kernel_rfl) (by simp) ?_
    refine AllReady.cons (o := { dst := some 30, op := .call { callee := .value (.func 20), args := #[.tmp 29], argTypes := #[25] }, type := 25, pos := "law.go:36", after := #[{ on := 2, ground := .data }, { on := 1, ground := .chain }], guard := none }) rfl (fun K hK => ?_) ?_
    · refine step_call rfl 20 #[.tmp 29] _ rfl #[(.agg #[.int .u64 (y.low : Int), .slice y.A y.n y.c])] (by simp only [List.map_toArray, List.map_cons, List.map_nil, fr_eval29 (by omega : 29 < a.tmps.size)]) enters_copy (kY _ hT.keep) ?_
      rintro e w1 ⟨D, rfl, hD, hiD, _, hoD, hbD⟩
      refine ⟨_, rfl, ?_⟩
      refine hK _ _ ?_
      rw [fr_put30]
      exact k01235 h C D _ (hT.got2 hbD hiD hD hoD)
    refine AllReady.cons (o := { dst := some 7, op := .alloc 25, type := 0, pos := "law.go:36", after := #[], guard := none }) rfl (fun K hK => ?_) ?_
    · refine step_alloc_ls rfl 7 rfl rfl fun g W1 hb hz1 hg => ?_
      refine hK _ _ ?_
      rw [fr_put7]
      exact k01245 g h C _ (hT.new1 hb hz1 hg)
    exact AllReady.nil
  have k012 : ∀ (C : LV) (W : World), TwoC w2 x.s y.s none none (some C) none false false W → wpAny Try.prog .any copyOps Q 5 #[true, true, true, false, false, false, false, false] (fr a (some (.agg #[.int .u64 (x.low : Int), .slice x.A x.n x.c])) (some (.agg #[.int .u64 (C.low : Int), .slice C.A C.n C.c])) (some (.agg #[.int .u64 (y.low : Int), .slice y.A y.n y.c])) none none none) W := by
    intro C W hT
    refine wpAny_ready (rs := [3, 4, 5]) (by kernel_rfl) (by simp) ?_
    refine AllReady.cons (o := { dst := some 30, op := .call { callee := .value (.func 20), args := #[.tmp 29], argTypes := #[25] }, type := 25, pos := "law.go:36", after := #[{ on := 2, ground := .data }, { on := 1, ground := .chain }], guard := none }) rfl (fun K hK => ?_) ?_
    · refine step_call rfl 20 #[.tmp 29] _ rfl #[(.agg #[.int .u64 (y.low : Int), .slice y.A y.n y.c])] (by simp only [List.map_toArray, List.map_cons, List.map_nil, fr_eval29 (by omega : 29 < a.tmps.size)]) enters_copy (kY _ hT.keep) ?_
      rintro e w1 ⟨D, rfl, hD, hiD, _, hoD, hbD⟩
      refine ⟨_, rfl, ?_⟩
      refine hK _ _ ?_
      rw [fr_put30]
      exact k0123 C D _ (hT.got2 hbD hiD hD hoD)
    refine AllReady.cons (o := { dst := some 7, op := .alloc 25, type := 0, pos := "law.go:36", after := #[], guard := none }) rfl (fun K hK => ?_) ?_
    · refine step_alloc_ls rfl 7 rfl rfl fun g W1 hb hz1 hg => ?_
      refine hK _ _ ?_
      rw [fr_put7]
      exact k0124 g C _ (hT.new1 hb hz1 hg)
    refine AllReady.cons (o := { dst := some 8, op := .alloc 25, type := 0, pos := "law.go:36", after := #[], guard := none }) rfl (fun K hK => ?_) ?_
    · refine step_alloc_ls rfl 8 rfl rfl fun h W1 hb hz1 hg => ?_
      refine hK _ _ ?_
      rw [fr_put8]
      exact k0125 h C _ (hT.new2 hb hz1 hg)
    exact AllReady.nil
  have k0145 : ∀ (g : Nat) (h : Nat) (C : LV) (W : World), TwoC w2 x.s y.s (some g) (some h) (some C) none false false W → wpAny Try.prog .any copyOps Q 4 #[true, true, false, false, true, true, false, false] (fr a (some (.agg #[.int .u64 (x.low : Int), .slice x.A x.n x.c])) (some (.agg #[.int .u64 (C.low : Int), .slice C.A C.n C.c])) none none (some (.pointer (some ⟨g, 0, none⟩))) (some (.pointer (some ⟨h, 0, none⟩)))) W := by
    intro g h C W hT
    refine wpAny_ready (rs := [2]) (by kernel_rfl) (by simp) ?_
    refine AllReady.cons (o := { dst := some 29, op := .load 25 (.tmp 4), type := 25, pos := "law.go:36", after := #[], guard := none }) rfl (fun K hK => ?_) ?_
    · refine step_load_ls rfl (.tmp 4) rfl gy y ((fr_at 4 (by decide)).trans h4) (hy.keeps hT.keep).lies ?_
      refine hK _ _ ?_
      rw [fr_put29]
      exact k01245 g h C _ hT
    exact AllReady.nil
  have k014 : ∀ (g : Nat) (C : LV) (W : World), TwoC w2 x.s y.s (some g) none (some C) none false false W → wpAny Try.prog .any copyOps Q 5 #[true, true, false, false, true, false, false, false] (fr a (some (.agg #[.int .u64 (x.low : Int), .slice x.A x.n x.c])) (some (.agg #[.int .u64 (C.low : Int), .slice C.A C.n C.c])) none none (some (.pointer (some ⟨g, 0, none⟩))) none) W := by
    intro g C W hT
    refine wpAny_ready (rs := [2, 5]) (by kernel_rfl) (by simp) ?_
    refine AllReady.cons (o := { dst := some 29, op := .load 25 (.tmp 4), type := 25, pos := "law.go:36", after := #[], guard := none }) rfl (fun K hK => ?_) ?_
    · refine step_load_ls rfl (.tmp 4) rfl gy y ((fr_at 4 (by decide)).trans h4) (hy.keeps hT.keep).lies ?_
      refine hK _ _ ?_
      rw [fr_put29]
      exact k0124 g C _ hT
    refine AllReady.cons (o := { dst := some 8, op := .alloc 25, type := 0, pos := "law.go:36", after := #[], guard := none }) rfl (fun K hK => ?_) ?_
    · refine step_alloc_ls rfl 8 rfl rfl fun h W1 hb hz1 hg => ?_
      refine hK _ _ ?_
      rw [fr_put8]
      exact k0145 g h C _ (hT.new2 hb hz1 hg)
    exact AllReady.nil
  have k015 : ∀ (h : Nat) (C : LV) (W : World), TwoC w2 x.s y.s none (some h) (some C) none false false W → wpAny Try.prog .any copyOps Q 5 #[true, true, false, false, false, true, false, false] (fr a (some (.agg #[.int .u64 (x.low : Int), .slice x.A x.n x.c])) (some (.agg #[.int .u64 (C.low : Int), .slice C.A C.n C.c])) none none none (some (.pointer (some ⟨h, 0, none⟩)))) W := by
    intro h C W hT
    refine wpAny_ready (rs := [2, 4]) (by kernel_rfl) (by simp) ?_
    refine AllReady.cons (o := { dst := some 29, op := .load 25 (.tmp 4), type := 25, pos := "law.go:36", after := #[], guard := none }) rfl (fun K hK => ?_) ?_
    · refine step_load_ls rfl (.tmp 4) rfl gy y ((fr_at 4 (by decide)).trans h4) (hy.keeps hT.keep).lies ?_
      refine hK _ _ ?_
      rw [fr_put29]
      exact k0125 h C _ hT
    refine AllReady.cons (o := { dst := some 7, op := .alloc 25, type := 0, pos := "law.go:36", after := #[], guard := none }) rfl (fun K hK => ?_) ?_
    · refine step_alloc_ls rfl 7 rfl rfl fun g W1 hb hz1 hg => ?_
      refine hK _ _ ?_
      rw [fr_put7]
      exact k0145 g h C _ (hT.new1 hb hz1 hg)
    exact AllReady.nil
  have k01 : ∀ (C : LV) (W : World), TwoC w2 x.s y.s none none (some C) none false false W → wpAny Try.prog .any copyOps Q 6 #[true, true, false, false, false, false, false, false] (fr a (some (.agg #[.int .u64 (x.low : Int), .slice x.A x.n x.c])) (some (.agg #[.int .u64 (C.low : Int), .slice C.A C.n C.c])) none none none none) W := by
    intro C W hT
    refine wpAny_ready (rs := [2, 4, 5]) (by kernel_rfl) (by simp) ?_
    refine AllReady.cons (o := { dst := some 29, op := .load 25 (.tmp 4), type := 25, pos := "law.go:36", after := #[], guard := none }) rfl (fun K hK => ?_) ?_
    · refine step_load_ls rfl (.tmp 4) rfl gy y ((fr_at 4 (by decide)).trans h4) (hy.keeps hT.keep).lies ?_
      refine hK _ _ ?_
      rw [fr_put29]
      exact k012 C _ hT
    refine AllReady.cons (o := { dst := some 7, op := .alloc 25, type := 0, pos := "law.go:36", after := #[], guard := none }) rfl (fun K hK => ?_) ?_
    · refine step_alloc_ls rfl 7 rfl rfl fun g W1 hb hz1 hg => ?_
      refine hK _ _ ?_
      rw [fr_put7]
      exact k014 g C _ (hT.new1 hb hz1 hg)
    refine AllReady.cons (o := { dst := some 8, op := .alloc 25, type := 0, pos := "law.go:36", after := #[], guard := none }) rfl (fun K hK => ?_) ?_
    · refine step_alloc_ls rfl 8 rfl rfl fun h W1 hb hz1 hg => ?_
      refine hK _ _ ?_
      rw [fr_put8]
      exact k015 h C _ (hT.new2 hb hz1 hg)
    exact AllReady.nil
  have k0245 : ∀ (g : Nat) (h : Nat) (W : World), TwoC w2 x.s y.s (some g) (some h) none none false false W → wpAny Try.prog .any copyOps Q 4 #[true, false, true, false, true, true, false, false] (fr a (some (.agg #[.int .u64 (x.low : Int), .slice x.A x.n x.c])) none (some (.agg #[.int .u64 (y.low : Int), .slice y.A y.n y.c])) none (some (.pointer (some ⟨g, 0, none⟩))) (some (.pointer (some ⟨h, 0, none⟩)))) W := by
    intro g h W hT
    refine wpAny_ready (rs := [1]) (by kernel_rfl) (by simp) ?_
    refine AllReady.cons (o := { dst := some 28, op := .call { callee := .value (.func 20), args := #[.tmp 27], argTypes := #[25] }, type := 25, pos := "law.go:36", after := #[{ on := 0, ground := .data }], guard := none }) rfl (fun K hK => ?_) ?_
    · refine step_call rfl 20 #[.tmp 27] _ rfl #[(.agg #[.int .u64 (x.low : Int), .slice x.A x.n x.c])] (by simp only [List.map_toArray, List.map_cons, List.map_nil, fr_eval27 (by omega : 27 < a.tmps.size)]) enters_copy (kX _ hT.keep) ?_
      rintro e w1 ⟨C, rfl, hC, hiC, _, hoC, hbC⟩
      refine ⟨_, rfl, ?_⟩
      refine hK _ _ ?_
      rw [fr_put28]
      exact k01245 g h C _ (hT.got1 hbC hiC hC hoC)
    exact AllReady.nil
  have k024 : ∀ (g : Nat) (W : World), TwoC w2 x.s y.s (some g) none none none false false W → wpAny Try.prog .any copyOps Q 5 #[true, false, true, false, true, false, false, false] (fr a (some (.agg #[.int .u64 (x.low : Int), .slice x.A x.n x.c])) none (some (.agg #[.int .u64 (y.low : Int), .slice y.A y.n y.c])) none (some (.pointer (some ⟨g, 0, none⟩))) none) W := by
    intro g W hT
    refine wpAny_ready (rs := [1, 5]) (by kernel_rfl) (by simp) ?_
    refine AllReady.cons (o := { dst := some 28, op := .call { callee := .value (.func 20), args := #[.tmp 27], argTypes := #[25] }, type := 25, pos := "law.go:36", after := #[{ on := 0, ground := .data }], guard := none }) rfl (fun K hK => ?_) ?_
    · refine step_call rfl 20 #[.tmp 27] _ rfl #[(.agg #[.int .u64 (x.low : Int), .slice x.A x.n x.c])] (by simp only [List.map_toArray, List.map_cons, List.map_nil, fr_eval27 (by omega : 27 < a.tmps.size)]) enters_copy (kX _ hT.keep) ?_
      rintro e w1 ⟨C, rfl, hC, hiC, _, hoC, hbC⟩
      refine ⟨_, rfl, ?_⟩
      refine hK _ _ ?_
      rw [fr_put28]
      exact k0124 g C _ (hT.got1 hbC hiC hC hoC)
    refine AllReady.cons (o := { dst := some 8, op := .alloc 25, type := 0, pos := "law.go:36", after := #[], guard := none }) rfl (fun K hK => ?_) ?_
    · refine step_alloc_ls rfl 8 rfl rfl fun h W1 hb hz1 hg => ?_
      refine hK _ _ ?_
      rw [fr_put8]
      exact k0245 g h _ (hT.new2 hb hz1 hg)
    exact AllReady.nil
  have k025 : ∀ (h : Nat) (W : World), TwoC w2 x.s y.s none (some h) none none false false W → wpAny Try.prog .any copyOps Q 5 #[true, false, true, false, false, true, false, false] (fr a (some (.agg #[.int .u64 (x.low : Int), .slice x.A x.n x.c])) none (some (.agg #[.int .u64 (y.low : Int), .slice y.A y.n y.c])) none none (some (.pointer (some ⟨h, 0, none⟩)))) W := by
    intro h W hT
    refine wpAny_ready (rs := [1, 4]) (by kernel_rfl) (by simp) ?_
    refine AllReady.cons (o := { dst := some 28, op := .call { callee := .value (.func 20), args := #[.tmp 27], argTypes := #[25] }, type := 25, pos := "law.go:36", after := #[{ on := 0, ground := .data }], guard := none }) rfl (fun K hK => ?_) ?_
    · refine step_call rfl 20 #[.tmp 27] _ rfl #[(.agg #[.int .u64 (x.low : Int), .slice x.A x.n x.c])] (by simp only [List.map_toArray, List.map_cons, List.map_nil, fr_eval27 (by omega : 27 < a.tmps.size)]) enters_copy (kX _ hT.keep) ?_
      rintro e w1 ⟨C, rfl, hC, hiC, _, hoC, hbC⟩
      refine ⟨_, rfl, ?_⟩
      refine hK _ _ ?_
      rw [fr_put28]
      exact k0125 h C _ (hT.got1 hbC hiC hC hoC)
    refine AllReady.cons (o := { dst := some 7, op := .alloc 25, type := 0, pos := "law.go:36", after := #[], guard := none }) rfl (fun K hK => ?_) ?_
    · refine step_alloc_ls rfl 7 rfl rfl fun g W1 hb hz1 hg => ?_
      refine hK _ _ ?_
      rw [fr_put7]
      exact k0245 g h _ (hT.new1 hb hz1 hg)
    exact AllReady.nil
  have k02 : ∀  (W : World), TwoC w2 x.s y.s none none none none false false W → wpAny Try.prog .any copyOps Q 6 #[true, false, true, false, false, false, false, false] (fr a (some (.agg #[.int .u64 (x.low : Int), .slice x.A x.n x.c])) none (some (.agg #[.int .u64 (y.low : Int), .slice y.A y.n y.c])) none none none) W := by
    intro  W hT
    refine wpAny_ready (rs := [1, 4, 5]) (by kernel_rfl) (by simp) ?_
    refine AllReady.cons (o := { dst := some 28, op := .call { callee := .value (.func 20), args := #[.tmp 27], argTypes := #[25] }, type := 25, pos := "law.go:36", after := #[{ on := 0, ground := .data }], guard := none }) rfl (fun K hK => ?_) ?_
    · refine step_call rfl 20 #[.tmp 27] _ rfl #[(.agg #[.int .u64 (x.low : Int), .slice x.A x.n x.c])] (by simp only [List.map_toArray, List.map_cons, List.map_nil, fr_eval27 (by omega : 27 < a.tmps.size)]) enters_copy (kX _ hT.keep) ?_
      rintro e w1 ⟨C, rfl, hC, hiC, _, hoC, hbC⟩
      refine ⟨_, rfl, ?_⟩
      refine hK _ _ ?_
      rw [fr_put28]
      exact k012 C _ (hT.got1 hbC hiC hC hoC)
    refine AllReady.cons (o := { dst := some 7, op := .alloc 25, type := 0, pos := "law.go:36", after := #[], guard := none }) rfl (fun K hK => ?_) ?_
    · refine step_alloc_ls rfl 7 rfl rfl fun g W1 hb hz1 hg => ?_
      refine hK _ _ ?_
      rw [fr_put7]
      exact k024 g _ (hT.new1 hb hz1 hg)
    refine AllReady.cons (o := { dst := some 8, op := .alloc 25, type := 0, pos := "law.go:36", after := #[], guard := none }) rfl (fun K hK => ?_) ?_
    · refine step_alloc_ls rfl 8 rfl rfl fun h W1 hb hz1 hg => ?_
      refine hK _ _ ?_
      rw [fr_put8]
      exact k025 h _ (hT.new2 hb hz1 hg)
    exact AllReady.nil
  have k045 : ∀ (g : Nat) (h : Nat) (W : World), TwoC w2 x.s y.s (some g) (some h) none none false false W → wpAny Try.prog .any copyOps Q 5 #[true, false, false, false, true, true, false, false] (fr a (some (.agg #[.int .u64 (x.low : Int), .slice x.A x.n x.c])) none none none (some (.pointer (some ⟨g, 0, none⟩))) (some (.pointer (some ⟨h, 0, none⟩)))) W := by
    intro g h W hT
    refine wpAny_ready (rs := [1, 2]) (by kernel_rfl) (by simp) ?_
    refine AllReady.cons (o := { dst := some 28, op := .call { callee := .value (.func 20), args := #[.tmp 27], argTypes := #[25] }, type := 25, pos := "law.go:36", after := #[{ on := 0, ground := .data }], guard := none }) rfl (fun K hK => ?_) ?_
    · refine step_call rfl 20 #[.tmp 27] _ rfl #[(.agg #[.int .u64 (x.low : Int), .slice x.A x.n x.c])] (by simp only [List.map_toArray, List.map_cons, List.map_nil, fr_eval27 (by omega : 27 < a.tmps.size)]) enters_copy (kX _ hT.keep) ?_
      rintro e w1 ⟨C, rfl, hC, hiC, _, hoC, hbC⟩
      refine ⟨_, rfl, ?_⟩
      refine hK _ _ ?_
      rw [fr_put28]
      exact k0145 g h C _ (hT.got1 hbC hiC hC hoC)
    refine AllReady.cons (o := { dst := some 29, op := .load 25 (.tmp 4), type := 25, pos := "law.go:36", after := #[], guard := none }) rfl (fun K hK => ?_) ?_
    · refine step_load_ls rfl (.tmp 4) rfl gy y ((fr_at 4 (by decide)).trans h4) (hy.keeps hT.keep).lies ?_
      refine hK _ _ ?_
      rw [fr_put29]
      exact k0245 g h _ hT
    exact AllReady.nil
  have k04 : ∀ (g : Nat) (W : World), TwoC w2 x.s y.s (some g) none none none false false W → wpAny Try.prog .any copyOps Q 6 #[true, false, false, false, true, false, false, false] (fr a (some (.agg #[.int .u64 (x.low : Int), .slice x.A x.n x.c])) none none none (some (.pointer (some ⟨g, 0, none⟩))) none) W := by
    intro g W hT
    refine wpAny_ready (rs := [1, 2, 5]) (by kernel_rfl) (by simp) ?_
    refine AllReady.cons (o := { dst := some 28, op := .call { callee := .value (.func 20), args := #[.tmp 27], argTypes := #[25] }, type := 25, pos := "law.go:36", after := #[{ on := 0, ground := .data }], guard := none }) rfl (fun K hK => ?_) ?_
    · refine step_call rfl 20 #[.tmp 27] _ rfl #[(.agg #[.int .u64 (x.low : Int), .slice x.A x.n x.c])] (by simp only [List.map_toArray, List.map_cons, List.map_nil, fr_eval27 (by omega : 27 < a.tmps.size)]) enters_copy (kX _ hT.keep) ?_
      rintro e w1 ⟨C, rfl, hC, hiC, _, hoC, hbC⟩
      refine ⟨_, rfl, ?_⟩
      refine hK _ _ ?_
      rw [fr_put28]
      exact k014 g C _ (hT.got1 hbC hiC hC hoC)
    refine AllReady.cons (o := { dst := some 29, op := .load 25 (.tmp 4), type := 25, pos := "law.go:36", after := #[], guard := none }) rfl (fun K hK => ?_) ?_
    · refine step_load_ls rfl (.tmp 4) rfl gy y ((fr_at 4 (by decide)).trans h4) (hy.keeps hT.keep).lies ?_
      refine hK _ _ ?_
      rw [fr_put29]
      exact k024 g _ hT
    refine AllReady.cons (o := { dst := some 8, op := .alloc 25, type := 0, pos := "law.go:36", after := #[], guard := none }) rfl (fun K hK => ?_) ?_
    · refine step_alloc_ls rfl 8 rfl rfl fun h W1 hb hz1 hg => ?_
      refine hK _ _ ?_
      rw [fr_put8]
      exact k045 g h _ (hT.new2 hb hz1 hg)
    exact AllReady.nil
  have k05 : ∀ (h : Nat) (W : World), TwoC w2 x.s y.s none (some h) none none false false W → wpAny Try.prog .any copyOps Q 6 #[true, false, false, false, false, true, false, false] (fr a (some (.agg #[.int .u64 (x.low : Int), .slice x.A x.n x.c])) none none none none (some (.pointer (some ⟨h, 0, none⟩)))) W := by
    intro h W hT
    refine wpAny_ready (rs := [1, 2, 4]) (by kernel_rfl) (by simp) ?_
    refine AllReady.cons (o := { dst := some 28, op := .call { callee := .value (.func 20), args := #[.tmp 27], argTypes := #[25] }, type := 25, pos := "law.go:36", after := #[{ on := 0, ground := .data }], guard := none }) rfl (fun K hK => ?_) ?_
    · refine step_call rfl 20 #[.tmp 27] _ rfl #[(.agg #[.int .u64 (x.low : Int), .slice x.A x.n x.c])] (by simp only [List.map_toArray, List.map_cons, List.map_nil, fr_eval27 (by omega : 27 < a.tmps.size)]) enters_copy (kX _ hT.keep) ?_
      rintro e w1 ⟨C, rfl, hC, hiC, _, hoC, hbC⟩
      refine ⟨_, rfl, ?_⟩
      refine hK _ _ ?_
      rw [fr_put28]
      exact k015 h C _ (hT.got1 hbC hiC hC hoC)
    refine AllReady.cons (o := { dst := some 29, op := .load 25 (.tmp 4), type := 25, pos := "law.go:36", after := #[], guard := none }) rfl (fun K hK => ?_) ?_
    · refine step_load_ls rfl (.tmp 4) rfl gy y ((fr_at 4 (by decide)).trans h4) (hy.keeps hT.keep).lies ?_
      refine hK _ _ ?_
      rw [fr_put29]
      exact k025 h _ hT
    refine AllReady.cons (o := { dst := some 7, op := .alloc 25, type := 0, pos := "law.go:36", after := #[], guard := none }) rfl (fun K hK => ?_) ?_
    · refine step_alloc_ls rfl 7 rfl rfl fun g W1 hb hz1 hg => ?_
      refine hK _ _ ?_
      rw [fr_put7]
      exact k045 g h _ (hT.new1 hb hz1 hg)
    exact AllReady.nil
  have k0 : ∀  (W : World), TwoC w2 x.s y.s none none none none false false W → wpAny Try.prog .any copyOps Q 7 #[true, false, false, false, false, false, false, false] (fr a (some (.agg #[.int .u64 (x.low : Int), .slice x.A x.n x.c])) none none none none none) W := by
    intro  W hT
    refine wpAny_ready (rs := [1, 2, 4, 5]) (by kernel_rfl) (by simp) ?_
    refine AllReady.cons (o := { dst := some 28, op := .call { callee := .value (.func 20), args := #[.tmp 27], argTypes := #[25] }, type := 25, pos := "law.go:36", after := #[{ on := 0, ground := .data }], guard := none }) rfl (fun K hK => ?_) ?_
    · refine step_call rfl 20 #[.tmp 27] _ rfl #[(.agg #[.int .u64 (x.low : Int), .slice x.A x.n x.c])] (by simp only [List.map_toArray, List.map_cons, List.map_nil, fr_eval27 (by omega : 27 < a.tmps.size)]) enters_copy (kX _ hT.keep) ?_
      rintro e w1 ⟨C, rfl, hC, hiC, _, hoC, hbC⟩
      refine ⟨_, rfl, ?_⟩
      refine hK _ _ ?_
      rw [fr_put28]
      exact k01 C _ (hT.got1 hbC hiC hC hoC)
    refine AllReady.cons (o := { dst := some 29, op := .load 25 (.tmp 4), type := 25, pos := "law.go:36", after := #[], guard := none }) rfl (fun K hK => ?_) ?_
    · refine step_load_ls rfl (.tmp 4) rfl gy y ((fr_at 4 (by decide)).trans h4) (hy.keeps hT.keep).lies ?_
      refine hK _ _ ?_
      rw [fr_put29]
      exact k02  _ hT
    refine AllReady.cons (o := { dst := some 7, op := .alloc 25, type := 0, pos := "law.go:36", after := #[], guard := none }) rfl (fun K hK => ?_) ?_
    · refine step_alloc_ls rfl 7 rfl rfl fun g W1 hb hz1 hg => ?_
      refine hK _ _ ?_
      rw [fr_put7]
      exact k04 g _ (hT.new1 hb hz1 hg)
    refine AllReady.cons (o := { dst := some 8, op := .alloc 25, type := 0, pos := "law.go:36", after := #[], guard := none }) rfl (fun K hK => ?_) ?_
    · refine step_alloc_ls rfl 8 rfl rfl fun h W1 hb hz1 hg => ?_
      refine hK _ _ ?_
      rw [fr_put8]
      exact k05 h _ (hT.new2 hb hz1 hg)
    exact AllReady.nil
  have k245 : ∀ (g : Nat) (h : Nat) (W : World), TwoC w2 x.s y.s (some g) (some h) none none false false W → wpAny Try.prog .any copyOps Q 5 #[false, false, true, false, true, true, false, false] (fr a none none (some (.agg #[.int .u64 (y.low : Int), .slice y.A y.n y.c])) none (some (.pointer (some ⟨g, 0, none⟩))) (some (.pointer (some ⟨h, 0, none⟩)))) W := by
    intro g h W hT
    refine wpAny_ready (rs := [0]) (by kernel_rfl) (by simp) ?_
    refine AllReady.cons (o := { dst := some 27, op := .load 25 (.tmp 3), type := 25, pos := "law.go:36", after := #[], guard := none }) rfl (fun K hK => ?_) ?_
    · refine step_load_ls rfl (.tmp 3) rfl gx x ((fr_at 3 (by decide)).trans h3) (hx.keeps hT.keep).lies ?_
      refine hK _ _ ?_
      rw [fr_put27]
      exact k0245 g h _ hT
    exact AllReady.nil
  have k24 : ∀ (g : Nat) (W : World), TwoC w2 x.s y.s (some g) none none none false false W → wpAny Try.prog .any copyOps Q 6 #[false, false, true, false, true, false, false, false] (fr a none none (some (.agg #[.int .u64 (y.low : Int), .slice y.A y.n y.c])) none (some (.pointer (some ⟨g, 0, none⟩))) none) W := by
    intro g W hT
    refine wpAny_ready (rs := [0, 5]) (by kernel_rfl) (by simp) ?_
    refine AllReady.cons (o := { dst := some 27, op := .load 25 (.tmp 3), type := 25, pos := "law.go:36", after := #[], guard := none }) rfl (fun K hK => ?_) ?_
    · refine step_load_ls rfl (.tmp 3) rfl gx x ((fr_at 3 (by decide)).trans h3) (hx.keeps hT.keep).lies ?_
      refine hK _ _ ?_
      rw [fr_put27]
      exact k024 g _ hT
    refine AllReady.cons (o := { dst := some 8, op := .alloc 25, type := 0, pos := "law.go:36", after := #[], guard := none }) rfl (fun K hK => ?_) ?_
    · refine step_alloc_ls rfl 8 rfl rfl fun h W1 hb hz1 hg => ?_
      refine hK _ _ ?_
      rw [fr_put8]
      exact k245 g h _ (hT.new2 hb hz1 hg)
    exact AllReady.nil
  have k25 : ∀ (h : Nat) (W : World), TwoC w2 x.s y.s none (some h) none none false false W → wpAny Try.prog .any copyOps Q 6 #[false, false, true, false, false, true, false, false] (fr a none none (some (.agg #[.int .u64 (y.low : Int), .slice y.A y.n y.c])) none none (some (.pointer (some ⟨h, 0, none⟩)))) W := by
    intro h W hT
    refine wpAny_ready (rs := [0, 4]) (by kernel_rfl) (by simp) ?_
    refine AllReady.cons (o := { dst := some 27, op := .load 25 (.tmp 3), type := 25, pos := "law.go:36", after := #[], guard := none }) rfl (fun K hK => ?_) ?_
    · refine step_load_ls rfl (.tmp 3) rfl gx x ((fr_at 3 (by decide)).trans h3) (hx.keeps hT.keep).lies ?_
      refine hK _ _ ?_
      rw [fr_put27]
      exact k025 h _ hT
    refine AllReady.cons (o := { dst := some 7, op := .alloc 25, type := 0, pos := "law.go:36", after := #[], guard := none }) rfl (fun K hK => ?_) ?_
    · refine step_alloc_ls rfl 7 rfl rfl fun g W1 hb hz1 hg => ?_
      refine hK _ _ ?_
      rw [fr_put7]
      exact k245 g h _ (hT.new1 hb hz1 hg)
    exact AllReady.nil
  have k2 : ∀  (W : World), TwoC w2 x.s y.s none none none none false false W → wpAny Try.prog .any copyOps Q 7 #[false, false, true, false, false, false, false, false] (fr a none none (some (.agg #[.int .u64 (y.low : Int), .slice y.A y.n y.c])) none none none) W := by
    intro  W hT
    refine wpAny_ready (rs := [0, 4, 5]) (by kernel_rfl) (by simp) ?_
    refine AllReady.cons (o := { dst := some 27, op := .load 25 (.tmp 3), type := 25, pos := "law.go:36", after := #[], guard := none }) rfl (fun K hK => ?_) ?_
    · refine step_load_ls rfl (.tmp 3) rfl gx x ((fr_at 3 (by decide)).trans h3) (hx.keeps hT.keep).lies ?_
      refine hK _ _ ?_
      rw [fr_put27]
      exact k02  _ hT
    refine AllReady.cons (o := { dst := some 7, op := .alloc 25, type := 0, pos := "law.go:36", after := #[], guard := none }) rfl (fun K hK => ?_) ?_
    · refine step_alloc_ls rfl 7 rfl rfl fun g W1 hb hz1 hg => ?_
      refine hK _ _ ?_
      rw [fr_put7]
      exact k24 g _ (hT.new1 hb hz1 hg)
    refine AllReady.cons (o := { dst := some 8, op := .alloc 25, type := 0, pos := "law.go:36", after := #[], guard := none }) rfl (fun K hK => ?_) ?_
    · refine step_alloc_ls rfl 8 rfl rfl fun h W1 hb hz1 hg => ?_
      refine hK _ _ ?_
      rw [fr_put8]
      exact k25 h _ (hT.new2 hb hz1 hg)
    exact AllReady.nil
  have k45 : ∀ (g : Nat) (h : Nat) (W : World), TwoC w2 x.s y.s (some g) (some h) none none false false W → wpAny Try.prog .any copyOps Q 6 #[false, false, false, false, true, true, false, false] (fr a none none none none (some (.pointer (some ⟨g, 0, none⟩))) (some (.pointer (some ⟨h, 0, none⟩)))) W := by
    intro g h W hT
    refine wpAny_ready (rs := [0, 2]) (by kernel_rfl) (by simp) ?_
    refine AllReady.cons (o := { dst := some 27, op := .load 25 (.tmp 3), type := 25, pos := "law.go:36", after := #[], guard := none }) rfl (fun K hK => ?_) ?_
    · refine step_load_ls rfl (.tmp 3) rfl gx x ((fr_at 3 (by decide)).trans h3) (hx.keeps hT.keep).lies ?_
      refine hK _ _ ?_
      rw [fr_put27]
      exact k045 g h _ hT
    refine AllReady.cons (o := { dst := some 29, op := .load 25 (.tmp 4), type := 25, pos := "law.go:36", after := #[], guard := none }) rfl (fun K hK => ?_) ?_
    · refine step_load_ls rfl (.tmp 4) rfl gy y ((fr_at 4 (by decide)).trans h4) (hy.keeps hT.keep).lies ?_
      refine hK _ _ ?_
      rw [fr_put29]
      exact k245 g h _ hT
    exact AllReady.nil
  have k4 : ∀ (g : Nat) (W : World), TwoC w2 x.s y.s (some g) none none none false false W → wpAny Try.prog .any copyOps Q 7 #[false, false, false, false, true, false, false, false] (fr a none none none none (some (.pointer (some ⟨g, 0, none⟩))) none) W := by
    intro g W hT
    refine wpAny_ready (rs := [0, 2, 5]) (by kernel_rfl) (by simp) ?_
    refine AllReady.cons (o := { dst := some 27, op := .load 25 (.tmp 3), type := 25, pos := "law.go:36", after := #[], guard := none }) rfl (fun K hK => ?_) ?_
    · refine step_load_ls rfl (.tmp 3) rfl gx x ((fr_at 3 (by decide)).trans h3) (hx.keeps hT.keep).lies ?_
      refine hK _ _ ?_
      rw [fr_put27]
      exact k04 g _ hT
    refine AllReady.cons (o := { dst := some 29, op := .load 25 (.tmp 4), type := 25, pos := "law.go:36", after := #[], guard := none }) rfl (fun K hK => ?_) ?_
    · refine step_load_ls rfl (.tmp 4) rfl gy y ((fr_at 4 (by decide)).trans h4) (hy.keeps hT.keep).lies ?_
      refine hK _ _ ?_
      rw [fr_put29]
      exact k24 g _ hT
    refine AllReady.cons (o := { dst := some 8, op := .alloc 25, type := 0, pos := "law.go:36", after := #[], guard := none }) rfl (fun K hK => ?_) ?_
    · refine step_alloc_ls rfl 8 rfl rfl fun h W1 hb hz1 hg => ?_
      refine hK _ _ ?_
      rw [fr_put8]
      exact k45 g h _ (hT.new2 hb hz1 hg)
    exact AllReady.nil
  have k5 : ∀ (h : Nat) (W : World), TwoC w2 x.s y.s none (some h) none none false false W → wpAny Try.prog .any copyOps Q 7 #[false, false, false, false, false, true, false, false] (fr a none none none none none (some (.pointer (some ⟨h, 0, none⟩)))) W := by
    intro h W hT
    refine wpAny_ready (rs := [0, 2, 4]) (by kernel_rfl) (by simp) ?_
    refine AllReady.cons (o := { dst := some 27, op := .load 25 (.tmp 3), type := 25, pos := "law.go:36", after := #[], guard := none }) rfl (fun K hK => ?_) ?_
    · refine step_load_ls rfl (.tmp 3) rfl gx x ((fr_at 3 (by decide)).trans h3) (hx.keeps hT.keep).lies ?_
      refine hK _ _ ?_
      rw [fr_put27]
      exact k05 h _ hT
    refine AllReady.cons (o := { dst := some 29, op := .load 25 (.tmp 4), type := 25, pos := "law.go:36", after := #[], guard := none }) rfl (fun K hK => ?_) ?_
    · refine step_load_ls rfl (.tmp 4) rfl gy y ((fr_at 4 (by decide)).trans h4) (hy.keeps hT.keep).lies ?_
      refine hK _ _ ?_
      rw [fr_put29]
      exact k25 h _ hT
    refine AllReady.cons (o := { dst := some 7, op := .alloc 25, type := 0, pos := "law.go:36", after := #[], guard := none }) rfl (fun K hK => ?_) ?_
    · refine step_alloc_ls rfl 7 rfl rfl fun g W1 hb hz1 hg => ?_
      refine hK _ _ ?_
      rw [fr_put7]
      exact k45 g h _ (hT.new1 hb hz1 hg)
    exact AllReady.nil
  have k : ∀  (W : World), TwoC w2 x.s y.s none none none none false false W → wpAny Try.prog .any copyOps Q 8 #[false, false, false, false, false, false, false, false] (fr a none none none none none none) W := by
    intro  W hT
    refine wpAny_ready (rs := [0, 2, 4, 5]) (by kernel_rfl) (by simp) ?_
    refine AllReady.cons (o := { dst := some 27, op := .load 25 (.tmp 3), type := 25, pos := "law.go:36", after := #[], guard := none }) rfl (fun K hK => ?_) ?_
    · refine step_load_ls rfl (.tmp 3) rfl gx x ((fr_at 3 (by decide)).trans h3) (hx.keeps hT.keep).lies ?_
      refine hK _ _ ?_
      rw [fr_put27]
      exact k0  _ hT
    refine AllReady.cons (o := { dst := some 29, op := .load 25 (.tmp 4), type := 25, pos := "law.go:36", after := #[], guard := none }) rfl (fun K hK => ?_) ?_
    · refine step_load_ls rfl (.tmp 4) rfl gy y ((fr_at 4 (by decide)).trans h4) (hy.keeps hT.keep).lies ?_
      refine hK _ _ ?_
      rw [fr_put29]
      exact k2  _ hT
    refine AllReady.cons (o := { dst := some 7, op := .alloc 25, type := 0, pos := "law.go:36", after := #[], guard := none }) rfl (fun K hK => ?_) ?_
    · refine step_alloc_ls rfl 7 rfl rfl fun g W1 hb hz1 hg => ?_
      refine hK _ _ ?_
      rw [fr_put7]
      exact k4 g _ (hT.new1 hb hz1 hg)
    refine AllReady.cons (o := { dst := some 8, op := .alloc 25, type := 0, pos := "law.go:36", after := #[], guard := none }) rfl (fun K hK => ?_) ?_
    · refine step_alloc_ls rfl 8 rfl rfl fun h W1 hb hz1 hg => ?_
      refine hK _ _ ?_
      rw [fr_put8]
      exact k5 h _ (hT.new2 hb hz1 hg)
    exact AllReady.nil
  have h0 := k w2.drew (TwoC.start w2 x.s y.s)
  rw [fr_none] at h0
  exact h0

end Go.Proofs.Ytpjgmblhlhnniaa
