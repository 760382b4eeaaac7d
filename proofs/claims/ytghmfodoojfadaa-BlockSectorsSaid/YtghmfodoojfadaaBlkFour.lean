/-
  seen := [][]string{{sure[0]}, {sure[1]}, {sure[2]}, {sure[3]}}, in whatever order: written by a program (gen/genfour.py), state by state.
-/
import Derived.Test.YtghmfodoojfadaaBlkSeen
import Derived.Deep.RegionHeld
namespace Go.Proofs.Ytghmfodoojfadaa
open Go.RowKit

def fourOps : Array Oper := #[
  { dst := some 98, op := .move (.tmp 10), type := 63, pos := "law.go:130", after := #[], guard := none },
  { dst := some 99, op := .indexAddr 63 (.tmp 98) (.const (.int .i64 0)), type := 0, pos := "law.go:130", after := #[{ on := 0, ground := .data }], guard := none },
  { dst := some 100, op := .load 9 (.tmp 99), type := 9, pos := "law.go:130", after := #[{ on := 1, ground := .data }], guard := none },
  { dst := some 101, op := .buildSlice 63 1 #[(0, .tmp 100)], type := 63, pos := "law.go:130", after := #[{ on := 2, ground := .data }], guard := none },
  { dst := some 102, op := .move (.tmp 10), type := 63, pos := "law.go:130", after := #[], guard := none },
  { dst := some 103, op := .indexAddr 63 (.tmp 102) (.const (.int .i64 1)), type := 0, pos := "law.go:130", after := #[{ on := 4, ground := .data }], guard := none },
  { dst := some 104, op := .load 9 (.tmp 103), type := 9, pos := "law.go:130", after := #[{ on := 5, ground := .data }], guard := none },
  { dst := some 105, op := .buildSlice 63 1 #[(0, .tmp 104)], type := 63, pos := "law.go:130", after := #[{ on := 6, ground := .data }], guard := none },
  { dst := some 106, op := .move (.tmp 10), type := 63, pos := "law.go:130", after := #[], guard := none },
  { dst := some 107, op := .indexAddr 63 (.tmp 106) (.const (.int .i64 2)), type := 0, pos := "law.go:130", after := #[{ on := 8, ground := .data }], guard := none },
  { dst := some 108, op := .load 9 (.tmp 107), type := 9, pos := "law.go:130", after := #[{ on := 9, ground := .data }], guard := none },
  { dst := some 109, op := .buildSlice 63 1 #[(0, .tmp 108)], type := 63, pos := "law.go:130", after := #[{ on := 10, ground := .data }], guard := none },
  { dst := some 110, op := .move (.tmp 10), type := 63, pos := "law.go:130", after := #[], guard := none },
  { dst := some 111, op := .indexAddr 63 (.tmp 110) (.const (.int .i64 3)), type := 0, pos := "law.go:130", after := #[{ on := 12, ground := .data }], guard := none },
  { dst := some 112, op := .load 9 (.tmp 111), type := 9, pos := "law.go:130", after := #[{ on := 13, ground := .data }], guard := none },
  { dst := some 113, op := .buildSlice 63 1 #[(0, .tmp 112)], type := 63, pos := "law.go:130", after := #[{ on := 14, ground := .data }], guard := none },
  { dst := some 114, op := .buildSlice 65 4 #[(0, .tmp 101), (1, .tmp 105), (2, .tmp 109), (3, .tmp 113)], type := 65, pos := "law.go:130", after := #[{ on := 3, ground := .data }, { on := 7, ground := .data }, { on := 11, ground := .data }, { on := 15, ground := .data }], guard := none },
  { dst := some 15, op := .assign (.tmp 114), type := 65, pos := "law.go:130", after := #[{ on := 16, ground := .data }, { on := 0, ground := .phase }, { on := 1, ground := .phase }, { on := 2, ground := .phase }, { on := 3, ground := .phase }, { on := 4, ground := .phase }, { on := 5, ground := .phase }, { on := 6, ground := .phase }, { on := 7, ground := .phase }, { on := 8, ground := .phase }, { on := 9, ground := .phase }, { on := 10, ground := .phase }, { on := 11, ground := .phase }, { on := 12, ground := .phase }, { on := 13, ground := .phase }, { on := 14, ground := .phase }, { on := 15, ground := .phase }, { on := 16, ground := .phase }], guard := none }]

theorem put_size (a : Act) (i : Nat) (v : Value) : (a.put (some i) v).tmps.size = a.tmps.size := by simp [Act.put]
theorem put_same (a : Act) (i : Nat) (v : Value) (h : i < a.tmps.size) : (a.put (some i) v).eval (.tmp i) = v := by simp [Act.put, Act.eval, h]
theorem put_else (a : Act) (i j : Nat) (v : Value) (h : j ≠ i) : (a.put (some i) v).eval (.tmp j) = a.eval (.tmp j) := by
  simp [Act.put, Act.eval, Array.getD_eq_getD_getElem?, Array.getElem?_setIfInBounds, Ne.symm h]
theorem put_comm (a : Act) (i j : Nat) (u v : Value) (h : i ≠ j) : (a.put (some i) u).put (some j) v = (a.put (some j) v).put (some i) u := by
  have e : (a.tmps.setIfInBounds i u).setIfInBounds j v = (a.tmps.setIfInBounds j v).setIfInBounds i u := Array.setIfInBounds_comm _ _ h
  show ({ tmps := (a.tmps.setIfInBounds i u).setIfInBounds j v, defers := a.defers } : Act) = { tmps := (a.tmps.setIfInBounds j v).setIfInBounds i u, defers := a.defers }
  rw [e]

theorem eval_getD {a : Act} {t : Nat} {v : Value} (h : a.eval (.tmp t) = v) : a.tmps[t]?.getD undef = v := by
  rw [← h, ← Array.getD_eq_getD_getElem?]; rfl
theorem step_build1 {ops : Array Oper} {o : Oper} {a : Act} {w : World} {K : Act → World → Prop} {Q : Exit → Act → World → Prop} {E : Prop} (hgd : o.guard = none) (d : Nat) (hd : o.dst = some d) (t : Nat) (ho : o.op = .buildSlice 63 1 #[(0, .tmp t)]) (X : ByteArray) (hx : a.eval (.tmp t) = .string X)
    (h : ∀ g W', Below w.heap.size w W' → Row W' g 9 [.string X] (0, 0) → w.heap.size ≤ g → K (a.put o.dst (.slice (some ⟨g, 0, none⟩) 1 1)) W') :
    if Region.wanted o (yielded ops a.tmps) = true then Oper.wp Try.prog o a w K Q else E := by
  have hw : Region.wanted o (yielded ops a.tmps) = true := by simp [Region.wanted, hgd]
  rw [if_pos hw]
  have h' := h w.heap.size _ ((Below.refl _ w).alloc (Nat.le_refl _) (.cells #[.string X] 9)) (Row.new w 9 [.string X] (0, 0)) (Nat.le_refl _)
  have hx2 := eval_getD hx
  clear hx h
  unfold Oper.wp execOp
  simp only [ho]
  go_simp
  rw [hd] at h'
  exact h'

theorem step_build4 {ops : Array Oper} {o : Oper} {a : Act} {w : World} {K : Act → World → Prop} {Q : Exit → Act → World → Prop} {E : Prop} (hgd : o.guard = none) (d : Nat) (hd : o.dst = some d) (ho : o.op = .buildSlice 65 4 #[(0, .tmp 101), (1, .tmp 105), (2, .tmp 109), (3, .tmp 113)]) (g0 g1 g2 g3 : Nat)
    (e0 : a.eval (.tmp 101) = .slice (some ⟨g0, 0, none⟩) 1 1) (e1 : a.eval (.tmp 105) = .slice (some ⟨g1, 0, none⟩) 1 1) (e2 : a.eval (.tmp 109) = .slice (some ⟨g2, 0, none⟩) 1 1) (e3 : a.eval (.tmp 113) = .slice (some ⟨g3, 0, none⟩) 1 1)
    (h : ∀ g W', Below w.heap.size w W' → Row W' g 63 [.slice (some ⟨g0, 0, none⟩) 1 1, .slice (some ⟨g1, 0, none⟩) 1 1, .slice (some ⟨g2, 0, none⟩) 1 1, .slice (some ⟨g3, 0, none⟩) 1 1] (0, 0) → w.heap.size ≤ g → K (a.put o.dst (.slice (some ⟨g, 0, none⟩) 4 4)) W') :
    if Region.wanted o (yielded ops a.tmps) = true then Oper.wp Try.prog o a w K Q else E := by
  have hw : Region.wanted o (yielded ops a.tmps) = true := by simp [Region.wanted, hgd]
  rw [if_pos hw]
  have h' := h w.heap.size _ ((Below.refl _ w).alloc (Nat.le_refl _) (.cells #[.slice (some ⟨g0, 0, none⟩) 1 1, .slice (some ⟨g1, 0, none⟩) 1 1, .slice (some ⟨g2, 0, none⟩) 1 1, .slice (some ⟨g3, 0, none⟩) 1 1] 63)) (Row.new w 63 [.slice (some ⟨g0, 0, none⟩) 1 1, .slice (some ⟨g1, 0, none⟩) 1 1, .slice (some ⟨g2, 0, none⟩) 1 1, .slice (some ⟨g3, 0, none⟩) 1 1] (0, 0)) (Nat.le_refl _)
  have f0 := eval_getD e0
  have f1 := eval_getD e1
  have f2 := eval_getD e2
  have f3 := eval_getD e3
  clear e0 e1 e2 e3 h
  unfold Oper.wp execOp
  simp only [ho]
  go_simp
  rw [hd] at h'
  exact h'

/-- The frame when the four texts are there. -/
def fb (a : Act) (gs c : Nat) (X0 X1 X2 X3 : ByteArray) : Act := ((((((((((((a.put (some 98) (.slice (some ⟨gs, 0, none⟩) 4 c)).put (some 99) (.pointer (some ⟨gs, 0, none⟩))).put (some 100) (.string X0)).put (some 102) (.slice (some ⟨gs, 0, none⟩) 4 c)).put (some 103) (.pointer (some ⟨gs, 1, none⟩))).put (some 104) (.string X1)).put (some 106) (.slice (some ⟨gs, 0, none⟩) 4 c)).put (some 107) (.pointer (some ⟨gs, 2, none⟩))).put (some 108) (.string X2)).put (some 110) (.slice (some ⟨gs, 0, none⟩) 4 c)).put (some 111) (.pointer (some ⟨gs, 3, none⟩))).put (some 112) (.string X3))
section
variable (a : Act) (gs c : Nat) (X0 X1 X2 X3 : ByteArray)
theorem fb_size : (fb a gs c X0 X1 X2 X3).tmps.size = a.tmps.size := by simp only [fb, put_size]
theorem fb_100 (h : 287 < a.tmps.size) : (fb a gs c X0 X1 X2 X3).eval (.tmp 100) = .string X0 := by
  unfold fb
  try simp only [put_else _ _ _ _ (show (100 : Nat) ≠ 101 by decide), put_else _ 98 100 _ (by decide), put_else _ 99 100 _ (by decide), put_else _ 102 100 _ (by decide), put_else _ 103 100 _ (by decide), put_else _ 104 100 _ (by decide), put_else _ 106 100 _ (by decide), put_else _ 107 100 _ (by decide), put_else _ 108 100 _ (by decide), put_else _ 110 100 _ (by decide), put_else _ 111 100 _ (by decide), put_else _ 112 100 _ (by decide)]
  exact put_same _ _ _ (by simp only [put_size]; omega)
theorem fb_104 (h : 287 < a.tmps.size) : (fb a gs c X0 X1 X2 X3).eval (.tmp 104) = .string X1 := by
  unfold fb
  try simp only [put_else _ _ _ _ (show (104 : Nat) ≠ 101 by decide), put_else _ 98 104 _ (by decide), put_else _ 99 104 _ (by decide), put_else _ 100 104 _ (by decide), put_else _ 102 104 _ (by decide), put_else _ 103 104 _ (by decide), put_else _ 106 104 _ (by decide), put_else _ 107 104 _ (by decide), put_else _ 108 104 _ (by decide), put_else _ 110 104 _ (by decide), put_else _ 111 104 _ (by decide), put_else _ 112 104 _ (by decide)]
  exact put_same _ _ _ (by simp only [put_size]; omega)
theorem fb_108 (h : 287 < a.tmps.size) : (fb a gs c X0 X1 X2 X3).eval (.tmp 108) = .string X2 := by
  unfold fb
  try simp only [put_else _ _ _ _ (show (108 : Nat) ≠ 101 by decide), put_else _ 98 108 _ (by decide), put_else _ 99 108 _ (by decide), put_else _ 100 108 _ (by decide), put_else _ 102 108 _ (by decide), put_else _ 103 108 _ (by decide), put_else _ 104 108 _ (by decide), put_else _ 106 108 _ (by decide), put_else _ 107 108 _ (by decide), put_else _ 110 108 _ (by decide), put_else _ 111 108 _ (by decide), put_else _ 112 108 _ (by decide)]
  exact put_same _ _ _ (by simp only [put_size]; omega)
theorem fb_112 (h : 287 < a.tmps.size) : (fb a gs c X0 X1 X2 X3).eval (.tmp 112) = .string X3 := by
  unfold fb
  try simp only [put_else _ _ _ _ (show (112 : Nat) ≠ 101 by decide), put_else _ 98 112 _ (by decide), put_else _ 99 112 _ (by decide), put_else _ 100 112 _ (by decide), put_else _ 102 112 _ (by decide), put_else _ 103 112 _ (by decide), put_else _ 104 112 _ (by decide), put_else _ 106 112 _ (by decide), put_else _ 107 112 _ (by decide), put_else _ 108 112 _ (by decide), put_else _ 110 112 _ (by decide), put_else _ 111 112 _ (by decide)]
  exact put_same _ _ _ (by simp only [put_size]; omega)
end

section
variable {ops : Array Oper} {S : World → Prop} {b : Act} {o : Oper} {gs c : Nat}
theorem yields_move (hgd : o.guard = none) (ho : o.op = .move (.tmp 10)) {v : Value} (e : b.eval (.tmp 10) = v) : YieldsIf Try.prog ops S o v b := by
  refine .inl ⟨by simp [Region.wanted, hgd], fun w _ => ?_⟩
  have e2 := eval_getD e
  unfold execOp
  simp only [ho]
  go_simp
theorem yields_index0 (hgd : o.guard = none) (t : Nat) (ho : o.op = .indexAddr 63 (.tmp t) (.const (.int .i64 0))) (e : b.eval (.tmp t) = (.slice (some ⟨gs, 0, none⟩) 4 c)) : YieldsIf Try.prog ops S o (.pointer (some ⟨gs, 0, none⟩)) b := by
  refine .inl ⟨by simp [Region.wanted, hgd], fun w _ => ?_⟩
  have e2 := eval_getD e
  clear e
  unfold execOp
  simp only [ho]
  go_simp
theorem yields_load0 (hgd : o.guard = none) (t : Nat) (ho : o.op = .load 9 (.tmp t)) (e : b.eval (.tmp t) = (.pointer (some ⟨gs, 0, none⟩))) {X : ByteArray} (hc : ∀ w, S w → w.cell? ⟨gs, 0, none⟩ = some (.string X)) : YieldsIf Try.prog ops S o (.string X) b := by
  refine .inl ⟨by simp [Region.wanted, hgd], fun w hw => ?_⟩
  have e2 := eval_getD e
  have hcw := hc w hw
  clear e hc
  unfold execOp
  simp only [ho]
  go_simp
theorem yields_index1 (hgd : o.guard = none) (t : Nat) (ho : o.op = .indexAddr 63 (.tmp t) (.const (.int .i64 1))) (e : b.eval (.tmp t) = (.slice (some ⟨gs, 0, none⟩) 4 c)) : YieldsIf Try.prog ops S o (.pointer (some ⟨gs, 1, none⟩)) b := by
  refine .inl ⟨by simp [Region.wanted, hgd], fun w _ => ?_⟩
  have e2 := eval_getD e
  clear e
  unfold execOp
  simp only [ho]
  go_simp
theorem yields_load1 (hgd : o.guard = none) (t : Nat) (ho : o.op = .load 9 (.tmp t)) (e : b.eval (.tmp t) = (.pointer (some ⟨gs, 1, none⟩))) {X : ByteArray} (hc : ∀ w, S w → w.cell? ⟨gs, 1, none⟩ = some (.string X)) : YieldsIf Try.prog ops S o (.string X) b := by
  refine .inl ⟨by simp [Region.wanted, hgd], fun w hw => ?_⟩
  have e2 := eval_getD e
  have hcw := hc w hw
  clear e hc
  unfold execOp
  simp only [ho]
  go_simp
theorem yields_index2 (hgd : o.guard = none) (t : Nat) (ho : o.op = .indexAddr 63 (.tmp t) (.const (.int .i64 2))) (e : b.eval (.tmp t) = (.slice (some ⟨gs, 0, none⟩) 4 c)) : YieldsIf Try.prog ops S o (.pointer (some ⟨gs, 2, none⟩)) b := by
  refine .inl ⟨by simp [Region.wanted, hgd], fun w _ => ?_⟩
  have e2 := eval_getD e
  clear e
  unfold execOp
  simp only [ho]
  go_simp
theorem yields_load2 (hgd : o.guard = none) (t : Nat) (ho : o.op = .load 9 (.tmp t)) (e : b.eval (.tmp t) = (.pointer (some ⟨gs, 2, none⟩))) {X : ByteArray} (hc : ∀ w, S w → w.cell? ⟨gs, 2, none⟩ = some (.string X)) : YieldsIf Try.prog ops S o (.string X) b := by
  refine .inl ⟨by simp [Region.wanted, hgd], fun w hw => ?_⟩
  have e2 := eval_getD e
  have hcw := hc w hw
  clear e hc
  unfold execOp
  simp only [ho]
  go_simp
theorem yields_index3 (hgd : o.guard = none) (t : Nat) (ho : o.op = .indexAddr 63 (.tmp t) (.const (.int .i64 3))) (e : b.eval (.tmp t) = (.slice (some ⟨gs, 0, none⟩) 4 c)) : YieldsIf Try.prog ops S o (.pointer (some ⟨gs, 3, none⟩)) b := by
  refine .inl ⟨by simp [Region.wanted, hgd], fun w _ => ?_⟩
  have e2 := eval_getD e
  clear e
  unfold execOp
  simp only [ho]
  go_simp
theorem yields_load3 (hgd : o.guard = none) (t : Nat) (ho : o.op = .load 9 (.tmp t)) (e : b.eval (.tmp t) = (.pointer (some ⟨gs, 3, none⟩))) {X : ByteArray} (hc : ∀ w, S w → w.cell? ⟨gs, 3, none⟩ = some (.string X)) : YieldsIf Try.prog ops S o (.string X) b := by
  refine .inl ⟨by simp [Region.wanted, hgd], fun w hw => ?_⟩
  have e2 := eval_getD e
  have hcw := hc w hw
  clear e hc
  unfold execOp
  simp only [ho]
  go_simp
end

set_option maxRecDepth 100000 in
set_option maxHeartbeats 4000000 in
theorem four_taken {Q : Exit → Act → World → Prop} (a : Act) (w9 : World) (gs c : Nat) (X0 X1 X2 X3 : ByteArray) (h10 : a.eval (.tmp 10) = .slice (some ⟨gs, 0, none⟩) 4 c) (hz : 287 < a.tmps.size)
    (hc : ∀ wx, Below w9.heap.size w9 wx → wx.cell? ⟨gs, 0, none⟩ = some (.string X0) ∧ wx.cell? ⟨gs, 1, none⟩ = some (.string X1) ∧ wx.cell? ⟨gs, 2, none⟩ = some (.string X2) ∧ wx.cell? ⟨gs, 3, none⟩ = some (.string X3)) (hd : Below w9.heap.size w9 w9.drew)
    (hP : ∀ (d : Option Nat) (v : Value) c a w, Q (.panic c) (a.put d v) w → Q (.panic c) a w)
    (h : wpAnyH Try.prog .any fourOps Q (fun wx => Below w9.heap.size w9 wx) 6 #[true, true, true, false, true, true, true, false, true, true, true, false, true, true, true, false, false, false] (fb a gs c X0 X1 X2 X3) w9.drew) :
    wpAnyH Try.prog .any fourOps Q (fun wx => Below w9.heap.size w9 wx) 18 (Array.replicate 18 false) a w9.drew := by
  have HC := Lib.hid hc
  have HH := Lib.hid h
  have HD := Lib.hid hd
  have H10 := Lib.hid h10
  have HZ := Lib.hid hz
  clear hc h hd h10 hz
  refine wpAnyH_take (i := 0) (v := (.slice (some ⟨gs, 0, none⟩) 4 c)) (oi := { dst := some 98, op := .move (.tmp 10), type := 63, pos := "law.go:130", after := #[], guard := none }) rfl (by kernel_rfl) (by kernel_rfl) (by kernel_rfl) (hP _ _) (yields_move rfl rfl H10.out) HD.out ?_
  change wpAnyH Try.prog .any fourOps Q (fun wx => Below w9.heap.size w9 wx) 17 #[true, false, false, false, false, false, false, false, false, false, false, false, false, false, false, false, false, false] (a.put (some 98) (.slice (some ⟨gs, 0, none⟩) 4 c)) w9.drew
  refine wpAnyH_take (i := 1) (v := (.pointer (some ⟨gs, 0, none⟩))) (oi := { dst := some 99, op := .indexAddr 63 (.tmp 98) (.const (.int .i64 0)), type := 0, pos := "law.go:130", after := #[{ on := 0, ground := .data }], guard := none }) rfl (by kernel_rfl) (by kernel_rfl) (by kernel_rfl) (hP _ _) (yields_index0 rfl 98 rfl (put_same _ _ _ (by (try simp only [put_size]); have := HZ.out; omega))) HD.out ?_
  change wpAnyH Try.prog .any fourOps Q (fun wx => Below w9.heap.size w9 wx) 16 #[true, true, false, false, false, false, false, false, false, false, false, false, false, false, false, false, false, false] ((a.put (some 98) (.slice (some ⟨gs, 0, none⟩) 4 c)).put (some 99) (.pointer (some ⟨gs, 0, none⟩))) w9.drew
  refine wpAnyH_take (i := 2) (v := (.string X0)) (oi := { dst := some 100, op := .load 9 (.tmp 99), type := 9, pos := "law.go:130", after := #[{ on := 1, ground := .data }], guard := none }) rfl (by kernel_rfl) (by kernel_rfl) (by kernel_rfl) (hP _ _) (yields_load0 rfl 99 rfl (put_same _ _ _ (by (try simp only [put_size]); have := HZ.out; omega)) (fun wx hb => (HC.out wx hb).1)) HD.out ?_
  change wpAnyH Try.prog .any fourOps Q (fun wx => Below w9.heap.size w9 wx) 15 #[true, true, true, false, false, false, false, false, false, false, false, false, false, false, false, false, false, false] (((a.put (some 98) (.slice (some ⟨gs, 0, none⟩) 4 c)).put (some 99) (.pointer (some ⟨gs, 0, none⟩))).put (some 100) (.string X0)) w9.drew
  refine wpAnyH_take (i := 4) (v := (.slice (some ⟨gs, 0, none⟩) 4 c)) (oi := { dst := some 102, op := .move (.tmp 10), type := 63, pos := "law.go:130", after := #[], guard := none }) rfl (by kernel_rfl) (by kernel_rfl) (by kernel_rfl) (hP _ _) (yields_move rfl rfl (by simp only [put_else _ 98 10 _ (by decide), put_else _ 99 10 _ (by decide), put_else _ 100 10 _ (by decide)]; exact H10.out)) HD.out ?_
  change wpAnyH Try.prog .any fourOps Q (fun wx => Below w9.heap.size w9 wx) 14 #[true, true, true, false, true, false, false, false, false, false, false, false, false, false, false, false, false, false] ((((a.put (some 98) (.slice (some ⟨gs, 0, none⟩) 4 c)).put (some 99) (.pointer (some ⟨gs, 0, none⟩))).put (some 100) (.string X0)).put (some 102) (.slice (some ⟨gs, 0, none⟩) 4 c)) w9.drew
  refine wpAnyH_take (i := 5) (v := (.pointer (some ⟨gs, 1, none⟩))) (oi := { dst := some 103, op := .indexAddr 63 (.tmp 102) (.const (.int .i64 1)), type := 0, pos := "law.go:130", after := #[{ on := 4, ground := .data }], guard := none }) rfl (by kernel_rfl) (by kernel_rfl) (by kernel_rfl) (hP _ _) (yields_index1 rfl 102 rfl (put_same _ _ _ (by (try simp only [put_size]); have := HZ.out; omega))) HD.out ?_
  change wpAnyH Try.prog .any fourOps Q (fun wx => Below w9.heap.size w9 wx) 13 #[true, true, true, false, true, true, false, false, false, false, false, false, false, false, false, false, false, false] (((((a.put (some 98) (.slice (some ⟨gs, 0, none⟩) 4 c)).put (some 99) (.pointer (some ⟨gs, 0, none⟩))).put (some 100) (.string X0)).put (some 102) (.slice (some ⟨gs, 0, none⟩) 4 c)).put (some 103) (.pointer (some ⟨gs, 1, none⟩))) w9.drew
  refine wpAnyH_take (i := 6) (v := (.string X1)) (oi := { dst := some 104, op := .load 9 (.tmp 103), type := 9, pos := "law.go:130", after := #[{ on := 5, ground := .data }], guard := none }) rfl (by kernel_rfl) (by kernel_rfl) (by kernel_rfl) (hP _ _) (yields_load1 rfl 103 rfl (put_same _ _ _ (by (try simp only [put_size]); have := HZ.out; omega)) (fun wx hb => (HC.out wx hb).2.1)) HD.out ?_
  change wpAnyH Try.prog .any fourOps Q (fun wx => Below w9.heap.size w9 wx) 12 #[true, true, true, false, true, true, true, false, false, false, false, false, false, false, false, false, false, false] ((((((a.put (some 98) (.slice (some ⟨gs, 0, none⟩) 4 c)).put (some 99) (.pointer (some ⟨gs, 0, none⟩))).put (some 100) (.string X0)).put (some 102) (.slice (some ⟨gs, 0, none⟩) 4 c)).put (some 103) (.pointer (some ⟨gs, 1, none⟩))).put (some 104) (.string X1)) w9.drew
  refine wpAnyH_take (i := 8) (v := (.slice (some ⟨gs, 0, none⟩) 4 c)) (oi := { dst := some 106, op := .move (.tmp 10), type := 63, pos := "law.go:130", after := #[], guard := none }) rfl (by kernel_rfl) (by kernel_rfl) (by kernel_rfl) (hP _ _) (yields_move rfl rfl (by simp only [put_else _ 98 10 _ (by decide), put_else _ 99 10 _ (by decide), put_else _ 100 10 _ (by decide), put_else _ 102 10 _ (by decide), put_else _ 103 10 _ (by decide), put_else _ 104 10 _ (by decide)]; exact H10.out)) HD.out ?_
  change wpAnyH Try.prog .any fourOps Q (fun wx => Below w9.heap.size w9 wx) 11 #[true, true, true, false, true, true, true, false, true, false, false, false, false, false, false, false, false, false] (((((((a.put (some 98) (.slice (some ⟨gs, 0, none⟩) 4 c)).put (some 99) (.pointer (some ⟨gs, 0, none⟩))).put (some 100) (.string X0)).put (some 102) (.slice (some ⟨gs, 0, none⟩) 4 c)).put (some 103) (.pointer (some ⟨gs, 1, none⟩))).put (some 104) (.string X1)).put (some 106) (.slice (some ⟨gs, 0, none⟩) 4 c)) w9.drew
  refine wpAnyH_take (i := 9) (v := (.pointer (some ⟨gs, 2, none⟩))) (oi := { dst := some 107, op := .indexAddr 63 (.tmp 106) (.const (.int .i64 2)), type := 0, pos := "law.go:130", after := #[{ on := 8, ground := .data }], guard := none }) rfl (by kernel_rfl) (by kernel_rfl) (by kernel_rfl) (hP _ _) (yields_index2 rfl 106 rfl (put_same _ _ _ (by (try simp only [put_size]); have := HZ.out; omega))) HD.out ?_
  change wpAnyH Try.prog .any fourOps Q (fun wx => Below w9.heap.size w9 wx) 10 #[true, true, true, false, true, true, true, false, true, true, false, false, false, false, false, false, false, false] ((((((((a.put (some 98) (.slice (some ⟨gs, 0, none⟩) 4 c)).put (some 99) (.pointer (some ⟨gs, 0, none⟩))).put (some 100) (.string X0)).put (some 102) (.slice (some ⟨gs, 0, none⟩) 4 c)).put (some 103) (.pointer (some ⟨gs, 1, none⟩))).put (some 104) (.string X1)).put (some 106) (.slice (some ⟨gs, 0, none⟩) 4 c)).put (some 107) (.pointer (some ⟨gs, 2, none⟩))) w9.drew
  refine wpAnyH_take (i := 10) (v := (.string X2)) (oi := { dst := some 108, op := .load 9 (.tmp 107), type := 9, pos := "law.go:130", after := #[{ on := 9, ground := .data }], guard := none }) rfl (by kernel_rfl) (by kernel_rfl) (by kernel_rfl) (hP _ _) (yields_load2 rfl 107 rfl (put_same _ _ _ (by (try simp only [put_size]); have := HZ.out; omega)) (fun wx hb => (HC.out wx hb).2.2.1)) HD.out ?_
  change wpAnyH Try.prog .any fourOps Q (fun wx => Below w9.heap.size w9 wx) 9 #[true, true, true, false, true, true, true, false, true, true, true, false, false, false, false, false, false, false] (((((((((a.put (some 98) (.slice (some ⟨gs, 0, none⟩) 4 c)).put (some 99) (.pointer (some ⟨gs, 0, none⟩))).put (some 100) (.string X0)).put (some 102) (.slice (some ⟨gs, 0, none⟩) 4 c)).put (some 103) (.pointer (some ⟨gs, 1, none⟩))).put (some 104) (.string X1)).put (some 106) (.slice (some ⟨gs, 0, none⟩) 4 c)).put (some 107) (.pointer (some ⟨gs, 2, none⟩))).put (some 108) (.string X2)) w9.drew
  refine wpAnyH_take (i := 12) (v := (.slice (some ⟨gs, 0, none⟩) 4 c)) (oi := { dst := some 110, op := .move (.tmp 10), type := 63, pos := "law.go:130", after := #[], guard := none }) rfl (by kernel_rfl) (by kernel_rfl) (by kernel_rfl) (hP _ _) (yields_move rfl rfl (by simp only [put_else _ 98 10 _ (by decide), put_else _ 99 10 _ (by decide), put_else _ 100 10 _ (by decide), put_else _ 102 10 _ (by decide), put_else _ 103 10 _ (by decide), put_else _ 104 10 _ (by decide), put_else _ 106 10 _ (by decide), put_else _ 107 10 _ (by decide), put_else _ 108 10 _ (by decide)]; exact H10.out)) HD.out ?_
  change wpAnyH Try.prog .any fourOps Q (fun wx => Below w9.heap.size w9 wx) 8 #[true, true, true, false, true, true, true, false, true, true, true, false, true, false, false, false, false, false] ((((((((((a.put (some 98) (.slice (some ⟨gs, 0, none⟩) 4 c)).put (some 99) (.pointer (some ⟨gs, 0, none⟩))).put (some 100) (.string X0)).put (some 102) (.slice (some ⟨gs, 0, none⟩) 4 c)).put (some 103) (.pointer (some ⟨gs, 1, none⟩))).put (some 104) (.string X1)).put (some 106) (.slice (some ⟨gs, 0, none⟩) 4 c)).put (some 107) (.pointer (some ⟨gs, 2, none⟩))).put (some 108) (.string X2)).put (some 110) (.slice (some ⟨gs, 0, none⟩) 4 c)) w9.drew
  refine wpAnyH_take (i := 13) (v := (.pointer (some ⟨gs, 3, none⟩))) (oi := { dst := some 111, op := .indexAddr 63 (.tmp 110) (.const (.int .i64 3)), type := 0, pos := "law.go:130", after := #[{ on := 12, ground := .data }], guard := none }) rfl (by kernel_rfl) (by kernel_rfl) (by kernel_rfl) (hP _ _) (yields_index3 rfl 110 rfl (put_same _ _ _ (by (try simp only [put_size]); have := HZ.out; omega))) HD.out ?_
  change wpAnyH Try.prog .any fourOps Q (fun wx => Below w9.heap.size w9 wx) 7 #[true, true, true, false, true, true, true, false, true, true, true, false, true, true, false, false, false, false] (((((((((((a.put (some 98) (.slice (some ⟨gs, 0, none⟩) 4 c)).put (some 99) (.pointer (some ⟨gs, 0, none⟩))).put (some 100) (.string X0)).put (some 102) (.slice (some ⟨gs, 0, none⟩) 4 c)).put (some 103) (.pointer (some ⟨gs, 1, none⟩))).put (some 104) (.string X1)).put (some 106) (.slice (some ⟨gs, 0, none⟩) 4 c)).put (some 107) (.pointer (some ⟨gs, 2, none⟩))).put (some 108) (.string X2)).put (some 110) (.slice (some ⟨gs, 0, none⟩) 4 c)).put (some 111) (.pointer (some ⟨gs, 3, none⟩))) w9.drew
  refine wpAnyH_take (i := 14) (v := (.string X3)) (oi := { dst := some 112, op := .load 9 (.tmp 111), type := 9, pos := "law.go:130", after := #[{ on := 13, ground := .data }], guard := none }) rfl (by kernel_rfl) (by kernel_rfl) (by kernel_rfl) (hP _ _) (yields_load3 rfl 111 rfl (put_same _ _ _ (by (try simp only [put_size]); have := HZ.out; omega)) (fun wx hb => (HC.out wx hb).2.2.2)) HD.out ?_
  change wpAnyH Try.prog .any fourOps Q (fun wx => Below w9.heap.size w9 wx) 6 #[true, true, true, false, true, true, true, false, true, true, true, false, true, true, true, false, false, false] ((((((((((((a.put (some 98) (.slice (some ⟨gs, 0, none⟩) 4 c)).put (some 99) (.pointer (some ⟨gs, 0, none⟩))).put (some 100) (.string X0)).put (some 102) (.slice (some ⟨gs, 0, none⟩) 4 c)).put (some 103) (.pointer (some ⟨gs, 1, none⟩))).put (some 104) (.string X1)).put (some 106) (.slice (some ⟨gs, 0, none⟩) 4 c)).put (some 107) (.pointer (some ⟨gs, 2, none⟩))).put (some 108) (.string X2)).put (some 110) (.slice (some ⟨gs, 0, none⟩) 4 c)).put (some 111) (.pointer (some ⟨gs, 3, none⟩))).put (some 112) (.string X3)) w9.drew
  exact HH.out

set_option maxRecDepth 100000 in
set_option maxHeartbeats 8000000 in
theorem four_built {Q : Exit → Act → World → Prop} (a : Act) (w9 : World) (gs c : Nat) (X0 X1 X2 X3 : ByteArray) (h10 : a.eval (.tmp 10) = .slice (some ⟨gs, 0, none⟩) 4 c) (hz : 287 < a.tmps.size)
    (hg : gs < w9.heap.size) (c0 : w9.cell? ⟨gs, 0, none⟩ = some (.string X0)) (c1 : w9.cell? ⟨gs, 1, none⟩ = some (.string X1)) (c2 : w9.cell? ⟨gs, 2, none⟩ = some (.string X2)) (c3 : w9.cell? ⟨gs, 3, none⟩ = some (.string X3))
    (hQ : ∀ (g0 g1 g2 g3 G : Nat) (W : World), Below w9.heap.size w9 W → Row W g0 9 [.string X0] (0, 0) → Row W g1 9 [.string X1] (0, 0) → Row W g2 9 [.string X2] (0, 0) → Row W g3 9 [.string X3] (0, 0) →
      Row W G 63 [.slice (some ⟨g0, 0, none⟩) 1 1, .slice (some ⟨g1, 0, none⟩) 1 1, .slice (some ⟨g2, 0, none⟩) 1 1, .slice (some ⟨g3, 0, none⟩) 1 1] (0, 0) → (w9.heap.size ≤ g0 ∧ w9.heap.size ≤ g1 ∧ w9.heap.size ≤ g2 ∧ w9.heap.size ≤ g3 ∧ w9.heap.size ≤ G) → (g0 ≠ g1 ∧ g0 ≠ g2 ∧ g0 ≠ g3 ∧ g1 ≠ g2 ∧ g1 ≠ g3 ∧ g2 ≠ g3) →
      Q .normal (((((((fb a gs c X0 X1 X2 X3).put (some 101) (.slice (some ⟨g0, 0, none⟩) 1 1)).put (some 105) (.slice (some ⟨g1, 0, none⟩) 1 1)).put (some 109) (.slice (some ⟨g2, 0, none⟩) 1 1)).put (some 113) (.slice (some ⟨g3, 0, none⟩) 1 1)).put (some 114) (.slice (some ⟨G, 0, none⟩) 4 4)).put (some 15) (.slice (some ⟨G, 0, none⟩) 4 4)) W) (hd : Below w9.heap.size w9 w9.drew)
    (hP : ∀ (d : Option Nat) (v : Value) c a w, Q (.panic c) (a.put d v) w → Q (.panic c) a w) :
    wpAnyH Try.prog .any fourOps Q (fun wx => Below w9.heap.size w9 wx) 18 (Array.replicate 18 false) a w9.drew := by
  have hc : ∀ wx, Below w9.heap.size w9 wx → wx.cell? ⟨gs, 0, none⟩ = some (.string X0) ∧ wx.cell? ⟨gs, 1, none⟩ = some (.string X1) ∧ wx.cell? ⟨gs, 2, none⟩ = some (.string X2) ∧ wx.cell? ⟨gs, 3, none⟩ = some (.string X3) :=
    fun wx hb => ⟨(hb.cell (p := ⟨gs, 0, none⟩) hg).trans c0, (hb.cell (p := ⟨gs, 1, none⟩) hg).trans c1, (hb.cell (p := ⟨gs, 2, none⟩) hg).trans c2, (hb.cell (p := ⟨gs, 3, none⟩) hg).trans c3⟩

  have k0123 : ∀ (g0 : Nat) (g1 : Nat) (g2 : Nat) (g3 : Nat) (W : World), Below w9.heap.size w9 W → (Row W g0 9 [.string X0] (0, 0) ∧ w9.heap.size ≤ g0) → (Row W g1 9 [.string X1] (0, 0) ∧ w9.heap.size ≤ g1) → (Row W g2 9 [.string X2] (0, 0) ∧ w9.heap.size ≤ g2) → (Row W g3 9 [.string X3] (0, 0) ∧ w9.heap.size ≤ g3) → g0 ≠ g1 → g0 ≠ g2 → g0 ≠ g3 → g1 ≠ g2 → g1 ≠ g3 → g2 ≠ g3 → wpAnyH Try.prog .any fourOps Q (fun wx => Below w9.heap.size w9 wx) 2 #[true, true, true, true, true, true, true, true, true, true, true, true, true, true, true, true, false, false] (((((fb a gs c X0 X1 X2 X3).put (some 101) (.slice (some ⟨g0, 0, none⟩) 1 1)).put (some 105) (.slice (some ⟨g1, 0, none⟩) 1 1)).put (some 109) (.slice (some ⟨g2, 0, none⟩) 1 1)).put (some 113) (.slice (some ⟨g3, 0, none⟩) 1 1)) W := by
    intro g0 g1 g2 g3 W hB r0 r1 r2 r3 n01 n02 n03 n12 n13 n23
    have e0 : ((((((fb a gs c X0 X1 X2 X3).put (some 101) (.slice (some ⟨g0, 0, none⟩) 1 1)).put (some 105) (.slice (some ⟨g1, 0, none⟩) 1 1)).put (some 109) (.slice (some ⟨g2, 0, none⟩) 1 1)).put (some 113) (.slice (some ⟨g3, 0, none⟩) 1 1))).eval (.tmp 101) = (.slice (some ⟨g0, 0, none⟩) 1 1) := ((put_else _ _ _ _ (by decide)).trans ((put_else _ _ _ _ (by decide)).trans ((put_else _ _ _ _ (by decide)).trans (put_same _ _ _ (by simp only [put_size, fb_size]; omega)))))
    have e1 : ((((((fb a gs c X0 X1 X2 X3).put (some 101) (.slice (some ⟨g0, 0, none⟩) 1 1)).put (some 105) (.slice (some ⟨g1, 0, none⟩) 1 1)).put (some 109) (.slice (some ⟨g2, 0, none⟩) 1 1)).put (some 113) (.slice (some ⟨g3, 0, none⟩) 1 1))).eval (.tmp 105) = (.slice (some ⟨g1, 0, none⟩) 1 1) := ((put_else _ _ _ _ (by decide)).trans ((put_else _ _ _ _ (by decide)).trans (put_same _ _ _ (by simp only [put_size, fb_size]; omega))))
    have e2 : ((((((fb a gs c X0 X1 X2 X3).put (some 101) (.slice (some ⟨g0, 0, none⟩) 1 1)).put (some 105) (.slice (some ⟨g1, 0, none⟩) 1 1)).put (some 109) (.slice (some ⟨g2, 0, none⟩) 1 1)).put (some 113) (.slice (some ⟨g3, 0, none⟩) 1 1))).eval (.tmp 109) = (.slice (some ⟨g2, 0, none⟩) 1 1) := ((put_else _ _ _ _ (by decide)).trans (put_same _ _ _ (by simp only [put_size, fb_size]; omega)))
    have e3 : ((((((fb a gs c X0 X1 X2 X3).put (some 101) (.slice (some ⟨g0, 0, none⟩) 1 1)).put (some 105) (.slice (some ⟨g1, 0, none⟩) 1 1)).put (some 109) (.slice (some ⟨g2, 0, none⟩) 1 1)).put (some 113) (.slice (some ⟨g3, 0, none⟩) 1 1))).eval (.tmp 113) = (.slice (some ⟨g3, 0, none⟩) 1 1) := (put_same _ _ _ (by simp only [put_size, fb_size]; omega))
    have hzz : ((((((fb a gs c X0 X1 X2 X3).put (some 101) (.slice (some ⟨g0, 0, none⟩) 1 1)).put (some 105) (.slice (some ⟨g1, 0, none⟩) 1 1)).put (some 109) (.slice (some ⟨g2, 0, none⟩) 1 1)).put (some 113) (.slice (some ⟨g3, 0, none⟩) 1 1))).tmps.size = a.tmps.size := by simp only [put_size, fb_size]
    have hfin := fun G W' hb r0 r1 r2 r3 rG hG => hQ g0 g1 g2 g3 G W' hb r0 r1 r2 r3 rG hG ⟨n01, n02, n03, n12, n13, n23⟩
    generalize (((((fb a gs c X0 X1 X2 X3).put (some 101) (.slice (some ⟨g0, 0, none⟩) 1 1)).put (some 105) (.slice (some ⟨g1, 0, none⟩) 1 1)).put (some 109) (.slice (some ⟨g2, 0, none⟩) 1 1)).put (some 113) (.slice (some ⟨g3, 0, none⟩) 1 1)) = b at *
    refine wpAnyH_ready (rs := [16]) (by kernel_rfl) (by simp) ?_
    refine AllReadyH.cons (o := { dst := some 114, op := .buildSlice 65 4 #[(0, .tmp 101), (1, .tmp 105), (2, .tmp 109), (3, .tmp 113)], type := 65, pos := "law.go:130", after := #[{ on := 3, ground := .data }, { on := 7, ground := .data }, { on := 11, ground := .data }, { on := 15, ground := .data }], guard := none }) rfl (fun K hK => ?_) AllReadyH.nil
    refine step_build4 rfl 114 rfl rfl _ _ _ _ e0 e1 e2 e3 (fun G W' hb hr hG => ?_)
    have hB' := hB.trans (hb.mono hB.size)
    refine hK.out _ _ hB' (fun _ => ?_)
    refine wpAnyH_ready (rs := [17]) (by kernel_rfl) (by simp) ?_
    refine AllReadyH.cons (o := { dst := some 15, op := .assign (.tmp 114), type := 65, pos := "law.go:130", after := #[{ on := 16, ground := .data }, { on := 0, ground := .phase }, { on := 1, ground := .phase }, { on := 2, ground := .phase }, { on := 3, ground := .phase }, { on := 4, ground := .phase }, { on := 5, ground := .phase }, { on := 6, ground := .phase }, { on := 7, ground := .phase }, { on := 8, ground := .phase }, { on := 9, ground := .phase }, { on := 10, ground := .phase }, { on := 11, ground := .phase }, { on := 12, ground := .phase }, { on := 13, ground := .phase }, { on := 14, ground := .phase }, { on := 15, ground := .phase }, { on := 16, ground := .phase }], guard := none }) rfl (fun K2 hK2 => ?_) AllReadyH.nil
    rw [if_pos (by rfl)]
    unfold Oper.wp execOp
    have hz114 : 114 < a.tmps.size := by omega
    have hzb : 114 < b.tmps.size := by omega
    go_simp
    refine hK2.out _ _ hB' (fun _ => ?_)
    refine wpAnyH_done (by kernel_rfl) ?_ _
    exact hfin G W' hB' (r0.1.below hb r0.1.lt) (r1.1.below hb r1.1.lt) (r2.1.below hb r2.1.lt) (r3.1.below hb r3.1.lt) hr ⟨r0.2, r1.2, r2.2, r3.2, Nat.le_trans hB.size hG⟩
  have k012 : ∀ (g0 : Nat) (g1 : Nat) (g2 : Nat) (W : World), Below w9.heap.size w9 W → (Row W g0 9 [.string X0] (0, 0) ∧ w9.heap.size ≤ g0) → (Row W g1 9 [.string X1] (0, 0) ∧ w9.heap.size ≤ g1) → (Row W g2 9 [.string X2] (0, 0) ∧ w9.heap.size ≤ g2) → g0 ≠ g1 → g0 ≠ g2 → g1 ≠ g2 → wpAnyH Try.prog .any fourOps Q (fun wx => Below w9.heap.size w9 wx) 3 #[true, true, true, true, true, true, true, true, true, true, true, true, true, true, true, false, false, false] ((((fb a gs c X0 X1 X2 X3).put (some 101) (.slice (some ⟨g0, 0, none⟩) 1 1)).put (some 105) (.slice (some ⟨g1, 0, none⟩) 1 1)).put (some 109) (.slice (some ⟨g2, 0, none⟩) 1 1)) W := by
    intro g0 g1 g2 W hB r0 r1 r2 n01 n02 n12
    refine wpAnyH_ready (rs := [15]) (by kernel_rfl) (by simp) ?_
    refine AllReadyH.cons (o := { dst := some 113, op := .buildSlice 63 1 #[(0, .tmp 112)], type := 63, pos := "law.go:130", after := #[{ on := 14, ground := .data }], guard := none }) rfl (fun K hK => ?_) ?_
    · refine step_build1 rfl 113 rfl 112 rfl X3 ((put_else _ _ _ _ (by decide)).trans ((put_else _ _ _ _ (by decide)).trans ((put_else _ _ _ _ (by decide)).trans (fb_112 a gs c X0 X1 X2 X3 hz)))) (fun g3 W' hb hr hgn => ?_)
      have hB' := hB.trans (hb.mono hB.size)
      refine hK.out _ _ hB' (fun _ => ?_)
      exact k0123 g0 g1 g2 g3 W' hB' ⟨r0.1.below hb r0.1.lt, r0.2⟩ ⟨r1.1.below hb r1.1.lt, r1.2⟩ ⟨r2.1.below hb r2.1.lt, r2.2⟩ ⟨hr, Nat.le_trans hB.size hgn⟩ n01 n02 (fun e => by have := r0.1.lt; omega) n12 (fun e => by have := r1.1.lt; omega) (fun e => by have := r2.1.lt; omega)
    exact AllReadyH.nil
  have k013 : ∀ (g0 : Nat) (g1 : Nat) (g3 : Nat) (W : World), Below w9.heap.size w9 W → (Row W g0 9 [.string X0] (0, 0) ∧ w9.heap.size ≤ g0) → (Row W g1 9 [.string X1] (0, 0) ∧ w9.heap.size ≤ g1) → (Row W g3 9 [.string X3] (0, 0) ∧ w9.heap.size ≤ g3) → g0 ≠ g1 → g0 ≠ g3 → g1 ≠ g3 → wpAnyH Try.prog .any fourOps Q (fun wx => Below w9.heap.size w9 wx) 3 #[true, true, true, true, true, true, true, true, true, true, true, false, true, true, true, true, false, false] ((((fb a gs c X0 X1 X2 X3).put (some 101) (.slice (some ⟨g0, 0, none⟩) 1 1)).put (some 105) (.slice (some ⟨g1, 0, none⟩) 1 1)).put (some 113) (.slice (some ⟨g3, 0, none⟩) 1 1)) W := by
    intro g0 g1 g3 W hB r0 r1 r3 n01 n03 n13
    refine wpAnyH_ready (rs := [11]) (by kernel_rfl) (by simp) ?_
    refine AllReadyH.cons (o := { dst := some 109, op := .buildSlice 63 1 #[(0, .tmp 108)], type := 63, pos := "law.go:130", after := #[{ on := 10, ground := .data }], guard := none }) rfl (fun K hK => ?_) ?_
    · refine step_build1 rfl 109 rfl 108 rfl X2 ((put_else _ _ _ _ (by decide)).trans ((put_else _ _ _ _ (by decide)).trans ((put_else _ _ _ _ (by decide)).trans (fb_108 a gs c X0 X1 X2 X3 hz)))) (fun g2 W' hb hr hgn => ?_)
      have hB' := hB.trans (hb.mono hB.size)
      refine hK.out _ _ hB' (fun _ => ?_)
      rw [put_comm _ 113 109 _ _ (by decide)]
      exact k0123 g0 g1 g2 g3 W' hB' ⟨r0.1.below hb r0.1.lt, r0.2⟩ ⟨r1.1.below hb r1.1.lt, r1.2⟩ ⟨hr, Nat.le_trans hB.size hgn⟩ ⟨r3.1.below hb r3.1.lt, r3.2⟩ n01 (fun e => by have := r0.1.lt; omega) n03 (fun e => by have := r1.1.lt; omega) n13 (fun e => by have := r3.1.lt; omega)
    exact AllReadyH.nil
  have k023 : ∀ (g0 : Nat) (g2 : Nat) (g3 : Nat) (W : World), Below w9.heap.size w9 W → (Row W g0 9 [.string X0] (0, 0) ∧ w9.heap.size ≤ g0) → (Row W g2 9 [.string X2] (0, 0) ∧ w9.heap.size ≤ g2) → (Row W g3 9 [.string X3] (0, 0) ∧ w9.heap.size ≤ g3) → g0 ≠ g2 → g0 ≠ g3 → g2 ≠ g3 → wpAnyH Try.prog .any fourOps Q (fun wx => Below w9.heap.size w9 wx) 3 #[true, true, true, true, true, true, true, false, true, true, true, true, true, true, true, true, false, false] ((((fb a gs c X0 X1 X2 X3).put (some 101) (.slice (some ⟨g0, 0, none⟩) 1 1)).put (some 109) (.slice (some ⟨g2, 0, none⟩) 1 1)).put (some 113) (.slice (some ⟨g3, 0, none⟩) 1 1)) W := by
    intro g0 g2 g3 W hB r0 r2 r3 n02 n03 n23
    refine wpAnyH_ready (rs := [7]) (by kernel_rfl) (by simp) ?_
    refine AllReadyH.cons (o := { dst := some 105, op := .buildSlice 63 1 #[(0, .tmp 104)], type := 63, pos := "law.go:130", after := #[{ on := 6, ground := .data }], guard := none }) rfl (fun K hK => ?_) ?_
    · refine step_build1 rfl 105 rfl 104 rfl X1 ((put_else _ _ _ _ (by decide)).trans ((put_else _ _ _ _ (by decide)).trans ((put_else _ _ _ _ (by decide)).trans (fb_104 a gs c X0 X1 X2 X3 hz)))) (fun g1 W' hb hr hgn => ?_)
      have hB' := hB.trans (hb.mono hB.size)
      refine hK.out _ _ hB' (fun _ => ?_)
      rw [put_comm _ 113 105 _ _ (by decide)]
      rw [put_comm _ 109 105 _ _ (by decide)]
      exact k0123 g0 g1 g2 g3 W' hB' ⟨r0.1.below hb r0.1.lt, r0.2⟩ ⟨hr, Nat.le_trans hB.size hgn⟩ ⟨r2.1.below hb r2.1.lt, r2.2⟩ ⟨r3.1.below hb r3.1.lt, r3.2⟩ (fun e => by have := r0.1.lt; omega) n02 n03 (fun e => by have := r2.1.lt; omega) (fun e => by have := r3.1.lt; omega) n23
    exact AllReadyH.nil
  have k123 : ∀ (g1 : Nat) (g2 : Nat) (g3 : Nat) (W : World), Below w9.heap.size w9 W → (Row W g1 9 [.string X1] (0, 0) ∧ w9.heap.size ≤ g1) → (Row W g2 9 [.string X2] (0, 0) ∧ w9.heap.size ≤ g2) → (Row W g3 9 [.string X3] (0, 0) ∧ w9.heap.size ≤ g3) → g1 ≠ g2 → g1 ≠ g3 → g2 ≠ g3 → wpAnyH Try.prog .any fourOps Q (fun wx => Below w9.heap.size w9 wx) 3 #[true, true, true, false, true, true, true, true, true, true, true, true, true, true, true, true, false, false] ((((fb a gs c X0 X1 X2 X3).put (some 105) (.slice (some ⟨g1, 0, none⟩) 1 1)).put (some 109) (.slice (some ⟨g2, 0, none⟩) 1 1)).put (some 113) (.slice (some ⟨g3, 0, none⟩) 1 1)) W := by
    intro g1 g2 g3 W hB r1 r2 r3 n12 n13 n23
    refine wpAnyH_ready (rs := [3]) (by kernel_rfl) (by simp) ?_
    refine AllReadyH.cons (o := { dst := some 101, op := .buildSlice 63 1 #[(0, .tmp 100)], type := 63, pos := "law.go:130", after := #[{ on := 2, ground := .data }], guard := none }) rfl (fun K hK => ?_) ?_
    · refine step_build1 rfl 101 rfl 100 rfl X0 ((put_else _ _ _ _ (by decide)).trans ((put_else _ _ _ _ (by decide)).trans ((put_else _ _ _ _ (by decide)).trans (fb_100 a gs c X0 X1 X2 X3 hz)))) (fun g0 W' hb hr hgn => ?_)
      have hB' := hB.trans (hb.mono hB.size)
      refine hK.out _ _ hB' (fun _ => ?_)
      rw [put_comm _ 113 101 _ _ (by decide)]
      rw [put_comm _ 109 101 _ _ (by decide)]
      rw [put_comm _ 105 101 _ _ (by decide)]
      exact k0123 g0 g1 g2 g3 W' hB' ⟨hr, Nat.le_trans hB.size hgn⟩ ⟨r1.1.below hb r1.1.lt, r1.2⟩ ⟨r2.1.below hb r2.1.lt, r2.2⟩ ⟨r3.1.below hb r3.1.lt, r3.2⟩ (fun e => by have := r1.1.lt; omega) (fun e => by have := r2.1.lt; omega) (fun e => by have := r3.1.lt; omega) n12 n13 n23
    exact AllReadyH.nil
  have k01 : ∀ (g0 : Nat) (g1 : Nat) (W : World), Below w9.heap.size w9 W → (Row W g0 9 [.string X0] (0, 0) ∧ w9.heap.size ≤ g0) → (Row W g1 9 [.string X1] (0, 0) ∧ w9.heap.size ≤ g1) → g0 ≠ g1 → wpAnyH Try.prog .any fourOps Q (fun wx => Below w9.heap.size w9 wx) 4 #[true, true, true, true, true, true, true, true, true, true, true, false, true, true, true, false, false, false] (((fb a gs c X0 X1 X2 X3).put (some 101) (.slice (some ⟨g0, 0, none⟩) 1 1)).put (some 105) (.slice (some ⟨g1, 0, none⟩) 1 1)) W := by
    intro g0 g1 W hB r0 r1 n01
    refine wpAnyH_ready (rs := [11, 15]) (by kernel_rfl) (by simp) ?_
    refine AllReadyH.cons (o := { dst := some 109, op := .buildSlice 63 1 #[(0, .tmp 108)], type := 63, pos := "law.go:130", after := #[{ on := 10, ground := .data }], guard := none }) rfl (fun K hK => ?_) ?_
    · refine step_build1 rfl 109 rfl 108 rfl X2 ((put_else _ _ _ _ (by decide)).trans ((put_else _ _ _ _ (by decide)).trans (fb_108 a gs c X0 X1 X2 X3 hz))) (fun g2 W' hb hr hgn => ?_)
      have hB' := hB.trans (hb.mono hB.size)
      refine hK.out _ _ hB' (fun _ => ?_)
      exact k012 g0 g1 g2 W' hB' ⟨r0.1.below hb r0.1.lt, r0.2⟩ ⟨r1.1.below hb r1.1.lt, r1.2⟩ ⟨hr, Nat.le_trans hB.size hgn⟩ n01 (fun e => by have := r0.1.lt; omega) (fun e => by have := r1.1.lt; omega)
    refine AllReadyH.cons (o := { dst := some 113, op := .buildSlice 63 1 #[(0, .tmp 112)], type := 63, pos := "law.go:130", after := #[{ on := 14, ground := .data }], guard := none }) rfl (fun K hK => ?_) ?_
    · refine step_build1 rfl 113 rfl 112 rfl X3 ((put_else _ _ _ _ (by decide)).trans ((put_else _ _ _ _ (by decide)).trans (fb_112 a gs c X0 X1 X2 X3 hz))) (fun g3 W' hb hr hgn => ?_)
      have hB' := hB.trans (hb.mono hB.size)
      refine hK.out _ _ hB' (fun _ => ?_)
      exact k013 g0 g1 g3 W' hB' ⟨r0.1.below hb r0.1.lt, r0.2⟩ ⟨r1.1.below hb r1.1.lt, r1.2⟩ ⟨hr, Nat.le_trans hB.size hgn⟩ n01 (fun e => by have := r0.1.lt; omega) (fun e => by have := r1.1.lt; omega)
    exact AllReadyH.nil
  have k02 : ∀ (g0 : Nat) (g2 : Nat) (W : World), Below w9.heap.size w9 W → (Row W g0 9 [.string X0] (0, 0) ∧ w9.heap.size ≤ g0) → (Row W g2 9 [.string X2] (0, 0) ∧ w9.heap.size ≤ g2) → g0 ≠ g2 → wpAnyH Try.prog .any fourOps Q (fun wx => Below w9.heap.size w9 wx) 4 #[true, true, true, true, true, true, true, false, true, true, true, true, true, true, true, false, false, false] (((fb a gs c X0 X1 X2 X3).put (some 101) (.slice (some ⟨g0, 0, none⟩) 1 1)).put (some 109) (.slice (some ⟨g2, 0, none⟩) 1 1)) W := by
    intro g0 g2 W hB r0 r2 n02
    refine wpAnyH_ready (rs := [7, 15]) (by kernel_rfl) (by simp) ?_
    refine AllReadyH.cons (o := { dst := some 105, op := .buildSlice 63 1 #[(0, .tmp 104)], type := 63, pos := "law.go:130", after := #[{ on := 6, ground := .data }], guard := none }) rfl (fun K hK => ?_) ?_
    · refine step_build1 rfl 105 rfl 104 rfl X1 ((put_else _ _ _ _ (by decide)).trans ((put_else _ _ _ _ (by decide)).trans (fb_104 a gs c X0 X1 X2 X3 hz))) (fun g1 W' hb hr hgn => ?_)
      have hB' := hB.trans (hb.mono hB.size)
      refine hK.out _ _ hB' (fun _ => ?_)
      rw [put_comm _ 109 105 _ _ (by decide)]
      exact k012 g0 g1 g2 W' hB' ⟨r0.1.below hb r0.1.lt, r0.2⟩ ⟨hr, Nat.le_trans hB.size hgn⟩ ⟨r2.1.below hb r2.1.lt, r2.2⟩ (fun e => by have := r0.1.lt; omega) n02 (fun e => by have := r2.1.lt; omega)
    refine AllReadyH.cons (o := { dst := some 113, op := .buildSlice 63 1 #[(0, .tmp 112)], type := 63, pos := "law.go:130", after := #[{ on := 14, ground := .data }], guard := none }) rfl (fun K hK => ?_) ?_
    · refine step_build1 rfl 113 rfl 112 rfl X3 ((put_else _ _ _ _ (by decide)).trans ((put_else _ _ _ _ (by decide)).trans (fb_112 a gs c X0 X1 X2 X3 hz))) (fun g3 W' hb hr hgn => ?_)
      have hB' := hB.trans (hb.mono hB.size)
      refine hK.out _ _ hB' (fun _ => ?_)
      exact k023 g0 g2 g3 W' hB' ⟨r0.1.below hb r0.1.lt, r0.2⟩ ⟨r2.1.below hb r2.1.lt, r2.2⟩ ⟨hr, Nat.le_trans hB.size hgn⟩ n02 (fun e => by have := r0.1.lt; omega) (fun e => by have := r2.1.lt; omega)
    exact AllReadyH.nil
  have k03 : ∀ (g0 : Nat) (g3 : Nat) (W : World), Below w9.heap.size w9 W → (Row W g0 9 [.string X0] (0, 0) ∧ w9.heap.size ≤ g0) → (Row W g3 9 [.string X3] (0, 0) ∧ w9.heap.size ≤ g3) → g0 ≠ g3 → wpAnyH Try.prog .any fourOps Q (fun wx => Below w9.heap.size w9 wx) 4 #[true, true, true, true, true, true, true, false, true, true, true, false, true, true, true, true, false, false] (((fb a gs c X0 X1 X2 X3).put (some 101) (.slice (some ⟨g0, 0, none⟩) 1 1)).put (some 113) (.slice (some ⟨g3, 0, none⟩) 1 1)) W := by
    intro g0 g3 W hB r0 r3 n03
    refine wpAnyH_ready (rs := [7, 11]) (by kernel_rfl) (by simp) ?_
    refine AllReadyH.cons (o := { dst := some 105, op := .buildSlice 63 1 #[(0, .tmp 104)], type := 63, pos := "law.go:130", after := #[{ on := 6, ground := .data }], guard := none }) rfl (fun K hK => ?_) ?_
    · refine step_build1 rfl 105 rfl 104 rfl X1 ((put_else _ _ _ _ (by decide)).trans ((put_else _ _ _ _ (by decide)).trans (fb_104 a gs c X0 X1 X2 X3 hz))) (fun g1 W' hb hr hgn => ?_)
      have hB' := hB.trans (hb.mono hB.size)
      refine hK.out _ _ hB' (fun _ => ?_)
      rw [put_comm _ 113 105 _ _ (by decide)]
      exact k013 g0 g1 g3 W' hB' ⟨r0.1.below hb r0.1.lt, r0.2⟩ ⟨hr, Nat.le_trans hB.size hgn⟩ ⟨r3.1.below hb r3.1.lt, r3.2⟩ (fun e => by have := r0.1.lt; omega) n03 (fun e => by have := r3.1.lt; omega)
    refine AllReadyH.cons (o := { dst := some 109, op := .buildSlice 63 1 #[(0, .tmp 108)], type := 63, pos := "law.go:130", after := #[{ on := 10, ground := .data }], guard := none }) rfl (fun K hK => ?_) ?_
    · refine step_build1 rfl 109 rfl 108 rfl X2 ((put_else _ _ _ _ (by decide)).trans ((put_else _ _ _ _ (by decide)).trans (fb_108 a gs c X0 X1 X2 X3 hz))) (fun g2 W' hb hr hgn => ?_)
      have hB' := hB.trans (hb.mono hB.size)
      refine hK.out _ _ hB' (fun _ => ?_)
      rw [put_comm _ 113 109 _ _ (by decide)]
      exact k023 g0 g2 g3 W' hB' ⟨r0.1.below hb r0.1.lt, r0.2⟩ ⟨hr, Nat.le_trans hB.size hgn⟩ ⟨r3.1.below hb r3.1.lt, r3.2⟩ (fun e => by have := r0.1.lt; omega) n03 (fun e => by have := r3.1.lt; omega)
    exact AllReadyH.nil
  have k12 : ∀ (g1 : Nat) (g2 : Nat) (W : World), Below w9.heap.size w9 W → (Row W g1 9 [.string X1] (0, 0) ∧ w9.heap.size ≤ g1) → (Row W g2 9 [.string X2] (0, 0) ∧ w9.heap.size ≤ g2) → g1 ≠ g2 → wpAnyH Try.prog .any fourOps Q (fun wx => Below w9.heap.size w9 wx) 4 #[true, true, true, false, true, true, true, true, true, true, true, true, true, true, true, false, false, false] (((fb a gs c X0 X1 X2 X3).put (some 105) (.slice (some ⟨g1, 0, none⟩) 1 1)).put (some 109) (.slice (some ⟨g2, 0, none⟩) 1 1)) W := by
    intro g1 g2 W hB r1 r2 n12
    refine wpAnyH_ready (rs := [3, 15]) (by kernel_rfl) (by simp) ?_
    refine AllReadyH.cons (o := { dst := some 101, op := .buildSlice 63 1 #[(0, .tmp 100)], type := 63, pos := "law.go:130", after := #[{ on := 2, ground := .data }], guard := none }) rfl (fun K hK => ?_) ?_
    · refine step_build1 rfl 101 rfl 100 rfl X0 ((put_else _ _ _ _ (by decide)).trans ((put_else _ _ _ _ (by decide)).trans (fb_100 a gs c X0 X1 X2 X3 hz))) (fun g0 W' hb hr hgn => ?_)
      have hB' := hB.trans (hb.mono hB.size)
      refine hK.out _ _ hB' (fun _ => ?_)
      rw [put_comm _ 109 101 _ _ (by decide)]
      rw [put_comm _ 105 101 _ _ (by decide)]
      exact k012 g0 g1 g2 W' hB' ⟨hr, Nat.le_trans hB.size hgn⟩ ⟨r1.1.below hb r1.1.lt, r1.2⟩ ⟨r2.1.below hb r2.1.lt, r2.2⟩ (fun e => by have := r1.1.lt; omega) (fun e => by have := r2.1.lt; omega) n12
    refine AllReadyH.cons (o := { dst := some 113, op := .buildSlice 63 1 #[(0, .tmp 112)], type := 63, pos := "law.go:130", after := #[{ on := 14, ground := .data }], guard := none }) rfl (fun K hK => ?_) ?_
    · refine step_build1 rfl 113 rfl 112 rfl X3 ((put_else _ _ _ _ (by decide)).trans ((put_else _ _ _ _ (by decide)).trans (fb_112 a gs c X0 X1 X2 X3 hz))) (fun g3 W' hb hr hgn => ?_)
      have hB' := hB.trans (hb.mono hB.size)
      refine hK.out _ _ hB' (fun _ => ?_)
      exact k123 g1 g2 g3 W' hB' ⟨r1.1.below hb r1.1.lt, r1.2⟩ ⟨r2.1.below hb r2.1.lt, r2.2⟩ ⟨hr, Nat.le_trans hB.size hgn⟩ n12 (fun e => by have := r1.1.lt; omega) (fun e => by have := r2.1.lt; omega)
    exact AllReadyH.nil
  have k13 : ∀ (g1 : Nat) (g3 : Nat) (W : World), Below w9.heap.size w9 W → (Row W g1 9 [.string X1] (0, 0) ∧ w9.heap.size ≤ g1) → (Row W g3 9 [.string X3] (0, 0) ∧ w9.heap.size ≤ g3) → g1 ≠ g3 → wpAnyH Try.prog .any fourOps Q (fun wx => Below w9.heap.size w9 wx) 4 #[true, true, true, false, true, true, true, true, true, true, true, false, true, true, true, true, false, false] (((fb a gs c X0 X1 X2 X3).put (some 105) (.slice (some ⟨g1, 0, none⟩) 1 1)).put (some 113) (.slice (some ⟨g3, 0, none⟩) 1 1)) W := by
    intro g1 g3 W hB r1 r3 n13
    refine wpAnyH_ready (rs := [3, 11]) (by kernel_rfl) (by simp) ?_
    refine AllReadyH.cons (o := { dst := some 101, op := .buildSlice 63 1 #[(0, .tmp 100)], type := 63, pos := "law.go:130", after := #[{ on := 2, ground := .data }], guard := none }) rfl (fun K hK => ?_) ?_
    · refine step_build1 rfl 101 rfl 100 rfl X0 ((put_else _ _ _ _ (by decide)).trans ((put_else _ _ _ _ (by decide)).trans (fb_100 a gs c X0 X1 X2 X3 hz))) (fun g0 W' hb hr hgn => ?_)
      have hB' := hB.trans (hb.mono hB.size)
      refine hK.out _ _ hB' (fun _ => ?_)
      rw [put_comm _ 113 101 _ _ (by decide)]
      rw [put_comm _ 105 101 _ _ (by decide)]
      exact k013 g0 g1 g3 W' hB' ⟨hr, Nat.le_trans hB.size hgn⟩ ⟨r1.1.below hb r1.1.lt, r1.2⟩ ⟨r3.1.below hb r3.1.lt, r3.2⟩ (fun e => by have := r1.1.lt; omega) (fun e => by have := r3.1.lt; omega) n13
    refine AllReadyH.cons (o := { dst := some 109, op := .buildSlice 63 1 #[(0, .tmp 108)], type := 63, pos := "law.go:130", after := #[{ on := 10, ground := .data }], guard := none }) rfl (fun K hK => ?_) ?_
    · refine step_build1 rfl 109 rfl 108 rfl X2 ((put_else _ _ _ _ (by decide)).trans ((put_else _ _ _ _ (by decide)).trans (fb_108 a gs c X0 X1 X2 X3 hz))) (fun g2 W' hb hr hgn => ?_)
      have hB' := hB.trans (hb.mono hB.size)
      refine hK.out _ _ hB' (fun _ => ?_)
      rw [put_comm _ 113 109 _ _ (by decide)]
      exact k123 g1 g2 g3 W' hB' ⟨r1.1.below hb r1.1.lt, r1.2⟩ ⟨hr, Nat.le_trans hB.size hgn⟩ ⟨r3.1.below hb r3.1.lt, r3.2⟩ (fun e => by have := r1.1.lt; omega) n13 (fun e => by have := r3.1.lt; omega)
    exact AllReadyH.nil
  have k23 : ∀ (g2 : Nat) (g3 : Nat) (W : World), Below w9.heap.size w9 W → (Row W g2 9 [.string X2] (0, 0) ∧ w9.heap.size ≤ g2) → (Row W g3 9 [.string X3] (0, 0) ∧ w9.heap.size ≤ g3) → g2 ≠ g3 → wpAnyH Try.prog .any fourOps Q (fun wx => Below w9.heap.size w9 wx) 4 #[true, true, true, false, true, true, true, false, true, true, true, true, true, true, true, true, false, false] (((fb a gs c X0 X1 X2 X3).put (some 109) (.slice (some ⟨g2, 0, none⟩) 1 1)).put (some 113) (.slice (some ⟨g3, 0, none⟩) 1 1)) W := by
    intro g2 g3 W hB r2 r3 n23
    refine wpAnyH_ready (rs := [3, 7]) (by kernel_rfl) (by simp) ?_
    refine AllReadyH.cons (o := { dst := some 101, op := .buildSlice 63 1 #[(0, .tmp 100)], type := 63, pos := "law.go:130", after := #[{ on := 2, ground := .data }], guard := none }) rfl (fun K hK => ?_) ?_
    · refine step_build1 rfl 101 rfl 100 rfl X0 ((put_else _ _ _ _ (by decide)).trans ((put_else _ _ _ _ (by decide)).trans (fb_100 a gs c X0 X1 X2 X3 hz))) (fun g0 W' hb hr hgn => ?_)
      have hB' := hB.trans (hb.mono hB.size)
      refine hK.out _ _ hB' (fun _ => ?_)
      rw [put_comm _ 113 101 _ _ (by decide)]
      rw [put_comm _ 109 101 _ _ (by decide)]
      exact k023 g0 g2 g3 W' hB' ⟨hr, Nat.le_trans hB.size hgn⟩ ⟨r2.1.below hb r2.1.lt, r2.2⟩ ⟨r3.1.below hb r3.1.lt, r3.2⟩ (fun e => by have := r2.1.lt; omega) (fun e => by have := r3.1.lt; omega) n23
    refine AllReadyH.cons (o := { dst := some 105, op := .buildSlice 63 1 #[(0, .tmp 104)], type := 63, pos := "law.go:130", after := #[{ on := 6, ground := .data }], guard := none }) rfl (fun K hK => ?_) ?_
    · refine step_build1 rfl 105 rfl 104 rfl X1 ((put_else _ _ _ _ (by decide)).trans ((put_else _ _ _ _ (by decide)).trans (fb_104 a gs c X0 X1 X2 X3 hz))) (fun g1 W' hb hr hgn => ?_)
      have hB' := hB.trans (hb.mono hB.size)
      refine hK.out _ _ hB' (fun _ => ?_)
      rw [put_comm _ 113 105 _ _ (by decide)]
      rw [put_comm _ 109 105 _ _ (by decide)]
      exact k123 g1 g2 g3 W' hB' ⟨hr, Nat.le_trans hB.size hgn⟩ ⟨r2.1.below hb r2.1.lt, r2.2⟩ ⟨r3.1.below hb r3.1.lt, r3.2⟩ (fun e => by have := r2.1.lt; omega) (fun e => by have := r3.1.lt; omega) n23
    exact AllReadyH.nil
  have k0 : ∀ (g0 : Nat) (W : World), Below w9.heap.size w9 W → (Row W g0 9 [.string X0] (0, 0) ∧ w9.heap.size ≤ g0) → wpAnyH Try.prog .any fourOps Q (fun wx => Below w9.heap.size w9 wx) 5 #[true, true, true, true, true, true, true, false, true, true, true, false, true, true, true, false, false, false] ((fb a gs c X0 X1 X2 X3).put (some 101) (.slice (some ⟨g0, 0, none⟩) 1 1)) W := by
    intro g0 W hB r0 
    refine wpAnyH_ready (rs := [7, 11, 15]) (by kernel_rfl) (by simp) ?_
    refine AllReadyH.cons (o := { dst := some 105, op := .buildSlice 63 1 #[(0, .tmp 104)], type := 63, pos := "law.go:130", after := #[{ on := 6, ground := .data }], guard := none }) rfl (fun K hK => ?_) ?_
    · refine step_build1 rfl 105 rfl 104 rfl X1 ((put_else _ _ _ _ (by decide)).trans (fb_104 a gs c X0 X1 X2 X3 hz)) (fun g1 W' hb hr hgn => ?_)
      have hB' := hB.trans (hb.mono hB.size)
      refine hK.out _ _ hB' (fun _ => ?_)
      exact k01 g0 g1 W' hB' ⟨r0.1.below hb r0.1.lt, r0.2⟩ ⟨hr, Nat.le_trans hB.size hgn⟩ (fun e => by have := r0.1.lt; omega)
    refine AllReadyH.cons (o := { dst := some 109, op := .buildSlice 63 1 #[(0, .tmp 108)], type := 63, pos := "law.go:130", after := #[{ on := 10, ground := .data }], guard := none }) rfl (fun K hK => ?_) ?_
    · refine step_build1 rfl 109 rfl 108 rfl X2 ((put_else _ _ _ _ (by decide)).trans (fb_108 a gs c X0 X1 X2 X3 hz)) (fun g2 W' hb hr hgn => ?_)
      have hB' := hB.trans (hb.mono hB.size)
      refine hK.out _ _ hB' (fun _ => ?_)
      exact k02 g0 g2 W' hB' ⟨r0.1.below hb r0.1.lt, r0.2⟩ ⟨hr, Nat.le_trans hB.size hgn⟩ (fun e => by have := r0.1.lt; omega)
    refine AllReadyH.cons (o := { dst := some 113, op := .buildSlice 63 1 #[(0, .tmp 112)], type := 63, pos := "law.go:130", after := #[{ on := 14, ground := .data }], guard := none }) rfl (fun K hK => ?_) ?_
    · refine step_build1 rfl 113 rfl 112 rfl X3 ((put_else _ _ _ _ (by decide)).trans (fb_112 a gs c X0 X1 X2 X3 hz)) (fun g3 W' hb hr hgn => ?_)
      have hB' := hB.trans (hb.mono hB.size)
      refine hK.out _ _ hB' (fun _ => ?_)
      exact k03 g0 g3 W' hB' ⟨r0.1.below hb r0.1.lt, r0.2⟩ ⟨hr, Nat.le_trans hB.size hgn⟩ (fun e => by have := r0.1.lt; omega)
    exact AllReadyH.nil
  have k1 : ∀ (g1 : Nat) (W : World), Below w9.heap.size w9 W → (Row W g1 9 [.string X1] (0, 0) ∧ w9.heap.size ≤ g1) → wpAnyH Try.prog .any fourOps Q (fun wx => Below w9.heap.size w9 wx) 5 #[true, true, true, false, true, true, true, true, true, true, true, false, true, true, true, false, false, false] ((fb a gs c X0 X1 X2 X3).put (some 105) (.slice (some ⟨g1, 0, none⟩) 1 1)) W := by
    intro g1 W hB r1 
    refine wpAnyH_ready (rs := [3, 11, 15]) (by kernel_rfl) (by simp) ?_
    refine AllReadyH.cons (o := { dst := some 101, op := .buildSlice 63 1 #[(0, .tmp 100)], type := 63, pos := "law.go:130", after := #[{ on := 2, ground := .data }], guard := none }) rfl (fun K hK => ?_) ?_
    · refine step_build1 rfl 101 rfl 100 rfl X0 ((put_else _ _ _ _ (by decide)).trans (fb_100 a gs c X0 X1 X2 X3 hz)) (fun g0 W' hb hr hgn => ?_)
      have hB' := hB.trans (hb.mono hB.size)
      refine hK.out _ _ hB' (fun _ => ?_)
      rw [put_comm _ 105 101 _ _ (by decide)]
      exact k01 g0 g1 W' hB' ⟨hr, Nat.le_trans hB.size hgn⟩ ⟨r1.1.below hb r1.1.lt, r1.2⟩ (fun e => by have := r1.1.lt; omega)
    refine AllReadyH.cons (o := { dst := some 109, op := .buildSlice 63 1 #[(0, .tmp 108)], type := 63, pos := "law.go:130", after := #[{ on := 10, ground := .data }], guard := none }) rfl (fun K hK => ?_) ?_
    · refine step_build1 rfl 109 rfl 108 rfl X2 ((put_else _ _ _ _ (by decide)).trans (fb_108 a gs c X0 X1 X2 X3 hz)) (fun g2 W' hb hr hgn => ?_)
      have hB' := hB.trans (hb.mono hB.size)
      refine hK.out _ _ hB' (fun _ => ?_)
      exact k12 g1 g2 W' hB' ⟨r1.1.below hb r1.1.lt, r1.2⟩ ⟨hr, Nat.le_trans hB.size hgn⟩ (fun e => by have := r1.1.lt; omega)
    refine AllReadyH.cons (o := { dst := some 113, op := .buildSlice 63 1 #[(0, .tmp 112)], type := 63, pos := "law.go:130", after := #[{ on := 14, ground := .data }], guard := none }) rfl (fun K hK => ?_) ?_
    · refine step_build1 rfl 113 rfl 112 rfl X3 ((put_else _ _ _ _ (by decide)).trans (fb_112 a gs c X0 X1 X2 X3 hz)) (fun g3 W' hb hr hgn => ?_)
      have hB' := hB.trans (hb.mono hB.size)
      refine hK.out _ _ hB' (fun _ => ?_)
      exact k13 g1 g3 W' hB' ⟨r1.1.below hb r1.1.lt, r1.2⟩ ⟨hr, Nat.le_trans hB.size hgn⟩ (fun e => by have := r1.1.lt; omega)
    exact AllReadyH.nil
  have k2 : ∀ (g2 : Nat) (W : World), Below w9.heap.size w9 W → (Row W g2 9 [.string X2] (0, 0) ∧ w9.heap.size ≤ g2) → wpAnyH Try.prog .any fourOps Q (fun wx => Below w9.heap.size w9 wx) 5 #[true, true, true, false, true, true, true, false, true, true, true, true, true, true, true, false, false, false] ((fb a gs c X0 X1 X2 X3).put (some 109) (.slice (some ⟨g2, 0, none⟩) 1 1)) W := by
    intro g2 W hB r2 
    refine wpAnyH_ready (rs := [3, 7, 15]) (by kernel_rfl) (by simp) ?_
    refine AllReadyH.cons (o := { dst := some 101, op := .buildSlice 63 1 #[(0, .tmp 100)], type := 63, pos := "law.go:130", after := #[{ on := 2, ground := .data }], guard := none }) rfl (fun K hK => ?_) ?_
    · refine step_build1 rfl 101 rfl 100 rfl X0 ((put_else _ _ _ _ (by decide)).trans (fb_100 a gs c X0 X1 X2 X3 hz)) (fun g0 W' hb hr hgn => ?_)
      have hB' := hB.trans (hb.mono hB.size)
      refine hK.out _ _ hB' (fun _ => ?_)
      rw [put_comm _ 109 101 _ _ (by decide)]
      exact k02 g0 g2 W' hB' ⟨hr, Nat.le_trans hB.size hgn⟩ ⟨r2.1.below hb r2.1.lt, r2.2⟩ (fun e => by have := r2.1.lt; omega)
    refine AllReadyH.cons (o := { dst := some 105, op := .buildSlice 63 1 #[(0, .tmp 104)], type := 63, pos := "law.go:130", after := #[{ on := 6, ground := .data }], guard := none }) rfl (fun K hK => ?_) ?_
    · refine step_build1 rfl 105 rfl 104 rfl X1 ((put_else _ _ _ _ (by decide)).trans (fb_104 a gs c X0 X1 X2 X3 hz)) (fun g1 W' hb hr hgn => ?_)
      have hB' := hB.trans (hb.mono hB.size)
      refine hK.out _ _ hB' (fun _ => ?_)
      rw [put_comm _ 109 105 _ _ (by decide)]
      exact k12 g1 g2 W' hB' ⟨hr, Nat.le_trans hB.size hgn⟩ ⟨r2.1.below hb r2.1.lt, r2.2⟩ (fun e => by have := r2.1.lt; omega)
    refine AllReadyH.cons (o := { dst := some 113, op := .buildSlice 63 1 #[(0, .tmp 112)], type := 63, pos := "law.go:130", after := #[{ on := 14, ground := .data }], guard := none }) rfl (fun K hK => ?_) ?_
    · refine step_build1 rfl 113 rfl 112 rfl X3 ((put_else _ _ _ _ (by decide)).trans (fb_112 a gs c X0 X1 X2 X3 hz)) (fun g3 W' hb hr hgn => ?_)
      have hB' := hB.trans (hb.mono hB.size)
      refine hK.out _ _ hB' (fun _ => ?_)
      exact k23 g2 g3 W' hB' ⟨r2.1.below hb r2.1.lt, r2.2⟩ ⟨hr, Nat.le_trans hB.size hgn⟩ (fun e => by have := r2.1.lt; omega)
    exact AllReadyH.nil
  have k3 : ∀ (g3 : Nat) (W : World), Below w9.heap.size w9 W → (Row W g3 9 [.string X3] (0, 0) ∧ w9.heap.size ≤ g3) → wpAnyH Try.prog .any fourOps Q (fun wx => Below w9.heap.size w9 wx) 5 #[true, true, true, false, true, true, true, false, true, true, true, false, true, true, true, true, false, false] ((fb a gs c X0 X1 X2 X3).put (some 113) (.slice (some ⟨g3, 0, none⟩) 1 1)) W := by
    intro g3 W hB r3 
    refine wpAnyH_ready (rs := [3, 7, 11]) (by kernel_rfl) (by simp) ?_
    refine AllReadyH.cons (o := { dst := some 101, op := .buildSlice 63 1 #[(0, .tmp 100)], type := 63, pos := "law.go:130", after := #[{ on := 2, ground := .data }], guard := none }) rfl (fun K hK => ?_) ?_
    · refine step_build1 rfl 101 rfl 100 rfl X0 ((put_else _ _ _ _ (by decide)).trans (fb_100 a gs c X0 X1 X2 X3 hz)) (fun g0 W' hb hr hgn => ?_)
      have hB' := hB.trans (hb.mono hB.size)
      refine hK.out _ _ hB' (fun _ => ?_)
      rw [put_comm _ 113 101 _ _ (by decide)]
      exact k03 g0 g3 W' hB' ⟨hr, Nat.le_trans hB.size hgn⟩ ⟨r3.1.below hb r3.1.lt, r3.2⟩ (fun e => by have := r3.1.lt; omega)
    refine AllReadyH.cons (o := { dst := some 105, op := .buildSlice 63 1 #[(0, .tmp 104)], type := 63, pos := "law.go:130", after := #[{ on := 6, ground := .data }], guard := none }) rfl (fun K hK => ?_) ?_
    · refine step_build1 rfl 105 rfl 104 rfl X1 ((put_else _ _ _ _ (by decide)).trans (fb_104 a gs c X0 X1 X2 X3 hz)) (fun g1 W' hb hr hgn => ?_)
      have hB' := hB.trans (hb.mono hB.size)
      refine hK.out _ _ hB' (fun _ => ?_)
      rw [put_comm _ 113 105 _ _ (by decide)]
      exact k13 g1 g3 W' hB' ⟨hr, Nat.le_trans hB.size hgn⟩ ⟨r3.1.below hb r3.1.lt, r3.2⟩ (fun e => by have := r3.1.lt; omega)
    refine AllReadyH.cons (o := { dst := some 109, op := .buildSlice 63 1 #[(0, .tmp 108)], type := 63, pos := "law.go:130", after := #[{ on := 10, ground := .data }], guard := none }) rfl (fun K hK => ?_) ?_
    · refine step_build1 rfl 109 rfl 108 rfl X2 ((put_else _ _ _ _ (by decide)).trans (fb_108 a gs c X0 X1 X2 X3 hz)) (fun g2 W' hb hr hgn => ?_)
      have hB' := hB.trans (hb.mono hB.size)
      refine hK.out _ _ hB' (fun _ => ?_)
      rw [put_comm _ 113 109 _ _ (by decide)]
      exact k23 g2 g3 W' hB' ⟨hr, Nat.le_trans hB.size hgn⟩ ⟨r3.1.below hb r3.1.lt, r3.2⟩ (fun e => by have := r3.1.lt; omega)
    exact AllReadyH.nil
  have k : ∀  (W : World), Below w9.heap.size w9 W → wpAnyH Try.prog .any fourOps Q (fun wx => Below w9.heap.size w9 wx) 6 #[true, true, true, false, true, true, true, false, true, true, true, false, true, true, true, false, false, false] (fb a gs c X0 X1 X2 X3) W := by
    intro  W hB  
    refine wpAnyH_ready (rs := [3, 7, 11, 15]) (by kernel_rfl) (by simp) ?_
    refine AllReadyH.cons (o := { dst := some 101, op := .buildSlice 63 1 #[(0, .tmp 100)], type := 63, pos := "law.go:130", after := #[{ on := 2, ground := .data }], guard := none }) rfl (fun K hK => ?_) ?_
    · refine step_build1 rfl 101 rfl 100 rfl X0 (fb_100 a gs c X0 X1 X2 X3 hz) (fun g0 W' hb hr hgn => ?_)
      have hB' := hB.trans (hb.mono hB.size)
      refine hK.out _ _ hB' (fun _ => ?_)
      exact k0 g0 W' hB' ⟨hr, Nat.le_trans hB.size hgn⟩
    refine AllReadyH.cons (o := { dst := some 105, op := .buildSlice 63 1 #[(0, .tmp 104)], type := 63, pos := "law.go:130", after := #[{ on := 6, ground := .data }], guard := none }) rfl (fun K hK => ?_) ?_
    · refine step_build1 rfl 105 rfl 104 rfl X1 (fb_104 a gs c X0 X1 X2 X3 hz) (fun g1 W' hb hr hgn => ?_)
      have hB' := hB.trans (hb.mono hB.size)
      refine hK.out _ _ hB' (fun _ => ?_)
      exact k1 g1 W' hB' ⟨hr, Nat.le_trans hB.size hgn⟩
    refine AllReadyH.cons (o := { dst := some 109, op := .buildSlice 63 1 #[(0, .tmp 108)], type := 63, pos := "law.go:130", after := #[{ on := 10, ground := .data }], guard := none }) rfl (fun K hK => ?_) ?_
    · refine step_build1 rfl 109 rfl 108 rfl X2 (fb_108 a gs c X0 X1 X2 X3 hz) (fun g2 W' hb hr hgn => ?_)
      have hB' := hB.trans (hb.mono hB.size)
      refine hK.out _ _ hB' (fun _ => ?_)
      exact k2 g2 W' hB' ⟨hr, Nat.le_trans hB.size hgn⟩
    refine AllReadyH.cons (o := { dst := some 113, op := .buildSlice 63 1 #[(0, .tmp 112)], type := 63, pos := "law.go:130", after := #[{ on := 14, ground := .data }], guard := none }) rfl (fun K hK => ?_) ?_
    · refine step_build1 rfl 113 rfl 112 rfl X3 (fb_112 a gs c X0 X1 X2 X3 hz) (fun g3 W' hb hr hgn => ?_)
      have hB' := hB.trans (hb.mono hB.size)
      refine hK.out _ _ hB' (fun _ => ?_)
      exact k3 g3 W' hB' ⟨hr, Nat.le_trans hB.size hgn⟩
    exact AllReadyH.nil
  exact four_taken a w9 gs c X0 X1 X2 X3 h10 hz hc hd hP (k w9.drew hd)

end Go.Proofs.Ytghmfodoojfadaa
