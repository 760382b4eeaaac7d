/-
  The walks over package fabric, part E: a message is taken out of the row.
-/
import Derived.Test.YtamanckcnhhaiaaFabAdd
namespace Go.Proofs.Ytamanckcnhhaiaa
open Go.RowKit

set_option maxRecDepth 100000 in
theorem ms_size (w : World) : (sizeOf (Try.prog.elem 38)).run Try.prog w = .ok 3 w := by kernel_rfl
theorem ms_from (A : Option Addr) (n c k : Nat) (hk : k ≤ n) (w : World) :
    (Instr.slice 38 (.slice A n c) (some (.int .i64 (k : Int))) none none).run Try.prog w = .ok (.slice (if c = k then A else A.map (·.add (k * 3))) (n - k) (c - k)) w := by
  rw [run_slice_l (w := w) 38 A n c Try.underlying38 .i64 (k : Int) (by omega) (by omega), ms_size]
  simp only [Result.andThen, sliced, Int.toNat_natCast]
theorem ms_upto (A : Option Addr) (n c k : Nat) (hk : k ≤ c) (w : World) :
    (Instr.slice 38 (.slice A n c) none (some (.int .i64 (k : Int))) none).run Try.prog w = .ok (.slice A k c) w := by
  rw [run_slice_h (w := w) 38 A n c Try.underlying38 .i64 (k : Int) (by omega) (by omega), ms_size]
  simp only [Result.andThen, sliced, Nat.zero_mul, Int.toNat_natCast, Nat.sub_zero]
  congr 2
  split
  · rfl
  · cases A with
    | none => rfl
    | some a => exact congrArg some (by cases a; simp [Addr.add])
theorem ms_between (A : Option Addr) (n c k h : Nat) (hk : k ≤ h) (hc : h ≤ c) (w : World) :
    (Instr.slice 38 (.slice A n c) (some (.int .i64 (k : Int))) (some (.int .i64 (h : Int))) none).run Try.prog w = .ok (.slice (if c = k then A else A.map (·.add (k * 3))) (h - k) (c - k)) w := by
  rw [run_slice_lh (w := w) 38 A n c Try.underlying38 .i64 .i64 (k : Int) (h : Int) (by omega) (by omega) (by omega), ms_size]
  simp only [Result.andThen, sliced, Int.toNat_natCast]
theorem ms_bound (A : Option Addr) (n c a b m : Nat) (h1 : a ≤ b) (h2 : b ≤ m) (h3 : m ≤ c) (w : World) :
    ∃ v, (Instr.slice 38 (.slice A n c) (some (.int .i64 (a : Int))) (some (.int .i64 (b : Int))) (some (.int .i64 (m : Int)))).run Try.prog w = .ok v w := by
  rw [run_slice_lhm (w := w) 38 _ n c Try.underlying38 .i64 .i64 .i64 (a : Int) (b : Int) (m : Int) (by omega) (by omega) (by omega) (by omega), ms_size]
  exact ⟨_, rfl⟩

/-- A message's zero. -/
def Z3 : List Value := [.int .i64 0, .int .i64 0, .string ⟨#[]⟩]
/-- The row behind the moving down. -/
def movL (cs : List Value) (l : List MB) (p : Nat) : List Value := cs.take (p * 3) ++ mR (l.drop (p + 1)) ++ cs.drop ((l.length - 1) * 3)
/-- The row behind the clearing. -/
def clrL (cs : List Value) (l : List MB) (p : Nat) : List Value := (movL cs l p).take ((l.length - 1) * 3) ++ Z3 ++ (movL cs l p).drop ((l.length - 1) * 3 + 3)

section
variable {w : World} {g c p : Nat} {l : List MB} {cs : List Value}
theorem movL_length (hp : p < l.length) (hc : l.length * 3 ≤ cs.length) : (movL cs l p).length = cs.length := by
  unfold movL
  rw [List.length_append, List.length_append, List.length_take, mR_length, List.length_drop, List.length_drop]
  omega
theorem clrL_length (hp : p < l.length) (hc : l.length * 3 ≤ cs.length) : (clrL cs l p).length = cs.length := by
  unfold clrL
  rw [List.length_append, List.length_append, List.length_take, List.length_drop, movL_length hp hc]
  show _ + 3 + _ = _
  omega
theorem row_take (_hc : l.length * 3 ≤ cs.length) (h : ∀ j, j < l.length * 3 → cs[j]? = (mR l)[j]?) : cs.take (l.length * 3) = mR l := by
  apply List.ext_getElem?
  intro j
  rw [List.getElem?_take]
  by_cases hj : j < l.length * 3
  · rw [if_pos hj, h j hj]
  · rw [if_neg hj, List.getElem?_eq_none (by rw [mR_length]; omega)]
theorem clrL_row (hp : p < l.length) (hc : l.length * 3 ≤ cs.length) (h : ∀ j, j < l.length * 3 → cs[j]? = (mR l)[j]?) : ∀ j, j < (l.eraseIdx p).length * 3 → (clrL cs l p)[j]? = (mR (l.eraseIdx p))[j]? := by
  intro j hj
  have hle : (l.eraseIdx p).length = l.length - 1 := by rw [List.length_eraseIdx, if_pos hp]
  rw [hle] at hj
  have e1 : cs.take (p * 3) = mR (l.take p) := by
    rw [← mR_take l p (by omega), ← row_take hc h, List.take_take, Nat.min_eq_left (by omega)]
  have hm := movL_length hp hc
  unfold clrL
  rw [List.append_assoc, List.getElem?_append_left (by rw [List.length_take, hm]; omega), List.getElem?_take, if_pos hj]
  unfold movL
  rw [e1, ← mR_app, ← List.eraseIdx_eq_take_drop_succ, List.getElem?_append_left (by rw [mR_length, hle]; exact hj)]
end

set_option maxRecDepth 100000 in
/-- s[:p] with what lies behind p's place put behind it. -/
theorem run_move (w : World) (ty : TypeId) (g c p n : Nat) (l : List MB) (cs : List Value) (hr : Row w g 44 cs (0, 0)) (hn : l.length = n) (hp : p < n) (hc : n ≤ c) (hcs : c * 3 ≤ cs.length) (h : ∀ j, j < l.length * 3 → cs[j]? = (mR l)[j]?) :
    (Builtin.append_ #[38, 38] ty #[.slice (some ⟨g, 0, none⟩) p c, .slice (if c = p + 1 then some ⟨g, 0, none⟩ else (some (⟨g, 0, none⟩ : Addr)).map (·.add ((p + 1) * 3))) (n - (p + 1)) (c - (p + 1))]).run Try.prog w
      = .ok (.slice (some ⟨g, 0, none⟩) (n - 1) c) (w.setRow g (movL cs l p).toArray) := by
  subst hn
  obtain ⟨i0, hi0, hz0, hz1, hz2⟩ := info_parts Try.infoMsg
  have hdl : (l.drop (p + 1)).length = l.length - (p + 1) := List.length_drop
  have hml : (mR (l.drop (p + 1))).length = (l.length - (p + 1)) * 3 := by rw [mR_length, hdl]
  obtain ⟨ad, had, hnews⟩ : ∃ ad : Addr, (if c = p + 1 then some (⟨g, 0, none⟩ : Addr) else (some (⟨g, 0, none⟩ : Addr)).map (·.add ((p + 1) * 3))) = some ad ∧ ∀ j u, (mR (l.drop (p + 1)))[j]? = some u → w.cell? (ad.add j) = some u := by
    by_cases e : c = p + 1
    · refine ⟨⟨g, 0, none⟩, if_pos e, fun j u hj => ?_⟩
      have : j < (mR (l.drop (p + 1))).length := (List.getElem?_eq_some_iff.1 hj).1
      rw [hml] at this
      omega
    · refine ⟨⟨g, (p + 1) * 3, none⟩, by rw [if_neg e]; simp [Addr.add_lit], fun j u hj => ?_⟩
      have hjl : j < (mR (l.drop (p + 1))).length := (List.getElem?_eq_some_iff.1 hj).1
      rw [hml] at hjl
      rw [Addr.add_lit, hr.cell, h _ (by omega), ← hj, ← mR_drop l (p + 1) (by omega), List.getElem?_drop]
  rw [had]
  have hf := run_firstCells_some (P := Try.prog) w i0.size (l.length - (p + 1)) ad (l.length - (p + 1)) (c - (p + 1)) (mR (l.drop (p + 1))) (by rw [hz1, hml]) hnews
  have hst := run_storeCells_at Try.prog g (p * 3) 44 (mR (l.drop (p + 1))) 0 cs.toArray w hr (by rw [hml]; simp; omega) (mR_one _)
  simp only [Nat.add_zero, hml] at hst
  have e0 : p + (l.length - (p + 1)) = l.length - 1 := by omega
  have e1 : p * 3 + (l.length - (p + 1)) * 3 = (l.length - 1) * 3 := by omega
  have hst2 : (storeCells ⟨g, p * 3, none⟩ (mR (l.drop (p + 1)))).run Try.prog w = .ok () (w.setRow g (movL cs l p).toArray) := by
    rw [hst, e1]
    rfl
  have hroom : p + (l.length - (p + 1)) ≤ c := by omega
  simp [Builtin.append_, run_underlying Try.underlying38, sizeOf, typeInfo, hi0, hz1, Builtin.lenOf, hroom, Addr.add_lit]
  rw [hz1] at hf
  simp [hf, hst2, e0]

set_option maxRecDepth 100000 in
theorem zero_msg (w : World) : (zeroValue 44).run Try.prog w = .ok (.agg #[.int .i64 0, .int .i64 0, .string ⟨#[]⟩]) w := by kernel_rfl
/-- clear of one message. -/
theorem run_clear_msg (w : World) (ty : TypeId) (g o c : Nat) (L : List Value) (hg : Row w g 44 L (0, 0)) (hfit : o + 3 ≤ L.length) :
    (Builtin.clear_ #[38] ty #[.slice (some ⟨g, o, none⟩) 1 c]).run Try.prog w = .ok (.tuple #[]) (w.setRow g (L.take o ++ Z3 ++ L.drop (o + 3)).toArray) := by
  have hst := run_storeCells_at Try.prog g o 44 Z3 0 L.toArray w hg (by unfold Z3; simpa using hfit) (by
    intro v hv
    unfold Z3 at hv
    simp only [List.mem_cons, List.not_mem_nil, or_false] at hv
    rcases hv with rfl | rfl | rfl <;> rfl)
  simp only [Nat.add_zero] at hst
  have hst2 : (storeCells ⟨g, o, none⟩ Z3).run Try.prog w = .ok () (w.setRow g (L.take o ++ Z3 ++ L.drop (o + 3)).toArray) := hst
  have hzc : (Builtin.zeroCells (Value.agg #[.int .i64 0, .int .i64 0, .string ⟨#[]⟩]).cells 1).toList = Z3 := by first | rfl | (simp [Builtin.zeroCells, Value.cells]; done) | (simp [Builtin.zeroCells, Value.cells]; rfl) | decide
  simp [Builtin.clear_, run_underlying Try.underlying38, hzc, hst2]

theorem step_app {w w' : World} {ops : Array Oper} {o : Oper} {a : Act} {K : Act → World → Prop} {Q : Exit → Act → World → Prop} {E : Prop} (hgd : o.guard = none) (sl x : Operand)
    (ho : o.op = .call { callee := .builtin .append, args := #[sl, x], argTypes := #[38, 38] }) (v1 v2 v3 : Value) (hs : a.eval sl = v1) (hx : a.eval x = v2)
    (hr : ∀ ty, (Builtin.append_ #[38, 38] ty #[v1, v2]).run Try.prog w = .ok v3 w') (h : K (a.put o.dst v3) w') :
    if Region.wanted o (yielded ops a.tmps) = true then Oper.wp Try.prog o a w K Q else E := by
  have hw : Region.wanted o (yielded ops a.tmps) = true := by simp [Region.wanted, hgd]
  rw [if_pos hw]
  unfold Oper.wp execOp
  simp only [ho, resolve, invoke, builtin, Sem.run_bind, Sem.run_pure, Result.andThen_ok, List.map_toArray, List.map_cons, List.map_nil, hs, hx, hr]
  exact h

set_option maxRecDepth 100000 in
set_option maxHeartbeats 4000000 in
/-- slices.Delete of one message. -/
theorem delete_any (w : World) (A : Option Addr) (l : List MB) (n c p : Nat) (h : MsO w A l c) (hn : l.length = n) (hp : p < n) (hnb : n ≤ 1000000) :
    Calls Try.prog 16 #[.slice A n c, .int .i64 (p : Int), .int .i64 ((p + 1 : Nat) : Int)] w fun e w' => e = .returned (.slice A (n - 1) c) ∧ MsO w' A (l.eraseIdx p) c ∧ Only (fun k => blk A = some k) w w' := by
  have hle := h.le
  obtain ⟨g, cs, rfl, hr, hcs, hget⟩ := h.row (by omega)
  have hcl2 : n * 3 ≤ cs.length := by omega
  subst hn
  have HFIN := Lib.hid (fun (w2 w3 : World) (h2 : w2 = w.drew.setRow g (movL cs l p).toArray) (h3 : w3 = w2.setRow g (clrL cs l p).toArray) => show MsO w3 (some ⟨g, 0, none⟩) (l.eraseIdx p) c ∧ Only (fun k => blk (some (⟨g, 0, none⟩ : Addr)) = some k) w w3 by
    have r2 : Row w2 g 44 (movL cs l p) (0, 0) := h2 ▸ hr.drew.setRow_
    have r3 : Row w3 g 44 (clrL cs l p) (0, 0) := h3 ▸ r2.setRow_
    refine ⟨⟨by rw [List.length_eraseIdx, if_pos hp]; omega, .inr ⟨g, _, rfl, r3, by rw [clrL_length hp hcl2]; exact hcs, clrL_row hp hcl2 hget⟩⟩, ?_⟩
    have o1 : Only (fun k => blk (some (⟨g, 0, none⟩ : Addr)) = some k) w w.drew := (Only.refl _ w).drew
    have s1 : ∀ (wx : World) (X : Array Value), Only (fun k => blk (some (⟨g, 0, none⟩ : Addr)) = some k) wx (wx.setRow g X) := fun wx X => ⟨rfl, rfl, rfl, by simp, fun k _ hk => setRow_other wx g k _ (fun e => hk (by simp [blk, e]))⟩
    rw [h3, h2]
    exact (o1.trans (s1 _ _)).trans (s1 _ _))
  have HMV := Lib.hid (fun ty => run_move w.drew ty g c p l.length l cs hr.drew rfl hp (by omega) hcs hget)
  have HCL := Lib.hid (fun ty w2 (h2 : w2 = w.drew.setRow g (movL cs l p).toArray) => run_clear_msg w2 ty g ((l.length - 1) * 3) (c - (l.length - 1)) (movL cs l p) (h2 ▸ hr.drew.setRow_) (by rw [movL_length hp hcl2]; omega))
  have hec : (movL cs l p).take ((l.length - 1) * 3) ++ Z3 ++ (movL cs l p).drop ((l.length - 1) * 3 + 3) = clrL cs l p := rfl
  simp only [hec] at HCL
  generalize movL cs l p = MV at *
  generalize clrL cs l p = CL at *
  obtain ⟨E, hE⟩ : ∃ E, l.eraseIdx p = E := ⟨_, rfl⟩
  rw [hE] at HFIN ⊢
  obtain ⟨n, hn⟩ : ∃ n, l.length = n := ⟨_, rfl⟩
  obtain ⟨m, hm⟩ : ∃ m, n - 1 = m := ⟨_, rfl⟩
  rw [hn] at hp hle hnb HMV HCL ⊢
  rw [hm] at HMV HCL ⊢
  have hmid := fun w => ms_bound (some ⟨g, 0, none⟩) n c p (p + 1) n (by omega) (by omega) (by omega) w
  obtain ⟨vF, hvF⟩ : ∃ vF : World → Value, ∀ w, (Instr.slice 38 (.slice (some ⟨g, 0, none⟩) n c) (some (.int .i64 (p : Int))) (some (.int .i64 ((p + 1 : Nat) : Int))) (some (.int .i64 (n : Int)))).run Try.prog w = .ok (vF w) w := ⟨fun w => Classical.choose (hmid w), fun w => Classical.choose_spec (hmid w)⟩
  have hup := fun w => ms_upto (some ⟨g, 0, none⟩) n c p (by omega) w
  have hfrom := fun w => ms_from (some ⟨g, 0, none⟩) n c (p + 1) (by omega) w
  have hbt := fun w => ms_between (some ⟨g, 0, none⟩) m c m n (by omega) (by omega) w
  have hbe : (if c = m then some (⟨g, 0, none⟩ : Addr) else (some (⟨g, 0, none⟩ : Addr)).map (·.add (m * 3))) = some ⟨g, m * 3, none⟩ := by rw [if_neg (by omega)]; simp [Addr.add_lit]
  rw [hbe, show n - m = 1 by omega] at hbt
  obtain ⟨q, hq⟩ : ∃ q, p + 1 = q := ⟨_, rfl⟩
  simp only [hq] at hvF hfrom HMV ⊢
  have hpq : ((p : Int) == (q : Int)) = false := beq_eq_false_iff_ne.2 (by omega)
  have i1 : (p : Int) ≤ (q : Int) := by omega
  have i2 : (q : Int) ≤ (n : Int) := by omega
  have HP := Lib.hid (show m ≤ n by omega)
  generalize (if c = q then some (⟨g, 0, none⟩ : Addr) else (some (⟨g, 0, none⟩ : Addr)).map (·.add (q * 3))) = A2 at *
  clear h hr hget hcs hcl2 hE hn hm hq hmid hp hbe hec
  go_enter Try.func16, Try.ntmps16
  go_wp2_with fail
  have hmv := HMV.out
  have hHeld : True := trivial
  refine wp_region_noPanic ?_
  refine wp_region_sch (fun _ => True) (fun i => [6].contains i)
    (.takes [0, 1, 2, 3, 4, 5] (.run 6 (.takes [7] .done))) (by kernel_rfl) (fun _ _ _ _ _ h => h) (by kernel_rfl) ?_
  skip
  iterate 6 (
    refine sch_takes_cons ?_
    first
      | (refine sch_take (v := ?_) rfl (by assumption) (by rfl) ?_ ?_; rotate_left; (focus (intro wy hSy; (try dsimp only at hSy); go_simp; (try with_reducible rfl))))
      | (refine sch_pass rfl (by assumption) (by rfl) ?_)
    simp only [Act.put, List.setIfInBounds_toArray, List.set_cons_zero, List.set_cons_succ])
  refine sch_takes_nil ?_
  refine sch_run rfl (fun K hK => ?_)
  refine step_app rfl (.tmp 22) (.tmp 25) rfl _ _ _ rfl rfl hmv ?_
  obtain ⟨w2, hw2⟩ : ∃ w2, w.drew.setRow g MV.toArray = w2 := ⟨_, rfl⟩
  rw [hw2]
  refine hK.out _ _ (fun _ => hHeld) ?_
  clear hK K
  try simp only [Act.put, List.setIfInBounds_toArray, List.set_cons_zero, List.set_cons_succ]
  refine sch_takes_cons ?_
  first
    | (refine sch_take (v := ?_) rfl (by assumption) (by rfl) ?_ ?_; rotate_left; (focus (intro wy hSy; (try dsimp only at hSy); go_simp; (try with_reducible rfl))))
    | (refine sch_pass rfl (by assumption) (by rfl) ?_)
  simp only [Act.put, List.setIfInBounds_toArray, List.set_cons_zero]
  refine sch_takes_nil ?_
  refine sch_done ?_
  refine NoPanic.normal ?_
  have hcl := fun ty => HCL.out ty w2 hw2.symm
  obtain ⟨w3, hw3⟩ : ∃ w3, w2.setRow g CL.toArray = w3 := ⟨_, rfl⟩
  simp only [hw3] at hcl
  have HE := Lib.hid (HFIN.out w2 w3 hw2.symm hw3.symm)
  have i3 : (m : Int) ≤ (n : Int) := by have := HP.out; omega
  clear hHeld hmv HFIN HCL hw2 hw3 HMV
  go_wp2_with fail
  go_ret
  exact ⟨rfl, HE.out⟩
end Go.Proofs.Ytamanckcnhhaiaa
