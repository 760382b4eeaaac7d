/-
  Rows of records cut, and joined.
-/
import Derived.Test.YtlhcacancnmhcaaDoorRecText
namespace Go.Proofs.YtlhcacancnmhcaaDoor
open Go.RowKit

theorem Tryd.szRec (w : World) : (sizeOf (Tryd.prog.elem 22)).run Tryd.prog w = .ok 2 w := by kernel_rfl
theorem Tryd.elRec : Tryd.prog.underlying 22 = some (.slice (Tryd.prog.elem 22)) := by kernel_rfl

theorem rec_from (A : Option Addr) (n c k : Nat) (hk : k ≤ n) : ∃ A' : Option Addr, (∀ w, (Instr.slice 22 (.slice A n c) (some (.int .i64 (k : Int))) none none).run Tryd.prog w = .ok (.slice A' (n - k) (c - k)) w) ∧ ∀ w l, l.length ≤ c → Recs w A l → Recs w A' (l.drop k) := by
  refine ⟨_, fun w => ?_, fun w l hl h => h.drop k c hl⟩
  rw [run_slice_l (w := w) 22 A n c Tryd.elRec .i64 (k : Int) (by omega) (by omega), Tryd.szRec]
  simp only [Result.andThen, sliced, Int.toNat_natCast]
theorem rec_upto (A : Option Addr) (n c k : Nat) (hk : k ≤ c) (w : World) : (Instr.slice 22 (.slice A n c) none (some (.int .i64 (k : Int))) none).run Tryd.prog w = .ok (.slice A k c) w := by
  rw [run_slice_h (w := w) 22 A n c Tryd.elRec .i64 (k : Int) (by omega) (by omega), Tryd.szRec]
  simp only [Result.andThen, sliced, Nat.zero_mul, Int.toNat_natCast, Nat.sub_zero]
  congr 2
  split
  · rfl
  · cases A with
    | none => rfl
    | some a => exact congrArg some (by cases a; simp [Addr.add])
theorem rec_between (A : Option Addr) (n c k h : Nat) (hk : k ≤ h) (hc : h ≤ c) : ∃ A' : Option Addr, (∀ w, (Instr.slice 22 (.slice A n c) (some (.int .i64 (k : Int))) (some (.int .i64 (h : Int))) none).run Tryd.prog w = .ok (.slice A' (h - k) (c - k)) w) ∧ ∀ w l, l.length ≤ c → Recs w A l → Recs w A' ((l.drop k).take (h - k)) := by
  refine ⟨_, fun w => ?_, fun w l hl hr => (hr.drop k c hl).take (h - k)⟩
  rw [run_slice_lh (w := w) 22 A n c Tryd.elRec .i64 .i64 (k : Int) (h : Int) (by omega) (by omega) (by omega), Tryd.szRec]
  simp only [Result.andThen, sliced, Int.toNat_natCast]

theorem recs_none {w : World} {l : List Rec} (h : Recs w none l) : l = [] := by
  cases l with
  | nil => rfl
  | cons r l => obtain ⟨g, off, hA, _⟩ := h.at_ 0 (by simp); cases hA
theorem recs_news {w : World} {ad : Addr} {l : List Rec} (h : Recs w (some ad) l) : ∀ j u, (recs l)[j]? = some u → w.cell? (ad.add j) = some u := by
  intro j u hu
  have hj : j < (recs l).length := (List.getElem?_eq_some_iff.1 hu).1
  rw [recs_length] at hj
  obtain ⟨g, off, hA, _, h1, h2⟩ := h.at_ (j / 2) (by omega)
  obtain rfl := Option.some.inj hA
  have hr := recs_at l (j / 2) (by omega)
  have hm : j % 2 = 0 ∨ j % 2 = 1 := by omega
  rw [Addr.add_lit]
  rcases hm with hm | hm
  · have e : j = j / 2 * 2 := by omega
    rw [e, hr.1] at hu
    rw [e]
    have e2 : j / 2 * 2 / 2 * 2 = j / 2 * 2 := by omega
    rw [← hu]
    exact h1
  · have e : j = j / 2 * 2 + 1 := by omega
    rw [e, hr.2] at hu
    rw [e, ← Nat.add_assoc, ← hu]
    exact h2
theorem recs_one : ∀ (l : List Rec), ∀ u ∈ recs l, u.oneCell' = true := by
  intro l u hu
  unfold recs at hu
  obtain ⟨r, _, h⟩ := List.mem_flatMap.1 hu
  exact recC_one r u h
theorem recs_app (a b : List Rec) : recs (a ++ b) = recs a ++ recs b := by simp [recs]

/-- Records of any row, put behind those of a row of the call's own. -/
theorem wpList_recs {ops : Array Oper} {rest : List Oper} {o : Oper} {a : Act} {Q : Exit → Act → World → Prop} {w w1 : World} {l : List Rec} {v : Value} (hgd : o.guard = none) (s x : Operand)
    (ho : o.op = .call { callee := .builtin .append, args := #[s, x], argTypes := #[22, 22] }) (hs : a.eval s = v) (hg : GrR w l v w1) (A : Option Addr) (r : List Rec) (n c : Nat) (hx : a.eval x = .slice A n c) (hn : r.length = n) (hr : Recs w1 A r) (hA : A = none → c = 0)
    (hle : l.length ≤ 1000000) (hle2 : n ≤ 1000000) (h : ∀ v' w2, GrR w (l ++ r) v' w2 → w1.grownBy w2 v.ownBlock → wpList Tryd.prog ops Q rest (a.put o.dst v') w2) : wpList Tryd.prog ops Q (o :: rest) a w1 := by
  obtain ⟨i0, hi0, hz0, hz1, hz2⟩ := info_parts Tryd.infoRec
  subst hn
  cases A with
  | none =>
    obtain rfl := recs_none hr
    obtain rfl := hA rfl
    refine wpList_plain hgd fun K hK => ?_
    have hrn := run_append_owned_none (P := Tryd.prog) (w := w1) w.heap.size 22 o.type 36 i0 2 Tryd.underlying22 hi0 v l.length (recs l) hg.1
    unfold Oper.wp execOp
    have hx' : a.eval x = .slice none 0 0 := hx
    simp only [ho, resolve, invoke, builtin, Sem.run_bind, Sem.run_pure, Result.andThen_ok, List.map_toArray, List.map_cons, List.map_nil, hs, hx', hrn]
    exact hK _ _ (h v w1 (by rw [List.append_nil]; exact hg) (only_refl w1 _))
  | some ad =>
    exact wpList_append_own_at w1 hgd s x 22 ho w.heap.size 36 i0 _ 2 24 Tryd.underlying22 hi0 hz0 hz1 hz2 rfl (by decide) v l.length (recs l) hs hg.1 ad r.length c (recs r) hx (recs_length r) (recs_news hr) (recs_one r) (by unfold maxLen; omega) (by omega) hg.2.size
      (fun v' w2 h1 h2 _ _ => h v' w2 ⟨by rw [recs_app, List.length_append]; exact h1, Below.grown hg.2 h2 hg.2.size (fun g hg2 => (hg.1.lt g hg2).1)⟩ h2)
end Go.Proofs.YtlhcacancnmhcaaDoor
