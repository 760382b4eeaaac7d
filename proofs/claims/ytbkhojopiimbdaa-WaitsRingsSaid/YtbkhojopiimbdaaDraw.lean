/-
  A region that draws its order, by ONE schedule: what yields alike in every world that meets S is taken first; what turns the world (a writer) comes in a forced order, or in each of the orders that the schedule lists.
  S need not hold behind a writer that itself waits for all that is no writer (a last store).
-/
import Derived.StillTail
import Derived.Deep.RegionHeld3
namespace Go.Proofs.Ytbkhojopiimbdaa
open Go

section
variable {P : Program} {ops : Array Oper} {Q : Exit → Act → World → Prop} {md : Region.Mode} {S : World → Prop} {W : Nat → Bool}

/-- Number j waits for all that is no writer. -/
def lastB (md : Region.Mode) (ops : Array Oper) (W : Nat → Bool) (j : Nat) : Bool := (List.range ops.size).all fun i => W i || i == j || Region.waitsFor md ops j i

def wpAnyE (P : Program) (md : Region.Mode) (ops : Array Oper) (Q : Exit → Act → World → Prop) (S : World → Prop) (W : Nat → Bool) : Nat → Array Bool → Act → World → Prop
  | 0, listed, a, w => Region.ready md ops listed = [] ∧ Q .normal a w
  | fuel + 1, listed, a, w =>
    (Region.ready md ops listed = [] → Q .normal a w) ∧
    ∀ i ∈ Region.ready md ops listed, wpOp P ops Q i (fun a' w' => (lastB md ops W i = false → S w') ∧ wpAnyE P md ops Q S W fuel (listed.setIfInBounds i true) a' w') a w

theorem wpAny_of_E : ∀ (fuel : Nat) (listed : Array Bool) (a : Act) (w : World), wpAnyE P md ops Q S W fuel listed a w → wpAny P md ops Q fuel listed a w
  | 0, _, _, _, h => h
  | fuel + 1, _, _, _, h => ⟨h.1, fun i hi => wpOp_mono (fun a' w' h' => wpAny_of_E fuel _ a' w' h'.2) (h.2 i hi)⟩

theorem wpAnyE_first {i : Nat} {oi : Oper} {v : Value} (hW : W i = false) (hi : ops[i]? = some oi) (hsel : ∀ (j : Nat) (o : Oper) cs b, ops[j]? = some o → o.op ≠ .select cs b)
    (hQ : ∀ c a w, Q (.panic c) (a.put oi.dst v) w → Q (.panic c) a w) :
    ∀ (fuel : Nat) (listed : Array Bool) (a : Act) (w : World),
      (∀ j oj, ops[j]? = some oj → j ≠ i → listed.getD j true = false → (∀ e ∈ oj.after, Region.binds md e = true → e.on ≠ i) → oi.apart ops oj = true) →
      i ∈ Region.ready md ops listed → YieldsIf P ops S oi v a → S w →
      wpAnyE P md ops Q S W fuel (listed.setIfInBounds i true) (a.put oi.dst v) w → wpAnyE P md ops Q S W (fuel + 1) listed a w := by
  intro fuel
  induction fuel with
  | zero =>
    intro listed a w _ hr hy hS H
    refine ⟨fun h => (by rw [h] at hr; cases hr), fun j hj => ?_⟩
    by_cases hji : j = i
    · subst hji; exact hy.wpOp hi hS ⟨fun _ => hS, H⟩
    · have := ready_mono hj hji
      rw [H.1] at this
      cases this
  | succ fuel ih =>
    intro listed a w hfree hr hy hS H
    refine ⟨fun h => (by rw [h] at hr; cases hr), fun j hj => ?_⟩
    by_cases hji : j = i
    · subst hji; exact hy.wpOp hi hS ⟨fun _ => hS, H⟩
    · have h1 := H.2 j (ready_mono hj hji)
      obtain ⟨hjun, oj, hoj, hall⟩ := mem_ready.1 hj
      have hnot : ∀ e ∈ oj.after, Region.binds md e = true → e.on ≠ i := fun e he hb heq => by
        have h1 := hall e he hb
        rw [heq, getD_both (mem_ready.1 hr).1] at h1
        cases h1
      have hlast : lastB md ops W j = false := by
        cases hl : lastB md ops W j with
        | false => rfl
        | true =>
          have hin : i < ops.size := (Array.getElem?_eq_some_iff.1 hi).1
          have h2 := List.all_eq_true.1 hl i (List.mem_range.2 hin)
          simp only [hW, Bool.false_or, Bool.or_eq_true, beq_iff_eq] at h2
          rcases h2 with h2 | h2
          · exact absurd h2.symm hji
          · obtain ⟨o', ho', e, he, hb, hon⟩ := Region.waitsFor_spec h2
            have : o' = oj := Option.some.inj (ho'.symm.trans hoj)
            subst this
            exact absurd hon (hnot e he hb)
      have h2 := wpOp_putIf hoj (hfree j oj hoj hji hjun hnot) (fun cs b => hsel i oi cs b hi) (fun cs b => hsel j oj cs b hoj) hQ hy h1
      have hfree' : ∀ k ok, ops[k]? = some ok → k ≠ i → (listed.setIfInBounds j true).getD k true = false →
          (∀ e ∈ ok.after, Region.binds md e = true → e.on ≠ i) → oi.apart ops ok = true := fun k ok hk hki hun hno => by
        refine hfree k ok hk hki ?_ hno
        by_cases hjk : j = k
        · subst hjk; exact hjun
        · rw [getD_set_ne true hjk] at hun; exact hun
      refine wpOp_mono (fun a' w' h3 => ⟨fun _ => h3.2.1 hlast, ih (listed.setIfInBounds j true) a' w' hfree' (ready_mono hr (Ne.symm hji)) h3.1 (h3.2.1 hlast) ?_⟩) h2
      rw [Array.setIfInBounds_comm _ _ hji]
      exact h3.2.2

/-- A schedule: take one first; or each of these may come up. -/
inductive Sch where
  | done
  | take (k : Nat) (s : Sch)
  | fork (rs : List Nat) (f : Nat → Sch)
/-- One forced writer. -/
def Sch.run (k : Nat) (s : Sch) : Sch := .fork [k] fun _ => s
/-- Some are taken first. -/
def Sch.takes : List Nat → Sch → Sch
  | [], s => s
  | k :: ks, s => .take k (Sch.takes ks s)

def schB (md : Region.Mode) (ops : Array Oper) (W : Nat → Bool) : Sch → Nat → Array Bool → Bool
  | .done, _, listed => (Region.ready md ops listed).isEmpty
  | .take _ _, 0, _ => false
  | .take k s, n + 1, listed => !W k && (Region.ready md ops listed).contains k && Region.free md ops listed k && schB md ops W s n (listed.setIfInBounds k true)
  | .fork _ _, 0, _ => false
  | .fork rs f, n + 1, listed => !rs.isEmpty && decide (Region.ready md ops listed = rs) && rs.all fun k => schB md ops W (f k) n (listed.setIfInBounds k true)

def wpSch (P : Program) (md : Region.Mode) (ops : Array Oper) (Q : Exit → Act → World → Prop) (S : World → Prop) (W : Nat → Bool) : Sch → Act → World → Prop
  | .done, a, w => Q .normal a w
  | .take k s, a, w => ∃ o v, ops[k]? = some o ∧ YieldsIf P ops S o v a ∧ S w ∧ wpSch P md ops Q S W s (a.put o.dst v) w
  | .fork rs f, a, w => ∀ k ∈ rs, wpOp P ops Q k (fun a' w' => (lastB md ops W k = false → S w') ∧ wpSch P md ops Q S W (f k) a' w') a w

theorem wpAnyE_of_sch (hsel : ∀ (j : Nat) (o : Oper) cs b, ops[j]? = some o → o.op ≠ .select cs b) (hQ : ∀ c (a : Act) d v w, Q (.panic c) (a.put d v) w → Q (.panic c) a w) :
    ∀ (s : Sch) (fuel : Nat) (listed : Array Bool) (a : Act) (w : World), schB md ops W s fuel listed = true → wpSch P md ops Q S W s a w → wpAnyE P md ops Q S W fuel listed a w := by
  intro s
  induction s with
  | done =>
    intro fuel listed a w hB h
    have hr : Region.ready md ops listed = [] := by simpa [schB] using hB
    cases fuel with
    | zero => exact ⟨hr, h⟩
    | succ m => exact ⟨fun _ => h, by rw [hr]; simp⟩
  | take k s ih =>
    intro fuel listed a w hB h
    cases fuel with
    | zero => cases hB
    | succ n =>
      simp only [schB, Bool.and_eq_true, Bool.not_eq_true'] at hB
      obtain ⟨⟨⟨hW, hr⟩, hf⟩, hB'⟩ := hB
      obtain ⟨o, v, ho, hy, hS, h'⟩ := h
      exact wpAnyE_first hW ho hsel (fun c a w => hQ c a _ _ w) n listed a w (Region.free_spec ho hf) (by simpa using hr) hy hS (ih n _ _ _ hB' h')
  | fork rs f ih =>
    intro fuel listed a w hB h
    cases fuel with
    | zero => cases hB
    | succ n =>
      simp only [schB, Bool.and_eq_true, Bool.not_eq_true', decide_eq_true_eq, List.all_eq_true] at hB
      obtain ⟨⟨hne, hr⟩, hall⟩ := hB
      refine ⟨fun h0 => ?_, fun k hk => ?_⟩
      · rw [hr] at h0
        subst h0
        cases hne
      · rw [hr] at hk
        exact wpOp_mono (fun a' w' h' => ⟨h'.1, ih k n _ a' w' (hall k hk) h'.2⟩) (h k hk)

/-- A region that draws, by a schedule: from the world behind the draw. -/
theorem wp_region_sch {id : Nat} {a : Act} {w : World} (S : World → Prop) (W : Nat → Bool) (s : Sch) (hm : P.follows .mixedOrders = true)
    (hQ : ∀ c (a : Act) d v w, Q (.panic c) (a.put d v) w → Q (.panic c) a w)
    (hB : (Region.noSelect ops && schB .any ops W s ops.size (Array.replicate ops.size false)) = true) (h : wpSch P .any ops Q S W s a w.drew) : (Code.region id ops true).wp P Q a w := by
  simp only [Bool.and_eq_true] at hB
  exact wp_region_any hm (wpAny_of_E _ _ _ _ (wpAnyE_of_sch (Region.noSelect_spec hB.1) hQ s _ _ a _ hB.2 h))

section
variable {l : List Oper}
theorem sch_take {k : Nat} {s : Sch} {a : Act} {w : World} {o : Oper} {v : Value} (ho : l[k]? = some o) (hS : S w) (hw : Region.wanted o (yielded l.toArray a.tmps) = true) (hy : ∀ w, S w → (execOp a.eval o).run P w = .ok (.value v) w)
    (h : wpSch P md l.toArray Q S W s (a.put o.dst v) w) : wpSch P md l.toArray Q S W (.take k s) a w := ⟨o, v, by simpa using ho, .inl ⟨hw, hy⟩, hS, h⟩
theorem sch_pass {k : Nat} {s : Sch} {a : Act} {w : World} {o : Oper} (ho : l[k]? = some o) (hS : S w) (hw : Region.wanted o (yielded l.toArray a.tmps) = false)
    (h : wpSch P md l.toArray Q S W s (a.put o.dst undef) w) : wpSch P md l.toArray Q S W (.take k s) a w := ⟨o, undef, by simpa using ho, .inr ⟨hw, rfl⟩, hS, h⟩
theorem sch_run {k : Nat} {s : Sch} {a : Act} {w : World} {o : Oper} (ho : l[k]? = some o)
    (h : ∀ K : Act → World → Prop, Shut (∀ a w, (lastB md l.toArray W k = false → S w) → wpSch P md l.toArray Q S W s a w → K a w) → if Region.wanted o (yielded l.toArray a.tmps) = true then Oper.wp P o a w K Q else K (a.put o.dst undef) w) :
    wpSch P md l.toArray Q S W (Sch.run k s) a w := fun j hj => by
  obtain rfl : j = k := by simpa using hj
  exact wpOp_step (by simpa using ho) fun K hK => h K fun a w hS hs => hK a w ⟨hS, hs⟩
/-- The last writer: nothing is asked of the world behind it. -/
theorem sch_last {k : Nat} {s : Sch} {a : Act} {w : World} {o : Oper} (ho : l[k]? = some o) (hl : lastB md l.toArray W k = true)
    (h : ∀ K : Act → World → Prop, Shut (∀ a w, wpSch P md l.toArray Q S W s a w → K a w) → if Region.wanted o (yielded l.toArray a.tmps) = true then Oper.wp P o a w K Q else K (a.put o.dst undef) w) :
    wpSch P md l.toArray Q S W (Sch.run k s) a w := fun j hj => by
  obtain rfl : j = k := by simpa using hj
  exact wpOp_step (by simpa using ho) fun K hK => h K fun a w hs => hK a w ⟨fun h0 => (by rw [hl] at h0; cases h0), hs⟩
theorem sch_fork {k : Nat} {rs : List Nat} {f : Nat → Sch} {a : Act} {w : World} {o : Oper} (ho : l[k]? = some o)
    (h : ∀ K : Act → World → Prop, Shut (∀ a w, (lastB md l.toArray W k = false → S w) → wpSch P md l.toArray Q S W (f k) a w → K a w) → if Region.wanted o (yielded l.toArray a.tmps) = true then Oper.wp P o a w K Q else K (a.put o.dst undef) w)
    (hs : wpSch P md l.toArray Q S W (.fork rs f) a w) : wpSch P md l.toArray Q S W (.fork (k :: rs) f) a w := fun j hj => by
  rcases List.mem_cons.1 hj with rfl | hj
  · exact wpOp_step (by simpa using ho) fun K hK => h K fun a w hS hs => hK a w ⟨hS, hs⟩
  · exact hs j hj
end
theorem sch_fork_nil {f : Nat → Sch} {a : Act} {w : World} : wpSch P md ops Q S W (.fork [] f) a w := fun _ h => by cases h
theorem sch_done {a : Act} {w : World} (h : Q .normal a w) : wpSch P md ops Q S W .done a w := h
theorem sch_takes_nil {s : Sch} {a : Act} {w : World} (h : wpSch P md ops Q S W s a w) : wpSch P md ops Q S W (Sch.takes [] s) a w := h
theorem sch_takes_cons {k : Nat} {ks : List Nat} {s : Sch} {a : Act} {w : World} (h : wpSch P md ops Q S W (.take k (Sch.takes ks s)) a w) : wpSch P md ops Q S W (Sch.takes (k :: ks) s) a w := h
end
end Go.Proofs.Ytbkhojopiimbdaa
