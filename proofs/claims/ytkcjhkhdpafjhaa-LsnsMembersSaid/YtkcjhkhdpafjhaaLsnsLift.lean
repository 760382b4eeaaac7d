/-
  From a walk that returns true and leaves what was there, to the statements' rows: arguments that are sets of numbers, opened; the arguments read as they did.
-/
import Derived.Test.YtkcjhkhdpafjhaaRows
import Derived.Test.YtkcjhkhdpafjhaaLsnsLaw
import Derived.ProofKit
import Derived.LaidMore
import Derived.OpenShut
import Derived.Stop.Joined
import Derived.Lib.SmallJoins
import Derived.Deep.Fields
import Derived.Deep.Slices
namespace Go.Proofs.Ytkcjhkhdpafjhaa
open Go.ChangeShapes Go.WideShapes Go.ChangeAt Go.RowKit Go.Joins Go.Deep

theorem row_of_cell' {w : World} {b off : Nat} {v : Value} (h : w.cell? ⟨b, off, none⟩ = some v) : ∃ T cs m, Row w b T cs m := by
  unfold World.cell? at h
  split at h
  · rename_i c t m hb
    exact ⟨t, c.toList, m, by unfold Row; rw [Array.toArray_toList]; exact hb⟩
  · cases h


theorem Try.own : ownKnob Try.prog.godebug = none := by kernel_rfl
theorem Try.laidOut : laidOutB Try.prog = true := by kernel_rfl

section
variable {H : Type} {enc : TypeId × Value → H} {P : Program}

/-- What is read of old memory reads so behind a call that has turned nothing old. -/
theorem law_post {f : Func} {s : ChangeSpec} {apart fresh handsOn again : Bool} {W W' : World} {args : Array Value} {v : Value} {ds gs : List (DataW H)} {before pa pv : List MemPlace}
    (hW : DataW.Whole enc P f.params.toList s.vars apart W args.toList ds gs before)
    (hres : ∀ (b : Nat) (sp : Nat → Bool) (hd : Bool), DataW.TrodAll enc P W' b sp hd f.resultTypes.toList (v.resultList f.resultTypes.size) (s.fn H (ds ++ gs)).results [])
    (hargs : ∀ sp : Nat → Bool, (∀ p ∈ before, sp p.block = true) → DataW.TrodAll enc P W' 0 sp true f.params.toList args.toList (s.fn H (ds ++ gs)).args pa)
    (hvars : ∀ sp : Nat → Bool, (∀ p ∈ before, sp p.block = true) → DataW.TrodVars enc P W' sp s.vars (s.fn H (ds ++ gs)).vars pv)
    (hps : before = pa ++ pv) (hb : Below W.heap.size W W')
    (hok : ∀ (j : Nat) (t : TypeId) (r : Value), f.resultTypes[j]? = some t → (v.resultList f.resultTypes.size)[j]? = some r → Value.okWide P W' .any 0 t r) :
    s.post enc P f apart fresh handsOn again W args v W' := by
  have hlt : ∀ p ∈ before, p.block < W.heap.size := fun p hp => hW.lt p hp
  have hold : ∀ p ∈ before, (fun b => decide (b < W.heap.size)) p.block = true := fun p hp => by simpa using hlt p hp
  refine ⟨ds, gs, before, [], pa, pv, hW, hres _ _ _, hargs _ hold, hvars _ hold, World.keptBut_mono (fun p hp => ⟨hp, ?_⟩) (hb.frame (· ∈ before)), fun _ => ?_⟩
  · rw [hps, List.mem_append] at hp
    exact Or.inr hp
  · obtain ⟨_, _, _, _, _, hz, hn⟩ := hW
    refine ⟨hok, _, _, ([] ++ pa) ++ pv, ⟨[] ++ pa, pv, trodAll_append (hargs _ (fun _ _ => rfl)) (hres _ _ _), hvars _ (fun _ _ => rfl), rfl, ?_, ?_⟩, ?_⟩
    · intro b off hp
      have hin : MemPlace.cell b off ∈ before := by rw [hps]; simpa using hp
      rw [hb.frozen (hlt _ hin)]
      exact hz b off hin
    · intro ha
      have := hn ha
      rw [hps] at this
      simpa using this
    · intro p hp _
      rw [hps]
      simpa using hp

variable {w : World} {base : Nat} {spare : Nat → Bool} {held : Bool}

theorem nums_open {t e : TypeId} {k : IntKind} {fuel : Nat} {cs : List Value} {x : DataW H × List MemPlace} (ht : P.underlying t = some (.slice e)) (he : P.underlying e = some (.int k)) (hC : P.cellsOf e = 1)
    (h : DataW.trod enc P w base spare held fuel t cs = some x) :
    cs = [.slice none 0 0] ∨ (∃ (a : Addr) (cap : Nat), cs = [.slice (some a) 0 cap] ∧ cap ≤ maxLen) ∨
    ∃ (b off len cap : Nat), cs = [.slice (some ⟨b, off, none⟩) len cap] ∧ 0 < len ∧ len ≤ cap ∧ cap ≤ maxLen ∧ b < w.heap.size ∧
      ∀ i, i < len → ∃ n : Int, w.cell? ⟨b, off + i, none⟩ = some (.int k n) ∧ (Lit.int k n).wf = true := by
  rcases open_slice ht h with ⟨h0, _⟩ | ⟨a, len, cap, m, n, D, Pl, hcs, hb, hl, hm, hmm, hx, hi⟩
  · exact .inl h0
  rcases Nat.eq_zero_or_pos len with h0 | h0
  · subst h0; exact .inr (.inl ⟨a, cap, hcs, hm⟩)
  have hlm : len ≤ m := by rw [hmm]; split <;> omega
  have hcell : ∀ i, i < len → ∃ n : Int, w.cell? (a.add i) = some (.int k n) ∧ (Lit.int k n).wf = true := by
    intro i hil
    obtain ⟨cs', hc, ht'⟩ := hi i (by omega)
    rw [hC] at hc
    obtain ⟨n', rfl, _, hw⟩ := DataW.trod_int he ht'
    obtain ⟨_, _, hat⟩ := World.cells?_some hc
    have := hat 0 (by decide)
    rw [Go.Deep.add_add, Nat.mul_one, Nat.add_zero] at this
    exact ⟨n', by rw [this]; rfl, hw⟩
  obtain ⟨v, hv, _⟩ := hcell 0 h0
  obtain ⟨b, off, spot⟩ := a
  have hspot : spot = none := by simpa [Addr.add] using World.cell?_spot hv
  subst hspot
  have hbl : b < w.heap.size := by
    rcases Nat.lt_or_ge b w.heap.size with hh | hh
    · exact hh
    · have e0 : w.heap[b]? = none := Array.getElem?_eq_none hh
      simp [World.cell?, Addr.add, e0] at hv
  refine .inr (.inr ⟨b, off, len, cap, hcs, h0, hl, hm, hbl, fun i hil => ?_⟩)
  obtain ⟨v, hv, hw⟩ := hcell i hil
  exact ⟨v, by rw [Go.WideShapes.add_plain] at hv; exact hv, hw⟩
end

/-- A choice for every place below n is a function. -/
theorem choose_below {α : Type} [Inhabited α] {n : Nat} {p : Nat → α → Prop} (h : ∀ i, i < n → ∃ a, p i a) : ∃ F : Nat → α, ∀ i, i < n → p i (F i) := by
  have h2 : ∀ i, ∃ a, i < n → p i a := fun i => by
    by_cases hi : i < n
    · obtain ⟨a, ha⟩ := h i hi
      exact ⟨a, fun _ => ha⟩
    · exact ⟨default, fun x => absurd x hi⟩
  exact ⟨fun i => Classical.choose (h2 i), fun i hi => Classical.choose_spec (h2 i) hi⟩

/-- Numbers of an argument, opened. -/
theorem list_open {H : Type} {enc : TypeId × Value → H} {w : World} {base : Nat} {spare : Nat → Bool} {held : Bool} {fuel : Nat} {v : Value} {x : DataW H × List MemPlace} (h : DataW.trod enc Try.prog w base spare held fuel 23 [v] = some x) :
    ∃ (A : Option Addr) (n c : Nat) (l : List Nat), v = .slice A n c ∧ n ≤ c ∧ c ≤ 9223372036854775807 ∧ (A = none → c = 0) ∧ l.length = n ∧ (∀ k ∈ l, k < 18446744073709551616) ∧ RN w A l := by
  have hmx : maxLen ≤ 9223372036854775807 := by unfold maxLen; omega
  rcases nums_open Try.underlying23 Try.underlying22 (by kernel_rfl) h with h0 | ⟨a, cap, h0, hm⟩ | ⟨b, off, len, cap, h0, hpos, hl, hm, hb, hcell⟩
  · simp only [List.cons.injEq, and_true] at h0
    exact ⟨none, 0, 0, [], h0, Nat.le_refl _, by omega, fun _ => rfl, rfl, (fun k hk => by cases hk), RN.nil⟩
  · simp only [List.cons.injEq, and_true] at h0
    exact ⟨some a, 0, cap, [], h0, Nat.zero_le _, by omega, (fun e => by cases e), rfl, (fun k hk => by cases hk), RN.nil⟩
  · simp only [List.cons.injEq, and_true] at h0
    obtain ⟨F, hF⟩ := choose_below hcell
    obtain ⟨T, cs, m, hr⟩ := row_of_cell' (hF 0 hpos).1
    refine ⟨some ⟨b, off, none⟩, len, cap, (List.range len).map fun i => (F i).toNat, h0, hl, by omega, (fun e => by cases e), by simp, fun k hk => ?_, fun _ => ⟨T, b, off, cs, m, rfl, hr, fun j hj => ?_⟩⟩
    · obtain ⟨i, hi, rfl⟩ := List.mem_map.1 hk
      have := bounds_u64 (hF i (List.mem_range.1 hi)).2
      omega
    · have hj : j < len := by simpa using hj
      obtain ⟨h1, hw⟩ := hF j hj
      have hbd := bounds_u64 hw
      rw [← hr.cell, h1, nv_get _ _ (by simpa using hj)]
      simp only [List.getElem_map, List.getElem_range, Option.some.injEq]
      congr 1
      omega

/-- A set of an argument, opened. -/
theorem lsns_open {H : Type} {enc : TypeId × Value → H} {w : World} {r : Reach} {b0 base : Nat} {spare : Nat → Bool} {held : Bool} {v : Value} {d : DataW H} {p : List MemPlace} (hv : Value.okWide Try.prog w r b0 25 v)
    (h : DataW.Trod enc Try.prog w base spare held 25 v d p) :
    ∃ x : LV, v = .agg #[.int .u64 (x.low : Int), .slice x.A x.n x.c] ∧ x.In w ∧ x.n ≤ 9223372036854775807 := by
  obtain ⟨c0, c1, y0, y1, m, rfl, rfl, rfl, hy0, hy1⟩ := open_agg2 Try.underlying25 (by kernel_rfl) (by kernel_rfl) hv h
  obtain ⟨n, e0, _, hw⟩ := DataW.trod_int Try.underlying22 hy0
  simp only [List.cons.injEq, and_true] at e0
  subst e0
  have hbd := bounds_u64 hw
  obtain ⟨A, k, c, l, rfl, hkc, hc, hnil, hl, hl64, hr⟩ := list_open hy1
  refine ⟨⟨n.toNat, A, k, c, l⟩, ?_, ⟨hl, hkc, hnil, by show n.toNat < _; omega, hl64, hr⟩, by show k ≤ _; omega⟩
  have e : ((n.toNat : Nat) : Int) = n := by omega
  simp only [e]
theorem slice_open {H : Type} {enc : TypeId × Value → H} {w : World} {r : Reach} {b0 base : Nat} {spare : Nat → Bool} {held : Bool} {v : Value} {d : DataW H} {p : List MemPlace} (hv : Value.okWide Try.prog w r b0 23 v)
    (h : DataW.Trod enc Try.prog w base spare held 23 v d p) :
    ∃ (A : Option Addr) (n c : Nat) (l : List Nat), v = .slice A n c ∧ n ≤ c ∧ c ≤ 9223372036854775807 ∧ (A = none → c = 0) ∧ l.length = n ∧ (∀ k ∈ l, k < 18446744073709551616) ∧ RN w A l := by
  obtain ⟨fuel, hf⟩ := h
  obtain ⟨q, n, c, rfl⟩ := okWide_slice Try.underlying23 hv
  exact list_open hf
theorem u64_open {H : Type} {enc : TypeId × Value → H} {w : World} {r : Reach} {b0 base : Nat} {spare : Nat → Bool} {held : Bool} {v : Value} {d : DataW H} {p : List MemPlace} (hv : Value.okWide Try.prog w r b0 22 v)
    (h : DataW.Trod enc Try.prog w base spare held 22 v d p) : ∃ m : Nat, v = .int .u64 (m : Int) ∧ m < 18446744073709551616 := by
  obtain ⟨n, rfl, hh⟩ := open_int Try.underlying22 hv h
  have hw : (Lit.int .u64 n).wf = true := by
    first | exact hh.2.2 | exact hh.2 | exact hh.1
  have hbd := bounds_u64 hw
  exact ⟨n.toNat, by congr 1; omega, by omega⟩

end Go.Proofs.Ytkcjhkhdpafjhaa
