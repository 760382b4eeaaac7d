/-
  From a walk that returns true and leaves what was there, to the statement's row: arguments that are numbers and texts, opened; the arguments read as they did.
-/
import Derived.Test.YtamanckcnhhaiaaRows
import Derived.Test.YtamanckcnhhaiaaFabEnds
import Derived.ProofKit
import Derived.LaidMore
import Derived.OpenShut
import Derived.Stop.Joined
import Derived.Lib.SmallJoins
import Derived.Deep.Fields
import Derived.Deep.Slices
namespace Go.Proofs.Ytamanckcnhhaiaa
open Go.ChangeShapes Go.WideShapes Go.ChangeAt Go.RowKit Go.Joins Go.Deep

theorem Try.own : ownKnob Try.prog.godebug = none := by kernel_rfl
theorem Try.laidOut : laidOutB Try.prog = true := by kernel_rfl

section
variable {H : Type} {enc : TypeId × Value → H} {P : Program}

/-- What is read of old memory reads so behind a call that has turned nothing old. -/
theorem law_post {f : Func} {s : ChangeSpec} {apart fresh handsOn again : Bool} {W W' : World} {args : Array Value} {v : Value} {ds gs : List (DataW H)} {before pa pv : List MemPlace}
    (hW : DataW.Whole enc P f.params.toList s.vars apart W args.toList ds gs before)
    (hres : ∀ (b : Nat) (sp : Nat → Bool) (hd : Bool), DataW.TrodAll enc P W' b sp hd f.resultTypes.toList (v.resultList f.resultTypes.size) (s.fn H (ds ++ gs)).results [])
    (hargs : ∀ sp : Nat → Bool, (∀ p ∈ before, sp p.block = true) → DataW.TrodAll enc P W' 0 sp true f.params.toList args.toList (s.fn H (ds ++ gs)).args pa)
    (hvars : ∀ sp : Nat → Bool, (∀ p ∈ before, sp p.block = true) → DataW.TrodVars enc P W' sp s.vars (s.fn H (ds ++ gs)).vars pv)
    (hps : before = pa ++ pv) (hb : Below W.heap.size W W')
    (hok : ∀ (j : Nat) (t : TypeId) (r : Value), f.resultTypes[j]? = some t → (v.resultList f.resultTypes.size)[j]? = some r → Value.okWide P W' .any 0 t r) :
    s.post enc P f apart fresh handsOn again W args v W' := by
  have hlt : ∀ p ∈ before, p.block < W.heap.size := fun p hp => hW.lt p hp
  have hold : ∀ p ∈ before, (fun b => decide (b < W.heap.size)) p.block = true := fun p hp => by simpa using hlt p hp
  refine ⟨ds, gs, before, [], pa, pv, hW, hres _ _ _, hargs _ hold, hvars _ hold, World.keptBut_mono (fun p hp => ⟨hp, ?_⟩) (hb.frame (· ∈ before)), fun _ => ?_⟩
  · rw [hps, List.mem_append] at hp
    exact Or.inr hp
  · obtain ⟨_, _, _, _, _, hz, hn⟩ := hW
    refine ⟨hok, _, _, ([] ++ pa) ++ pv, ⟨[] ++ pa, pv, trodAll_append (hargs _ (fun _ _ => rfl)) (hres _ _ _), hvars _ (fun _ _ => rfl), rfl, ?_, ?_⟩, ?_⟩
    · intro b off hp
      have hin : MemPlace.cell b off ∈ before := by rw [hps]; simpa using hp
      rw [hb.frozen (hlt _ hin)]
      exact hz b off hin
    · intro ha
      have := hn ha
      rw [hps] at this
      simpa using this
    · intro p hp _
      rw [hps]
      simpa using hp

variable {w : World} {base : Nat} {spare : Nat → Bool} {held : Bool}


theorem strs_open {t e : TypeId} {fuel : Nat} {cs : List Value} {x : DataW H × List MemPlace} (ht : P.underlying t = some (.slice e)) (he : P.underlying e = some .string) (hC : P.cellsOf e = 1)
    (h : DataW.trod enc P w base spare held fuel t cs = some x) :
    cs = [.slice none 0 0] ∨ (∃ (a : Addr) (cap : Nat), cs = [.slice (some a) 0 cap] ∧ cap ≤ maxLen) ∨
    ∃ (b off len cap : Nat), cs = [.slice (some ⟨b, off, none⟩) len cap] ∧ 0 < len ∧ len ≤ cap ∧ cap ≤ maxLen ∧ b < w.heap.size ∧
      ∀ i, i < len → ∃ s : ByteArray, w.cell? ⟨b, off + i, none⟩ = some (.string s) ∧ s.size ≤ maxLen := by
  rcases open_slice ht h with ⟨h0, _⟩ | ⟨a, len, cap, m, n, D, Pl, hcs, hb, hl, hm, hmm, hx, hi⟩
  · exact .inl h0
  rcases Nat.eq_zero_or_pos len with h0 | h0
  · subst h0; exact .inr (.inl ⟨a, cap, hcs, hm⟩)
  have hlm : len ≤ m := by rw [hmm]; split <;> omega
  have hcell : ∀ i, i < len → ∃ s : ByteArray, w.cell? (a.add i) = some (.string s) ∧ s.size ≤ maxLen := by
    intro i hil
    obtain ⟨cs', hc, ht'⟩ := hi i (by omega)
    rw [hC] at hc
    obtain ⟨s, rfl, _, hw⟩ := DataW.trod_string he ht'
    obtain ⟨_, _, hat⟩ := World.cells?_some hc
    have := hat 0 (by decide)
    rw [Go.Deep.add_add, Nat.mul_one, Nat.add_zero] at this
    exact ⟨s, by rw [this]; rfl, hw⟩
  obtain ⟨v, hv, _⟩ := hcell 0 h0
  obtain ⟨b, off, spot⟩ := a
  have hspot : spot = none := by simpa [Addr.add] using World.cell?_spot hv
  subst hspot
  have hbl : b < w.heap.size := by
    rcases Nat.lt_or_ge b w.heap.size with hh | hh
    · exact hh
    · have e0 : w.heap[b]? = none := Array.getElem?_eq_none hh
      simp [World.cell?, Addr.add, e0] at hv
  refine .inr (.inr ⟨b, off, len, cap, hcs, h0, hl, hm, hbl, fun i hil => ?_⟩)
  obtain ⟨v, hv, hw⟩ := hcell i hil
  exact ⟨v, by rw [Go.WideShapes.add_plain] at hv; exact hv, hw⟩

end

/-- A choice for every place below n is a function. -/
theorem choose_below {α : Type} [Inhabited α] {n : Nat} {p : Nat → α → Prop} (h : ∀ i, i < n → ∃ a, p i a) : ∃ F : Nat → α, ∀ i, i < n → p i (F i) := by
  have h2 : ∀ i, ∃ a, i < n → p i a := fun i => by
    by_cases hi : i < n
    · obtain ⟨a, ha⟩ := h i hi
      exact ⟨a, fun _ => ha⟩
    · exact ⟨default, fun x => absurd x hi⟩
  exact ⟨fun i => Classical.choose (h2 i), fun i hi => Classical.choose_spec (h2 i) hi⟩


set_option maxRecDepth 100000 in
theorem int_arg {H : Type} {enc : TypeId × Value → H} {w : World} {r : Reach} {b0 base : Nat} {spare : Nat → Bool} {held : Bool} {v : Value} {d : DataW H} {p : List MemPlace} (hv : Value.okWide Try.prog w r b0 3 v)
    (h : DataW.Trod enc Try.prog w base spare held 3 v d p) : ∃ m : Int, v = .int .i64 m ∧ -9223372036854775808 ≤ m ∧ m ≤ 9223372036854775807 := by
  obtain ⟨n, rfl, hh⟩ := open_int Try.underlying3 hv h
  have hw : (Lit.int .i64 n).wf = true := by
    first | exact hh.2.2 | exact hh.2 | exact hh.1
  have hbd := bounds_i64 hw
  exact ⟨n, rfl, by omega, by omega⟩


instance : Inhabited ByteArray := ⟨⟨#[]⟩⟩

set_option maxRecDepth 100000 in
/-- Texts of an argument, opened. -/
theorem strs_cells {H : Type} {enc : TypeId × Value → H} {w : World} {base : Nat} {spare : Nat → Bool} {held : Bool} {fuel : Nat} {v : Value} {x : DataW H × List MemPlace} (h : DataW.trod enc Try.prog w base spare held fuel 22 [v] = some x) :
    ∃ (A : Option Addr) (c : Nat) (l : List ByteArray), v = .slice A l.length c ∧ l.length ≤ 9223372036854775807 ∧ Strs w A l ∧ ∀ t ∈ l, t.size ≤ 9223372036854775807 := by
  have hmx : maxLen ≤ 9223372036854775807 := by unfold maxLen; omega
  rcases strs_open Try.underlying22 Try.underlying9 (by kernel_rfl) h with h0 | ⟨a, cap, h0, hm⟩ | ⟨b, off, len, cap, h0, hpos, hl, hm, hb, hcell⟩
  · replace h0 := (List.cons.inj h0).1
    exact ⟨none, 0, [], h0, by simp, fun i hi => by simp at hi, fun t ht => by simp at ht⟩
  · replace h0 := (List.cons.inj h0).1
    exact ⟨some a, cap, [], h0, by simp, fun i hi => by simp at hi, fun t ht => by simp at ht⟩
  · replace h0 := (List.cons.inj h0).1
    obtain ⟨F, hF⟩ := choose_below hcell
    refine ⟨some ⟨b, off, none⟩, cap, (List.range len).map F, by rw [h0]; simp, by simp; omega, fun i hi => ⟨b, off, rfl, hb, ?_⟩, fun t ht => ?_⟩
    · have hi : i < len := by simpa using hi
      simp only [List.getElem_map, List.getElem_range]
      exact (hF i hi).1
    · obtain ⟨i, hi, rfl⟩ := List.mem_map.1 ht
      have := (hF i (List.mem_range.1 hi)).2
      omega
set_option maxRecDepth 100000 in
theorem strs_arg {H : Type} {enc : TypeId × Value → H} {w : World} {r : Reach} {b0 base : Nat} {spare : Nat → Bool} {held : Bool} {v : Value} {d : DataW H} {p : List MemPlace} (_hv : Value.okWide Try.prog w r b0 22 v)
    (h : DataW.Trod enc Try.prog w base spare held 22 v d p) : ∃ (A : Option Addr) (c : Nat) (l : List ByteArray), v = .slice A l.length c ∧ l.length ≤ 9223372036854775807 ∧ Strs w A l ∧ ∀ t ∈ l, t.size ≤ 9223372036854775807 := by
  obtain ⟨fuel, hf⟩ := h
  obtain ⟨q, n, c, rfl⟩ := okWide_slice Try.underlying22 _hv
  exact strs_cells hf

/-- FabricEnds, of any texts and any number. -/
theorem ends_any (A : Option Addr) (c : Nat) (l : List ByteArray) (other : Int) (W : World) (hs : Strs W A l) (hn : l.length ≤ 9223372036854775807) : Calls Try.prog 3 #[.slice A l.length c, .int .i64 other] W fun e w' => e = .returned (.bool true) ∧ Below W.heap.size W w' := by
  by_cases h : 70 < l.length ∨ other = 1
  · exact ends_off _ l.length c A other W rfl h hn
  · exact ends_on l.length c A l other W hs rfl (by omega) (fun e => h (.inr e))
end Go.Proofs.Ytamanckcnhhaiaa
