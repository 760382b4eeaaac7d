/-
  From a walk that returns true and leaves what was there, to the statement's row: the table lies as the program's text lays it; bytes of an argument, opened; the arguments read as they did.
-/
import Derived.Test.YthfmhfddgmojaaaDoorRows
import Derived.Test.YthfmhfddgmojaaaDoorTie
import Derived.Test.YthfmhfddgmojaaaDoorCrcOdd
import Derived.ProofKit
import Derived.LaidMore
import Derived.OpenShut
import Derived.Stop.Joined
import Derived.Lib.SmallJoins
import Derived.Deep.Fields
import Derived.Deep.Slices
namespace Go.Proofs.YthfmhfddgmojaaaDoor
open Go.ChangeShapes Go.WideShapes Go.ChangeAt Go.RowKit Go.Joins Go.Deep

theorem Tryd.own : ownKnob Tryd.prog.godebug = none := by kernel_rfl
theorem Tryd.laidOut : laidOutB Tryd.prog = true := by kernel_rfl
theorem Tryd.tTab : (Tryd.prog.globals[0]?).map (·.type) = some 40 := by kernel_rfl

/-- What the rows list. -/
def laidTab : List (String × DataW Unit) := Rows.crcTellsRow.laid

/-- The table's name. -/
def tabName : String := (laidTab.map (·.1)).headD default
theorem Tryd.gTab : Tryd.prog.globalNamed tabName = some 0 := by kernel_rfl

/-- The door's own heap meets the condition: closed facts. -/
theorem door_met (os : Os) (args : Array Value) : laidMetH Tryd.prog laidTab ((World.doorLaid Tryd.prog 400 os).forCall (fun _ _ => 0) ⟨#[], args, []⟩).memory :=
  laidMetH_of_parts3 (fuel := 8) (laidMet_of_run' 8 (by kernel_rfl) (by kernel_rfl)) (by kernel_rfl) (by kernel_rfl)

theorem tab_row : ∀ i : Nat, i < 16 → ([0, 274646895, 549293790, 820201905, 1098587580, 1361435347, 1640403810, 1905808397, 2197175160, 2460548119, 2722870694, 2987750089, 3280807620, 3553878443, 3811616794, 4084100981] : List Int)[i]? = some ((tab4.getD i 0 : Nat) : Int) := by decide

/-- From the condition to the table's cells. -/
theorem tab_of_laid {W : World} (h : laidMetH Tryd.prog laidTab W) : Tab W := by
  rw [MakeChecks.laidMetH_plain _ _ _ (by kernel_rfl)] at h
  obtain ⟨ps, ⟨g0, t0, cs0, f0, p0, q0, hg0, ht0, hv0, hd0, _, _⟩, _, _⟩ := h
  obtain rfl := Option.some.inj (Tryd.gTab.symm.trans hg0)
  obtain rfl := Option.some.inj (Tryd.tTab.symm.trans ht0)
  obtain ⟨xs, m, rfl, hx, hlen, hn, hel⟩ := DataW.trod_array Tryd.underlying40 hd0
  have c1 : Tryd.prog.cellsOf 23 = 1 := by kernel_rfl
  have c16 : Tryd.prog.cellsOf 40 = 16 := by kernel_rfl
  rw [c16] at hlen
  rw [c1] at hel
  simp only [Prod.mk.injEq] at hx
  have hx1 : Rows.laid_lockkeeper_crc_effects = DataW.agg (xs.map (·.1)) := hx.1
  have hl : ([0, 274646895, 549293790, 820201905, 1098587580, 1361435347, 1640403810, 1905808397, 2197175160, 2460548119, 2722870694, 2987750089, 3280807620, 3553878443, 3811616794, 4084100981] : List Int).map (fun n => (DataW.lit (.int .u32 n) : DataW Unit)) = xs.map (·.1) := by
    have := hx1
    unfold Rows.laid_lockkeeper_crc_effects at this
    injection this
  intro i hi
  have h1 := hel i hi
  have hxi : xs[i]? = some (xs[i]'(by omega)) := List.getElem?_eq_getElem (by omega)
  rw [hxi] at h1
  obtain ⟨n, e1, e2, _⟩ := DataW.trod_int Tryd.underlying23 h1
  have h2 := congrArg (·[i]?) hl
  simp only [List.getElem?_map, tab_row i hi, hxi, Option.map_some, e2] at h2
  have hn : n = ((tab4.getD i 0 : Nat) : Int) := by
    have := Option.some.inj h2
    injection this with this
    injection this with _ this
    exact this.symm
  have hcell := World.var?_cell hg0 hv0 i
  rw [hcell]
  have hcs : cs0.toList[i]? = some (.int .u32 n) := by
    have e3 : (cs0.toList.drop (i * 1)).take 1 = [cs0.toList[i]'(by omega)] := by
      rw [Nat.mul_one, List.drop_eq_getElem_cons (by omega)]
      rfl
    rw [e3] at e1
    rw [List.getElem?_eq_getElem (by omega)]
    simp only [List.cons.injEq, and_true] at e1
    rw [e1]
  rw [← hn, ← hcs]
  simp

section
variable {H : Type} {enc : TypeId × Value → H} {P : Program}

/-- What is read of old memory reads so behind a call that has turned nothing old. -/
theorem law_post {f : Func} {s : ChangeSpec} {apart fresh handsOn again : Bool} {W W' : World} {args : Array Value} {v : Value} {ds gs : List (DataW H)} {before pa pv : List MemPlace}
    (hW : DataW.Whole enc P f.params.toList s.vars apart W args.toList ds gs before)
    (hres : ∀ (b : Nat) (sp : Nat → Bool) (hd : Bool), DataW.TrodAll enc P W' b sp hd f.resultTypes.toList (v.resultList f.resultTypes.size) (s.fn H (ds ++ gs)).results [])
    (hargs : ∀ sp : Nat → Bool, (∀ p ∈ before, sp p.block = true) → DataW.TrodAll enc P W' 0 sp true f.params.toList args.toList (s.fn H (ds ++ gs)).args pa)
    (hvars : ∀ sp : Nat → Bool, (∀ p ∈ before, sp p.block = true) → DataW.TrodVars enc P W' sp s.vars (s.fn H (ds ++ gs)).vars pv)
    (hps : before = pa ++ pv) (hb : Below W.heap.size W W')
    (hok : ∀ (j : Nat) (t : TypeId) (r : Value), f.resultTypes[j]? = some t → (v.resultList f.resultTypes.size)[j]? = some r → Value.okWide P W' .any 0 t r) :
    s.post enc P f apart fresh handsOn again W args v W' := by
  have hlt : ∀ p ∈ before, p.block < W.heap.size := fun p hp => hW.lt p hp
  have hold : ∀ p ∈ before, (fun b => decide (b < W.heap.size)) p.block = true := fun p hp => by simpa using hlt p hp
  refine ⟨ds, gs, before, [], pa, pv, hW, hres _ _ _, hargs _ hold, hvars _ hold, World.keptBut_mono (fun p hp => ⟨hp, ?_⟩) (hb.frame (· ∈ before)), fun _ => ?_⟩
  · rw [hps, List.mem_append] at hp
    exact Or.inr hp
  · obtain ⟨_, _, _, _, _, hz, hn⟩ := hW
    refine ⟨hok, _, _, ([] ++ pa) ++ pv, ⟨[] ++ pa, pv, trodAll_append (hargs _ (fun _ _ => rfl)) (hres _ _ _), hvars _ (fun _ _ => rfl), rfl, ?_, ?_⟩, ?_⟩
    · intro b off hp
      have hin : MemPlace.cell b off ∈ before := by rw [hps]; simpa using hp
      rw [hb.frozen (hlt _ hin)]
      exact hz b off hin
    · intro ha
      have := hn ha
      rw [hps] at this
      simpa using this
    · intro p hp _
      rw [hps]
      simpa using hp

variable {w : World} {base : Nat} {spare : Nat → Bool} {held : Bool}

/-- A slice of integers, opened: each element's cell. -/
theorem nums_open {t e : TypeId} {k : IntKind} {fuel : Nat} {cs : List Value} {x : DataW H × List MemPlace} (ht : P.underlying t = some (.slice e)) (he : P.underlying e = some (.int k)) (hC : P.cellsOf e = 1)
    (h : DataW.trod enc P w base spare held fuel t cs = some x) :
    cs = [.slice none 0 0] ∨ (∃ (a : Addr) (cap : Nat), cs = [.slice (some a) 0 cap] ∧ cap ≤ maxLen) ∨
    ∃ (b off len cap : Nat), cs = [.slice (some ⟨b, off, none⟩) len cap] ∧ 0 < len ∧ len ≤ cap ∧ cap ≤ maxLen ∧ b < w.heap.size ∧
      ∀ i, i < len → ∃ n : Int, w.cell? ⟨b, off + i, none⟩ = some (.int k n) ∧ (Lit.int k n).wf = true := by
  rcases open_slice ht h with ⟨h0, _⟩ | ⟨a, len, cap, m, n, D, Pl, hcs, hb, hl, hm, hmm, hx, hi⟩
  · exact .inl h0
  rcases Nat.eq_zero_or_pos len with h0 | h0
  · subst h0; exact .inr (.inl ⟨a, cap, hcs, hm⟩)
  have hlm : len ≤ m := by rw [hmm]; split <;> omega
  have hcell : ∀ i, i < len → ∃ n : Int, w.cell? (a.add i) = some (.int k n) ∧ (Lit.int k n).wf = true := by
    intro i hil
    obtain ⟨cs', hc, ht'⟩ := hi i (by omega)
    rw [hC] at hc
    obtain ⟨n', rfl, _, hw⟩ := DataW.trod_int he ht'
    obtain ⟨_, _, hat⟩ := World.cells?_some hc
    have := hat 0 (by decide)
    rw [Go.Deep.add_add, Nat.mul_one, Nat.add_zero] at this
    exact ⟨n', by rw [this]; rfl, hw⟩
  obtain ⟨v, hv, _⟩ := hcell 0 h0
  obtain ⟨b, off, spot⟩ := a
  have hspot : spot = none := by simpa [Addr.add] using World.cell?_spot hv
  subst hspot
  have hbl : b < w.heap.size := by
    rcases Nat.lt_or_ge b w.heap.size with hh | hh
    · exact hh
    · have e0 : w.heap[b]? = none := Array.getElem?_eq_none hh
      simp [World.cell?, Addr.add, e0] at hv
  refine .inr (.inr ⟨b, off, len, cap, hcs, h0, hl, hm, hbl, fun i hil => ?_⟩)
  obtain ⟨v, hv, hw⟩ := hcell i hil
  exact ⟨v, by rw [Go.WideShapes.add_plain] at hv; exact hv, hw⟩
end

/-- A choice for every place below n is a function. -/
theorem choose_below {α : Type} [Inhabited α] {n : Nat} {p : Nat → α → Prop} (h : ∀ i, i < n → ∃ a, p i a) : ∃ F : Nat → α, ∀ i, i < n → p i (F i) := by
  have h2 : ∀ i, ∃ a, i < n → p i a := fun i => by
    by_cases hi : i < n
    · obtain ⟨a, ha⟩ := h i hi
      exact ⟨a, fun _ => ha⟩
    · exact ⟨default, fun x => absurd x hi⟩
  exact ⟨fun i => Classical.choose (h2 i), fun i hi => Classical.choose_spec (h2 i) hi⟩

/-- A row that has a cell is a row. -/
theorem row_of_cell {w : World} {b off : Nat} {v : Value} (h : w.cell? ⟨b, off, none⟩ = some v) : ∃ T cs m, Row w b T cs m := by
  unfold World.cell? at h
  split at h
  · rename_i c t m hb
    exact ⟨t, c.toList, m, by unfold Row; rw [Array.toArray_toList]; exact hb⟩
  · cases h

/-- An argument of bytes, opened. -/
theorem bytes_open {H : Type} {enc : TypeId × Value → H} {w : World} {base : Nat} {spare : Nat → Bool} {held : Bool} {fuel : Nat} {v : Value} {x : DataW H × List MemPlace} (h : DataW.trod enc Tryd.prog w base spare held fuel 22 [v] = some x) :
    ∃ (A : Option Addr) (n c : Nat) (T : TypeId) (l : List UInt8), v = .slice A n c ∧ n ≤ c ∧ c ≤ 9223372036854775807 ∧ l.length = n ∧ Reads T w A l := by
  have hmx : maxLen ≤ 9223372036854775807 := by unfold maxLen; omega
  rcases nums_open Tryd.underlying22 Tryd.underlying5 (by kernel_rfl) h with h0 | ⟨a, cap, h0, hm⟩ | ⟨b, off, len, cap, h0, hpos, hl, hm, hb, hcell⟩
  · simp only [List.cons.injEq, and_true] at h0
    exact ⟨none, 0, 0, 0, [], h0, Nat.le_refl _, by omega, rfl, Reads.nil⟩
  · simp only [List.cons.injEq, and_true] at h0
    exact ⟨some a, 0, cap, 0, [], h0, Nat.zero_le _, by omega, rfl, Reads.nil⟩
  · simp only [List.cons.injEq, and_true] at h0
    obtain ⟨F, hF⟩ := choose_below hcell
    obtain ⟨T, cs, m, hr⟩ := row_of_cell (hF 0 hpos).1
    refine ⟨some ⟨b, off, none⟩, len, cap, T, (List.range len).map fun i => UInt8.ofNat (F i).toNat, h0, hl, by omega, by simp, fun _ => ⟨b, off, cs, m, rfl, hr, fun j hj => ?_⟩⟩
    have hj : j < len := by simpa using hj
    obtain ⟨h1, hw⟩ := hF j hj
    have hbd := bounds_u8 hw
    rw [← hr.cell, h1, byt_get _ _ (by simpa using hj)]
    simp only [List.getElem_map, List.getElem_range, UInt8.toNat_ofNat', Option.some.injEq]
    congr 1
    omega

end Go.Proofs.YthfmhfddgmojaaaDoor
