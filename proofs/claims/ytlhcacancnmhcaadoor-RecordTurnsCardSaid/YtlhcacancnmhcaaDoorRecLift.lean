/-
  From a walk that returns true and leaves what was there, to the statement's row: the table lies as the program's text lays it; records of an argument, opened; the arguments read as they did.
-/
import Derived.Test.YtlhcacancnmhcaaDoorRows
import Derived.Test.YtlhcacancnmhcaaDoorTie
import Derived.Test.YtlhcacancnmhcaaDoorRecLawA
import Derived.ProofKit
import Derived.LaidMore
import Derived.OpenShut
import Derived.Stop.Joined
import Derived.Lib.SmallJoins
import Derived.Deep.Fields
import Derived.Deep.Slices
namespace Go.Proofs.YtlhcacancnmhcaaDoor
open Go.ChangeShapes Go.WideShapes Go.ChangeAt Go.RowKit Go.Joins Go.Deep

theorem Tryd.own : ownKnob Tryd.prog.godebug = none := by kernel_rfl
theorem Tryd.laidOut : laidOutB Tryd.prog = true := by kernel_rfl
theorem Tryd.tTab : (Tryd.prog.globals[0]?).map (·.type) = some 85 := by kernel_rfl

/-- What the rows list. -/
def laidTab : List (String × DataW Unit) := Rows.recordTextRow.laid

/-- The table's name. -/
def tabName : String := (laidTab.map (·.1)).headD default
theorem Tryd.gTab : Tryd.prog.globalNamed tabName = some 0 := by kernel_rfl

/-- The door's own heap meets the condition: closed facts. -/
theorem door_met (os : Os) (args : Array Value) : laidMetH Tryd.prog laidTab ((World.doorLaid Tryd.prog 400 os).forCall (fun _ _ => 0) ⟨#[], args, []⟩).memory :=
  laidMetH_of_parts3 (fuel := 8) (laidMet_of_run' 8 (by kernel_rfl) (by kernel_rfl)) (by kernel_rfl) (by kernel_rfl)

theorem tab_row : ∀ i : Nat, i < 16 → ([0, 274646895, 549293790, 820201905, 1098587580, 1361435347, 1640403810, 1905808397, 2197175160, 2460548119, 2722870694, 2987750089, 3280807620, 3553878443, 3811616794, 4084100981] : List Int)[i]? = some ((tab4.getD i 0 : Nat) : Int) := by decide

/-- From the condition to the table's cells. -/
theorem tab_of_laid {W : World} (h : laidMetH Tryd.prog laidTab W) : Tab W := by
  rw [MakeChecks.laidMetH_plain _ _ _ (by kernel_rfl)] at h
  obtain ⟨ps, ⟨g0, t0, cs0, f0, p0, q0, hg0, ht0, hv0, hd0, _, _⟩, _, _⟩ := h
  obtain rfl := Option.some.inj (Tryd.gTab.symm.trans hg0)
  obtain rfl := Option.some.inj (Tryd.tTab.symm.trans ht0)
  obtain ⟨xs, m, rfl, hx, hlen, hn, hel⟩ := DataW.trod_array Tryd.underlying85 hd0
  have c1 : Tryd.prog.cellsOf 44 = 1 := by kernel_rfl
  have c16 : Tryd.prog.cellsOf 85 = 16 := by kernel_rfl
  rw [c16] at hlen
  rw [c1] at hel
  simp only [Prod.mk.injEq] at hx
  have hx1 : Rows.laid_lockkeeper_crc_effects = DataW.agg (xs.map (·.1)) := hx.1
  have hl : ([0, 274646895, 549293790, 820201905, 1098587580, 1361435347, 1640403810, 1905808397, 2197175160, 2460548119, 2722870694, 2987750089, 3280807620, 3553878443, 3811616794, 4084100981] : List Int).map (fun n => (DataW.lit (.int .u32 n) : DataW Unit)) = xs.map (·.1) := by
    have := hx1
    unfold Rows.laid_lockkeeper_crc_effects at this
    injection this
  intro i hi
  have h1 := hel i hi
  have hxi : xs[i]? = some (xs[i]'(by omega)) := List.getElem?_eq_getElem (by omega)
  rw [hxi] at h1
  obtain ⟨n, e1, e2, _⟩ := DataW.trod_int Tryd.underlying44 h1
  have h2 := congrArg (·[i]?) hl
  simp only [List.getElem?_map, tab_row i hi, hxi, Option.map_some, e2] at h2
  have hn : n = ((tab4.getD i 0 : Nat) : Int) := by
    have := Option.some.inj h2
    injection this with this
    injection this with _ this
    exact this.symm
  have hcell := World.var?_cell hg0 hv0 i
  rw [hcell]
  have hcs : cs0.toList[i]? = some (.int .u32 n) := by
    have e3 : (cs0.toList.drop (i * 1)).take 1 = [cs0.toList[i]'(by omega)] := by
      rw [Nat.mul_one, List.drop_eq_getElem_cons (by omega)]
      rfl
    rw [e3] at e1
    rw [List.getElem?_eq_getElem (by omega)]
    simp only [List.cons.injEq, and_true] at e1
    rw [e1]
  rw [← hn, ← hcs]
  simp

section
variable {H : Type} {enc : TypeId × Value → H} {P : Program}

/-- What is read of old memory reads so behind a call that has turned nothing old. -/
theorem law_post {f : Func} {s : ChangeSpec} {apart fresh handsOn again : Bool} {W W' : World} {args : Array Value} {v : Value} {ds gs : List (DataW H)} {before pa pv : List MemPlace}
    (hW : DataW.Whole enc P f.params.toList s.vars apart W args.toList ds gs before)
    (hres : ∀ (b : Nat) (sp : Nat → Bool) (hd : Bool), DataW.TrodAll enc P W' b sp hd f.resultTypes.toList (v.resultList f.resultTypes.size) (s.fn H (ds ++ gs)).results [])
    (hargs : ∀ sp : Nat → Bool, (∀ p ∈ before, sp p.block = true) → DataW.TrodAll enc P W' 0 sp true f.params.toList args.toList (s.fn H (ds ++ gs)).args pa)
    (hvars : ∀ sp : Nat → Bool, (∀ p ∈ before, sp p.block = true) → DataW.TrodVars enc P W' sp s.vars (s.fn H (ds ++ gs)).vars pv)
    (hps : before = pa ++ pv) (hb : Below W.heap.size W W')
    (hok : ∀ (j : Nat) (t : TypeId) (r : Value), f.resultTypes[j]? = some t → (v.resultList f.resultTypes.size)[j]? = some r → Value.okWide P W' .any 0 t r) :
    s.post enc P f apart fresh handsOn again W args v W' := by
  have hlt : ∀ p ∈ before, p.block < W.heap.size := fun p hp => hW.lt p hp
  have hold : ∀ p ∈ before, (fun b => decide (b < W.heap.size)) p.block = true := fun p hp => by simpa using hlt p hp
  refine ⟨ds, gs, before, [], pa, pv, hW, hres _ _ _, hargs _ hold, hvars _ hold, World.keptBut_mono (fun p hp => ⟨hp, ?_⟩) (hb.frame (· ∈ before)), fun _ => ?_⟩
  · rw [hps, List.mem_append] at hp
    exact Or.inr hp
  · obtain ⟨_, _, _, _, _, hz, hn⟩ := hW
    refine ⟨hok, _, _, ([] ++ pa) ++ pv, ⟨[] ++ pa, pv, trodAll_append (hargs _ (fun _ _ => rfl)) (hres _ _ _), hvars _ (fun _ _ => rfl), rfl, ?_, ?_⟩, ?_⟩
    · intro b off hp
      have hin : MemPlace.cell b off ∈ before := by rw [hps]; simpa using hp
      rw [hb.frozen (hlt _ hin)]
      exact hz b off hin
    · intro ha
      have := hn ha
      rw [hps] at this
      simpa using this
    · intro p hp _
      rw [hps]
      simpa using hp
end

section
variable {H : Type} {enc : TypeId × Value → H} {P : Program} {w : World} {base : Nat} {spare : Nat → Bool} {held : Bool}

theorem rows_open {t e : TypeId} {fs : Array Field} {fuel : Nat} {cs : List Value} {x : DataW H × List MemPlace} (ht : P.underlying t = some (.slice e)) (he : P.underlying e = some (.struct fs))
    (hone : oneCellFields P fs = true) (hC : P.cellsOf e = fs.size) (hpos : 0 < fs.size) (h : DataW.trod enc P w base spare held fuel t cs = some x) :
    cs = [.slice none 0 0] ∨ (∃ (a : Addr) (cap : Nat), cs = [.slice (some a) 0 cap] ∧ cap ≤ maxLen) ∨
    ∃ (b off len cap : Nat), cs = [.slice (some ⟨b, off, none⟩) len cap] ∧ 0 < len ∧ len ≤ cap ∧ cap ≤ maxLen ∧ b < w.heap.size ∧
      ∀ i, i < len → ∀ (j : Nat) (f : Field), fs[j]? = some f → ∃ (v : Value) (y : DataW H × List MemPlace) (n : Nat), w.cell? ⟨b, off + i * fs.size + j, none⟩ = some v ∧ DataW.trod enc P w base spare held n f.type [v] = some y := by
  rcases open_slice ht h with ⟨h0, _⟩ | ⟨a, len, cap, m, n, D, Pl, hcs, hb, hl, hm, hmm, hx, hi⟩
  · exact .inl h0
  rcases Nat.eq_zero_or_pos len with h0 | h0
  · subst h0; exact .inr (.inl ⟨a, cap, hcs, hm⟩)
  have hlm : len ≤ m := by rw [hmm]; split <;> omega
  have hcell : ∀ i, i < len → ∀ (j : Nat) (f : Field), fs[j]? = some f → ∃ (v : Value) (y : DataW H × List MemPlace) (k : Nat), w.cell? (a.add (i * fs.size + j)) = some v ∧ DataW.trod enc P w base spare held k f.type [v] = some y := by
    intro i hil j f hj
    obtain ⟨cs', hc, ht'⟩ := hi i (by omega)
    rw [hC] at hc
    obtain ⟨ys, n', hn', hy, hlen, hyl, hf⟩ := DataW.trod_struct he ht'
    obtain ⟨_, hcl, hat⟩ := World.cells?_some hc
    obtain ⟨ho, hk⟩ := hone_of hone j f hj
    have hjl : j < fs.size := (Array.getElem?_eq_some_iff.1 hj).1
    have hcj := hat j hjl
    have hv : cs'[j]? = some (cs'[j]'(by omega)) := List.getElem?_eq_getElem (by omega)
    have h1 := hf j f hj
    rw [ho, hk] at h1
    have e1 : (cs'.drop j).take 1 = [cs'[j]'(by omega)] := by
      rw [List.drop_eq_getElem_cons (by omega)]
      rfl
    rw [e1] at h1
    have hys : ys[j]? = some (ys[j]'(by omega)) := List.getElem?_eq_getElem (by omega)
    exact ⟨_, _, _, by rw [← Go.Deep.add_add, hcj, hv], h1.trans hys⟩
  obtain ⟨v, _, _, hv, _⟩ := hcell 0 h0 0 _ (Array.getElem?_eq_getElem hpos)
  obtain ⟨b, off, spot⟩ := a
  have hspot : spot = none := by simpa [Addr.add] using World.cell?_spot hv
  subst hspot
  have hbl : b < w.heap.size := by
    rcases Nat.lt_or_ge b w.heap.size with hh | hh
    · exact hh
    · have e0 : w.heap[b]? = none := Array.getElem?_eq_none hh
      simp [World.cell?, Addr.add, e0] at hv
  refine .inr (.inr ⟨b, off, len, cap, hcs, h0, hl, hm, hbl, fun i hil j f hj => ?_⟩)
  obtain ⟨v, y, k, hv, hy⟩ := hcell i hil j f hj
  exact ⟨v, y, k, by rw [Go.WideShapes.add_plain] at hv; rw [Nat.add_assoc]; exact hv, hy⟩
end

/-- A choice for every place below n is a function. -/
theorem choose_below {α : Type} [Inhabited α] {n : Nat} {p : Nat → α → Prop} (h : ∀ i, i < n → ∃ a, p i a) : ∃ F : Nat → α, ∀ i, i < n → p i (F i) := by
  have h2 : ∀ i, ∃ a, i < n → p i a := fun i => by
    by_cases hi : i < n
    · obtain ⟨a, ha⟩ := h i hi
      exact ⟨a, fun _ => ha⟩
    · exact ⟨default, fun x => absurd x hi⟩
  exact ⟨fun i => Classical.choose (h2 i), fun i hi => Classical.choose_spec (h2 i) hi⟩

/-- A row that has a cell is a row. -/
theorem row_of_cell {w : World} {b off : Nat} {v : Value} (h : w.cell? ⟨b, off, none⟩ = some v) : ∃ T cs m, Row w b T cs m := by
  unfold World.cell? at h
  split at h
  · rename_i c t m hb
    exact ⟨t, c.toList, m, by unfold Row; rw [Array.toArray_toList]; exact hb⟩
  · cases h

instance : Inhabited Rec := ⟨⟨0, []⟩⟩

/-- An argument of records, opened. -/
theorem recs_open {H : Type} {enc : TypeId × Value → H} {w : World} {base : Nat} {spare : Nat → Bool} {held : Bool} {fuel : Nat} {v : Value} {x : DataW H × List MemPlace} (h : DataW.trod enc Tryd.prog w base spare held fuel 22 [v] = some x) :
    ∃ (A : Option Addr) (n c : Nat) (l : List Rec), v = .slice A n c ∧ n ≤ c ∧ c ≤ 9223372036854775807 ∧ (A = none → c = 0) ∧ l.length = n ∧ Recs w A l := by
  have hmx : maxLen ≤ 9223372036854775807 := by unfold maxLen; omega
  rcases rows_open (cs := [v]) Tryd.underlying22 Tryd.underlying36 (by kernel_rfl) (by kernel_rfl) (by decide) h with h0 | ⟨a, cap, h0, hm⟩ | ⟨b, off, len, cap, h0, hpos, hl, hm, hb, hcell⟩
  · simp only [List.cons.injEq, and_true] at h0
    exact ⟨none, 0, 0, [], h0, Nat.le_refl _, by omega, fun _ => rfl, rfl, Recs.nil⟩
  · simp only [List.cons.injEq, and_true] at h0
    exact ⟨some a, 0, cap, [], h0, Nat.zero_le _, by omega, fun e => (by cases e), rfl, Recs.nil⟩
  · simp only [List.cons.injEq, and_true] at h0
    have hall : ∀ i, i < len → ∃ r : Rec, w.cell? ⟨b, off + i * 2, none⟩ = some (.int .u8 (r.k.toNat : Int)) ∧ w.cell? ⟨b, off + i * 2 + 1, none⟩ = some (.string (tb r.d)) := by
      intro i hi
      obtain ⟨v0, y0, n0, c0, t0⟩ := hcell i hi 0 _ rfl
      obtain ⟨v1, y1, n1, c1, t1⟩ := hcell i hi 1 _ rfl
      obtain ⟨x0, e0, _, w0⟩ := DataW.trod_int Tryd.underlying5 t0
      obtain ⟨x1, e1, _, w1⟩ := DataW.trod_string Tryd.underlying9 t1
      simp only [List.cons.injEq, and_true] at e0 e1
      subst e0 e1
      have b0 := bounds_u8 w0
      obtain ⟨q, rfl⟩ := Int.eq_ofNat_of_zero_le b0.1
      refine ⟨⟨UInt8.ofNat q, x1.data.toList⟩, ?_, ?_⟩
      · show _ = some (Value.int .u8 ((UInt8.ofNat q).toNat : Int))
        rw [UInt8.toNat_ofNat', Nat.mod_eq_of_lt (by omega)]
        exact c0
      · show _ = some (Value.string (tb x1.data.toList))
        rw [tb_of]
        exact c1
    obtain ⟨F, hF⟩ := choose_below hall
    refine ⟨some ⟨b, off, none⟩, len, cap, (List.range len).map F, h0, hl, by omega, fun e => (by cases e), by simp, ⟨fun i hi => ?_⟩⟩
    have hi2 : i < len := by simpa using hi
    obtain ⟨h1, h2⟩ := hF i hi2
    refine ⟨b, off, rfl, hb, ?_, ?_⟩
    · simp only [List.getElem_map, List.getElem_range]; exact h1
    · simp only [List.getElem_map, List.getElem_range]; exact h2

/-- An argument that is a text. -/
theorem text_open {H : Type} {enc : TypeId × Value → H} {w : World} {base : Nat} {spare : Nat → Bool} {held : Bool} {fuel : Nat} {v : Value} {x : DataW H × List MemPlace} (h : DataW.trod enc Tryd.prog w base spare held fuel 9 [v] = some x) :
    ∃ b : List UInt8, v = .string (tb b) ∧ b.length ≤ 9223372036854775807 := by
  obtain ⟨s, e, _, hs⟩ := DataW.trod_string Tryd.underlying9 h
  simp only [List.cons.injEq, and_true] at e
  unfold maxLen at hs
  refine ⟨s.data.toList, by rw [tb_of]; exact e, ?_⟩
  have : s.data.toList.length = s.size := rfl
  omega
end Go.Proofs.YtlhcacancnmhcaaDoor
