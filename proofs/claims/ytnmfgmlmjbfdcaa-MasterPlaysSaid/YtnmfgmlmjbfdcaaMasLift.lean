/-
  From a walk that returns true and leaves what was there, to the statements' rows: arguments that are texts, numbers, bytes, rows of them, acts, opened.
-/
import Derived.Test.YtnmfgmlmjbfdcaaRows
import Derived.Test.YtnmfgmlmjbfdcaaMasArgs
import Derived.ProofKit
import Derived.LaidMore
import Derived.OpenShut
import Derived.Stop.Joined
import Derived.Lib.SmallJoins
import Derived.Deep.Fields
import Derived.Deep.Slices
import Derived.ChangeMaps5
namespace Go.Proofs.Ytnmfgmlmjbfdcaa
open Go.ChangeShapes Go.WideShapes Go.ChangeAt Go.RowKit Go.Joins Go.Deep

theorem Try.own : ownKnob Try.prog.godebug = none := by kernel_rfl
theorem Try.laidOut : laidOutB Try.prog = true := by kernel_rfl

section
variable {H : Type} {enc : TypeId × Value → H} {P : Program}

/-- What is read of old memory reads so behind a call that has turned nothing old. -/
theorem law_post {f : Func} {s : ChangeSpec} {apart fresh handsOn again : Bool} {W W' : World} {args : Array Value} {v : Value} {ds gs : List (DataW H)} {before pa pv : List MemPlace}
    (hW : DataW.Whole enc P f.params.toList s.vars apart W args.toList ds gs before)
    (hres : ∀ (b : Nat) (sp : Nat → Bool) (hd : Bool), DataW.TrodAll enc P W' b sp hd f.resultTypes.toList (v.resultList f.resultTypes.size) (s.fn H (ds ++ gs)).results [])
    (hargs : ∀ sp : Nat → Bool, (∀ p ∈ before, sp p.block = true) → DataW.TrodAll enc P W' 0 sp true f.params.toList args.toList (s.fn H (ds ++ gs)).args pa)
    (hvars : ∀ sp : Nat → Bool, (∀ p ∈ before, sp p.block = true) → DataW.TrodVars enc P W' sp s.vars (s.fn H (ds ++ gs)).vars pv)
    (hps : before = pa ++ pv) (hb : Below W.heap.size W W')
    (hok : ∀ (j : Nat) (t : TypeId) (r : Value), f.resultTypes[j]? = some t → (v.resultList f.resultTypes.size)[j]? = some r → Value.okWide P W' .any 0 t r) :
    s.post enc P f apart fresh handsOn again W args v W' := by
  have hlt : ∀ p ∈ before, p.block < W.heap.size := fun p hp => hW.lt p hp
  have hold : ∀ p ∈ before, (fun b => decide (b < W.heap.size)) p.block = true := fun p hp => by simpa using hlt p hp
  refine ⟨ds, gs, before, [], pa, pv, hW, hres _ _ _, hargs _ hold, hvars _ hold, World.keptBut_mono (fun p hp => ⟨hp, ?_⟩) (hb.frame (· ∈ before)), fun _ => ?_⟩
  · rw [hps, List.mem_append] at hp
    exact Or.inr hp
  · obtain ⟨_, _, _, _, _, hz, hn⟩ := hW
    refine ⟨hok, _, _, ([] ++ pa) ++ pv, ⟨[] ++ pa, pv, trodAll_append (hargs _ (fun _ _ => rfl)) (hres _ _ _), hvars _ (fun _ _ => rfl), rfl, ?_, ?_⟩, ?_⟩
    · intro b off hp
      have hin : MemPlace.cell b off ∈ before := by rw [hps]; simpa using hp
      rw [hb.frozen (hlt _ hin)]
      exact hz b off hin
    · intro ha
      have := hn ha
      rw [hps] at this
      simpa using this
    · intro p hp _
      rw [hps]
      simpa using hp

variable {w : World} {base : Nat} {spare : Nat → Bool} {held : Bool}

theorem nums_open {t e : TypeId} {k : IntKind} {fuel : Nat} {cs : List Value} {x : DataW H × List MemPlace} (ht : P.underlying t = some (.slice e)) (he : P.underlying e = some (.int k)) (hC : P.cellsOf e = 1)
    (h : DataW.trod enc P w base spare held fuel t cs = some x) :
    cs = [.slice none 0 0] ∨ (∃ (a : Addr) (cap : Nat), cs = [.slice (some a) 0 cap] ∧ cap ≤ maxLen) ∨
    ∃ (b off len cap : Nat), cs = [.slice (some ⟨b, off, none⟩) len cap] ∧ 0 < len ∧ len ≤ cap ∧ cap ≤ maxLen ∧ b < w.heap.size ∧
      ∀ i, i < len → ∃ n : Int, w.cell? ⟨b, off + i, none⟩ = some (.int k n) ∧ (Lit.int k n).wf = true := by
  rcases open_slice ht h with ⟨h0, _⟩ | ⟨a, len, cap, m, n, D, Pl, hcs, hb, hl, hm, hmm, hx, hi⟩
  · exact .inl h0
  rcases Nat.eq_zero_or_pos len with h0 | h0
  · subst h0; exact .inr (.inl ⟨a, cap, hcs, hm⟩)
  have hlm : len ≤ m := by rw [hmm]; split <;> omega
  have hcell : ∀ i, i < len → ∃ n : Int, w.cell? (a.add i) = some (.int k n) ∧ (Lit.int k n).wf = true := by
    intro i hil
    obtain ⟨cs', hc, ht'⟩ := hi i (by omega)
    rw [hC] at hc
    obtain ⟨n', rfl, _, hw⟩ := DataW.trod_int he ht'
    obtain ⟨_, _, hat⟩ := World.cells?_some hc
    have := hat 0 (by decide)
    rw [Go.Deep.add_add, Nat.mul_one, Nat.add_zero] at this
    exact ⟨n', by rw [this]; rfl, hw⟩
  obtain ⟨v, hv, _⟩ := hcell 0 h0
  obtain ⟨b, off, spot⟩ := a
  have hspot : spot = none := by simpa [Addr.add] using World.cell?_spot hv
  subst hspot
  have hbl : b < w.heap.size := by
    rcases Nat.lt_or_ge b w.heap.size with hh | hh
    · exact hh
    · have e0 : w.heap[b]? = none := Array.getElem?_eq_none hh
      simp [World.cell?, Addr.add, e0] at hv
  refine .inr (.inr ⟨b, off, len, cap, hcs, h0, hl, hm, hbl, fun i hil => ?_⟩)
  obtain ⟨v, hv, hw⟩ := hcell i hil
  exact ⟨v, by rw [Go.WideShapes.add_plain] at hv; exact hv, hw⟩
end

section
variable {H : Type} {enc : TypeId × Value → H} {P : Program} {w : World} {base : Nat} {spare : Nat → Bool} {held : Bool}

theorem rows_open {t e : TypeId} {fs : Array Field} {fuel : Nat} {cs : List Value} {x : DataW H × List MemPlace} (ht : P.underlying t = some (.slice e)) (he : P.underlying e = some (.struct fs))
    (hone : oneCellFields P fs = true) (hC : P.cellsOf e = fs.size) (hpos : 0 < fs.size) (h : DataW.trod enc P w base spare held fuel t cs = some x) :
    cs = [.slice none 0 0] ∨ (∃ (a : Addr) (cap : Nat), cs = [.slice (some a) 0 cap] ∧ cap ≤ maxLen) ∨
    ∃ (b off len cap : Nat), cs = [.slice (some ⟨b, off, none⟩) len cap] ∧ 0 < len ∧ len ≤ cap ∧ cap ≤ maxLen ∧ b < w.heap.size ∧
      ∀ i, i < len → ∀ (j : Nat) (f : Field), fs[j]? = some f → ∃ (v : Value) (y : DataW H × List MemPlace) (n : Nat), w.cell? ⟨b, off + i * fs.size + j, none⟩ = some v ∧ DataW.trod enc P w base spare held n f.type [v] = some y := by
  rcases open_slice ht h with ⟨h0, _⟩ | ⟨a, len, cap, m, n, D, Pl, hcs, hb, hl, hm, hmm, hx, hi⟩
  · exact .inl h0
  rcases Nat.eq_zero_or_pos len with h0 | h0
  · subst h0; exact .inr (.inl ⟨a, cap, hcs, hm⟩)
  have hlm : len ≤ m := by rw [hmm]; split <;> omega
  have hcell : ∀ i, i < len → ∀ (j : Nat) (f : Field), fs[j]? = some f → ∃ (v : Value) (y : DataW H × List MemPlace) (k : Nat), w.cell? (a.add (i * fs.size + j)) = some v ∧ DataW.trod enc P w base spare held k f.type [v] = some y := by
    intro i hil j f hj
    obtain ⟨cs', hc, ht'⟩ := hi i (by omega)
    rw [hC] at hc
    obtain ⟨ys, n', hn', hy, hlen, hyl, hf⟩ := DataW.trod_struct he ht'
    obtain ⟨_, hcl, hat⟩ := World.cells?_some hc
    obtain ⟨ho, hk⟩ := hone_of hone j f hj
    have hjl : j < fs.size := (Array.getElem?_eq_some_iff.1 hj).1
    have hcj := hat j hjl
    have hv : cs'[j]? = some (cs'[j]'(by omega)) := List.getElem?_eq_getElem (by omega)
    have h1 := hf j f hj
    rw [ho, hk] at h1
    have e1 : (cs'.drop j).take 1 = [cs'[j]'(by omega)] := by
      rw [List.drop_eq_getElem_cons (by omega)]
      rfl
    rw [e1] at h1
    have hys : ys[j]? = some (ys[j]'(by omega)) := List.getElem?_eq_getElem (by omega)
    exact ⟨_, _, _, by rw [← Go.Deep.add_add, hcj, hv], h1.trans hys⟩
  obtain ⟨v, _, _, hv, _⟩ := hcell 0 h0 0 _ (Array.getElem?_eq_getElem hpos)
  obtain ⟨b, off, spot⟩ := a
  have hspot : spot = none := by simpa [Addr.add] using World.cell?_spot hv
  subst hspot
  have hbl : b < w.heap.size := by
    rcases Nat.lt_or_ge b w.heap.size with hh | hh
    · exact hh
    · have e0 : w.heap[b]? = none := Array.getElem?_eq_none hh
      simp [World.cell?, Addr.add, e0] at hv
  refine .inr (.inr ⟨b, off, len, cap, hcs, h0, hl, hm, hbl, fun i hil j f hj => ?_⟩)
  obtain ⟨v, y, k, hv, hy⟩ := hcell i hil j f hj
  exact ⟨v, y, k, by rw [Go.WideShapes.add_plain] at hv; rw [Nat.add_assoc]; exact hv, hy⟩
end

/-- A choice for every place below n is a function. -/
theorem choose_below {α : Type} [Inhabited α] {n : Nat} {p : Nat → α → Prop} (h : ∀ i, i < n → ∃ a, p i a) : ∃ F : Nat → α, ∀ i, i < n → p i (F i) := by
  have h2 : ∀ i, ∃ a, i < n → p i a := fun i => by
    by_cases hi : i < n
    · obtain ⟨a, ha⟩ := h i hi
      exact ⟨a, fun _ => ha⟩
    · exact ⟨default, fun x => absurd x hi⟩
  exact ⟨fun i => Classical.choose (h2 i), fun i hi => Classical.choose_spec (h2 i) hi⟩

section
variable {H : Type} {enc : TypeId × Value → H} {P : Program} {w : World} {base : Nat} {spare : Nat → Bool} {held : Bool}
theorem strs_open {t e : TypeId} {fuel : Nat} {cs : List Value} {x : DataW H × List MemPlace} (ht : P.underlying t = some (.slice e)) (he : P.underlying e = some .string) (hC : P.cellsOf e = 1)
    (h : DataW.trod enc P w base spare held fuel t cs = some x) :
    cs = [.slice none 0 0] ∨ (∃ (a : Addr) (cap : Nat), cs = [.slice (some a) 0 cap] ∧ cap ≤ maxLen) ∨
    ∃ (b off len cap : Nat), cs = [.slice (some ⟨b, off, none⟩) len cap] ∧ 0 < len ∧ len ≤ cap ∧ cap ≤ maxLen ∧ b < w.heap.size ∧
      ∀ i, i < len → ∃ s : ByteArray, w.cell? ⟨b, off + i, none⟩ = some (.string s) ∧ s.size ≤ maxLen := by
  rcases open_slice ht h with ⟨h0, _⟩ | ⟨a, len, cap, m, n, D, Pl, hcs, hb, hl, hm, hmm, hx, hi⟩
  · exact .inl h0
  rcases Nat.eq_zero_or_pos len with h0 | h0
  · subst h0; exact .inr (.inl ⟨a, cap, hcs, hm⟩)
  have hlm : len ≤ m := by rw [hmm]; split <;> omega
  have hcell : ∀ i, i < len → ∃ s : ByteArray, w.cell? (a.add i) = some (.string s) ∧ s.size ≤ maxLen := by
    intro i hil
    obtain ⟨cs', hc, ht'⟩ := hi i (by omega)
    rw [hC] at hc
    obtain ⟨s, rfl, _, hw⟩ := DataW.trod_string he ht'
    obtain ⟨_, _, hat⟩ := World.cells?_some hc
    have := hat 0 (by decide)
    rw [Go.Deep.add_add, Nat.mul_one, Nat.add_zero] at this
    exact ⟨s, by rw [this]; rfl, hw⟩
  obtain ⟨v, hv, _⟩ := hcell 0 h0
  obtain ⟨b, off, spot⟩ := a
  have hspot : spot = none := by simpa [Addr.add] using World.cell?_spot hv
  subst hspot
  have hbl : b < w.heap.size := by
    rcases Nat.lt_or_ge b w.heap.size with hh | hh
    · exact hh
    · have e0 : w.heap[b]? = none := Array.getElem?_eq_none hh
      simp [World.cell?, Addr.add, e0] at hv
  refine .inr (.inr ⟨b, off, len, cap, hcs, h0, hl, hm, hbl, fun i hil => ?_⟩)
  obtain ⟨v, hv, hw⟩ := hcell i hil
  exact ⟨v, by rw [Go.WideShapes.add_plain] at hv; exact hv, hw⟩

/-- A struct of four fields of one cell, by value: each field's own reading. -/
theorem four_fields {r : Reach} {b0 : Nat} {t : TypeId} {f0 f1 f2 f3 : Field} {v : Value} {d : DataW H} {p : List MemPlace} (hs : P.underlying t = some (.struct #[f0, f1, f2, f3])) (hone : oneCellFields P #[f0, f1, f2, f3] = true) (hC : P.cellsOf t = 4)
    (hv : Value.okWide P w r b0 t v) (h : DataW.Trod enc P w base spare held t v d p) :
    ∃ (v0 v1 v2 v3 : Value) (y0 y1 y2 y3 : DataW H × List MemPlace) (n : Nat), v = .agg #[v0, v1, v2, v3] ∧
      DataW.trod enc P w base spare held n f0.type [v0] = some y0 ∧ DataW.trod enc P w base spare held n f1.type [v1] = some y1 ∧ DataW.trod enc P w base spare held n f2.type [v2] = some y2 ∧ DataW.trod enc P w base spare held n f3.type [v3] = some y3 := by
  obtain ⟨cs, rfl, hsz⟩ := okWide_struct hs hv
  obtain ⟨l⟩ := cs
  match l, hsz.trans hC with
  | [c0, c1, c2, c3], _ =>
    obtain ⟨fuel, hf⟩ := h
    obtain ⟨xs, n, _, _, _, hlen, hg⟩ := DataW.trod_struct hs hf
    obtain ⟨o0, k0⟩ := hone_of hone 0 f0 rfl
    obtain ⟨o1, k1⟩ := hone_of hone 1 f1 rfl
    obtain ⟨o2, k2⟩ := hone_of hone 2 f2 rfl
    obtain ⟨o3, k3⟩ := hone_of hone 3 f3 rfl
    match xs, hlen with
    | [y0, y1, y2, y3], _ =>
      exact ⟨c0, c1, c2, c3, y0, y1, y2, y3, n, rfl, by simpa [Value.cells, o0, k0] using hg 0 f0 rfl, by simpa [Value.cells, o1, k1] using hg 1 f1 rfl, by simpa [Value.cells, o2, k2] using hg 2 f2 rfl, by simpa [Value.cells, o3, k3] using hg 3 f3 rfl⟩
end

instance : Inhabited ByteArray := ⟨⟨#[]⟩⟩

set_option maxRecDepth 100000 in
/-- Texts of an argument, opened. -/
theorem strs_cells {H : Type} {enc : TypeId × Value → H} {w : World} {base : Nat} {spare : Nat → Bool} {held : Bool} {fuel : Nat} {v : Value} {x : DataW H × List MemPlace} (h : DataW.trod enc Try.prog w base spare held fuel 68 [v] = some x) :
    ∃ (A : Option Addr) (c : Nat) (l : List ByteArray), v = .slice A l.length c ∧ l.length ≤ 9223372036854775807 ∧ Strs w A l ∧ ∀ t ∈ l, t.size ≤ 9223372036854775807 := by
  have hmx : maxLen ≤ 9223372036854775807 := by unfold maxLen; omega
  rcases strs_open Try.underlying68 Try.underlying9 (by kernel_rfl) h with h0 | ⟨a, cap, h0, hm⟩ | ⟨b, off, len, cap, h0, hpos, hl, hm, hb, hcell⟩
  · replace h0 := (List.cons.inj h0).1
    exact ⟨none, 0, [], h0, by simp, fun i hi => by simp at hi, fun t ht => by simp at ht⟩
  · replace h0 := (List.cons.inj h0).1
    exact ⟨some a, cap, [], h0, by simp, fun i hi => by simp at hi, fun t ht => by simp at ht⟩
  · replace h0 := (List.cons.inj h0).1
    obtain ⟨F, hF⟩ := choose_below hcell
    refine ⟨some ⟨b, off, none⟩, cap, (List.range len).map F, by rw [h0]; simp, by simp; omega, fun i hi => ⟨b, off, rfl, hb, ?_⟩, fun t ht => ?_⟩
    · have hi : i < len := by simpa using hi
      simp only [List.getElem_map, List.getElem_range]
      exact (hF i hi).1
    · obtain ⟨i, hi, rfl⟩ := List.mem_map.1 ht
      have := (hF i (List.mem_range.1 hi)).2
      omega
set_option maxRecDepth 100000 in
theorem strs_arg {H : Type} {enc : TypeId × Value → H} {w : World} {r : Reach} {b0 base : Nat} {spare : Nat → Bool} {held : Bool} {v : Value} {d : DataW H} {p : List MemPlace} (_hv : Value.okWide Try.prog w r b0 68 v)
    (h : DataW.Trod enc Try.prog w base spare held 68 v d p) : ∃ (A : Option Addr) (c : Nat) (l : List ByteArray), v = .slice A l.length c ∧ l.length ≤ 9223372036854775807 ∧ Strs w A l ∧ ∀ t ∈ l, t.size ≤ 9223372036854775807 := by
  obtain ⟨fuel, hf⟩ := h
  obtain ⟨q, n, c, rfl⟩ := okWide_slice Try.underlying68 _hv
  exact strs_cells hf

set_option maxRecDepth 100000 in
/-- Numbers of an argument, opened. -/
theorem keep_open {H : Type} {enc : TypeId × Value → H} {w : World} {base : Nat} {spare : Nat → Bool} {held : Bool} {fuel : Nat} {v : Value} {x : DataW H × List MemPlace} (h : DataW.trod enc Try.prog w base spare held fuel 54 [v] = some x) :
    ∃ (A : Option Addr) (n c : Nat) (l : List Nat), v = .slice A n c ∧ n ≤ c ∧ Old w A n l := by
  have hmx : maxLen ≤ 9223372036854775807 := by unfold maxLen; omega
  rcases nums_open Try.underlying54 Try.underlying22 (by kernel_rfl) h with h0 | ⟨a, cap, h0, hm⟩ | ⟨b, off, len, cap, h0, hpos, hl, hm, hb, hcell⟩
  · simp only [List.cons.injEq, and_true] at h0
    exact ⟨none, 0, 0, [], h0, Nat.zero_le _, rfl, by omega, ⟨fun i hi => by simp at hi, fun k hk => by cases hk⟩, fun h => by omega⟩
  · simp only [List.cons.injEq, and_true] at h0
    exact ⟨some a, 0, cap, [], h0, Nat.zero_le _, rfl, by omega, ⟨fun i hi => by simp at hi, fun k hk => by cases hk⟩, fun h => by omega⟩
  · simp only [List.cons.injEq, and_true] at h0
    obtain ⟨F, hF⟩ := choose_below hcell
    refine ⟨some ⟨b, off, none⟩, len, cap, (List.range len).map fun i => (F i).toNat, h0, hl, by simp, by omega, ⟨fun i hi => ⟨b, off, rfl, ?_⟩, fun k hk => ?_⟩, fun _ g o e => ?_⟩
    · have hi : i < len := by simpa using hi
      obtain ⟨h1, hw⟩ := hF i hi
      have hbd := bounds_u64 hw
      rw [h1]
      simp only [List.getElem_map, List.getElem_range, Option.some.injEq]
      congr 1
      omega
    · obtain ⟨i, hi, rfl⟩ := List.mem_map.1 hk
      have := bounds_u64 (hF i (List.mem_range.1 hi)).2
      omega
    · simp only [Option.some.injEq, Addr.mk.injEq] at e
      omega
set_option maxRecDepth 100000 in
theorem nums_argc {H : Type} {enc : TypeId × Value → H} {w : World} {r : Reach} {b0 base : Nat} {spare : Nat → Bool} {held : Bool} {v : Value} {d : DataW H} {p : List MemPlace} (hv : Value.okWide Try.prog w r b0 54 v)
    (h : DataW.Trod enc Try.prog w base spare held 54 v d p) : ∃ (A : Option Addr) (n c : Nat) (l : List Nat), v = .slice A n c ∧ n ≤ c ∧ Old w A n l := by
  obtain ⟨fuel, hf⟩ := h
  obtain ⟨q, n, c, rfl⟩ := okWide_slice Try.underlying54 hv
  exact keep_open hf
set_option maxRecDepth 100000 in
theorem int_arg {H : Type} {enc : TypeId × Value → H} {w : World} {r : Reach} {b0 base : Nat} {spare : Nat → Bool} {held : Bool} {v : Value} {d : DataW H} {p : List MemPlace} (hv : Value.okWide Try.prog w r b0 3 v)
    (h : DataW.Trod enc Try.prog w base spare held 3 v d p) : ∃ m : Int, v = .int .i64 m ∧ -9223372036854775808 ≤ m ∧ m ≤ 9223372036854775807 := by
  obtain ⟨n, rfl, hh⟩ := open_int Try.underlying3 hv h
  have hw : (Lit.int .i64 n).wf = true := by
    first | exact hh.2.2 | exact hh.2 | exact hh.1
  have hbd := bounds_i64 hw
  exact ⟨n, rfl, by omega, by omega⟩

set_option maxRecDepth 100000 in
/-- Bytes of an argument, opened. -/
theorem bys_arg {H : Type} {enc : TypeId × Value → H} {w : World} {r : Reach} {b0 base : Nat} {spare : Nat → Bool} {held : Bool} {v : Value} {d : DataW H} {p : List MemPlace} (hv : Value.okWide Try.prog w r b0 69 v)
    (h : DataW.Trod enc Try.prog w base spare held 69 v d p) : ∃ (A : Option Addr) (n c : Nat) (l : List Nat), v = .slice A n c ∧ l.length = n ∧ n ≤ 9223372036854775807 ∧ Bys w A l := by
  obtain ⟨fuel, hf⟩ := h
  obtain ⟨q, n, c, rfl⟩ := okWide_slice Try.underlying69 hv
  have hmx : maxLen ≤ 9223372036854775807 := by unfold maxLen; omega
  rcases nums_open Try.underlying69 Try.underlying5 (by kernel_rfl) hf with h0 | ⟨a, cap, h0, hm⟩ | ⟨b, off, len, cap, h0, hpos, hl, hm, hb, hcell⟩
  · simp only [Value.cells, List.cons.injEq, and_true] at h0
    exact ⟨none, 0, 0, [], h0, rfl, by omega, fun i hi => by simp at hi⟩
  · simp only [Value.cells, List.cons.injEq, and_true] at h0
    exact ⟨some a, 0, cap, [], h0, rfl, by omega, fun i hi => by simp at hi⟩
  · simp only [Value.cells, List.cons.injEq, and_true] at h0
    obtain ⟨F, hF⟩ := choose_below hcell
    refine ⟨some ⟨b, off, none⟩, len, cap, (List.range len).map fun i => (F i).toNat, h0, by simp, by omega, fun i hi => ⟨b, off, rfl, hb, ?_, ?_⟩⟩
    · have hi : i < len := by simpa using hi
      have hbd := bounds_u8 (hF i hi).2
      simp only [List.getElem_map, List.getElem_range]
      omega
    · have hi : i < len := by simpa using hi
      obtain ⟨h1, hw⟩ := hF i hi
      have hbd := bounds_u8 hw
      rw [h1]
      simp only [List.getElem_map, List.getElem_range, Option.some.injEq]
      congr 1
      omega

set_option maxRecDepth 100000 in
theorem text_arg {H : Type} {enc : TypeId × Value → H} {w : World} {r : Reach} {b0 base : Nat} {spare : Nat → Bool} {held : Bool} {v : Value} {d : DataW H} {p : List MemPlace} (hv : Value.okWide Try.prog w r b0 9 v)
    (h : DataW.Trod enc Try.prog w base spare held 9 v d p) : ∃ s : ByteArray, v = .string s ∧ s.size ≤ 9223372036854775807 := by
  have hmx : maxLen ≤ 9223372036854775807 := by unfold maxLen; omega
  obtain ⟨fuel, hf⟩ := h
  obtain ⟨s, rfl⟩ := okWide_string Try.underlying9 hv
  obtain ⟨s', r1, _, w1⟩ := DataW.trod_string Try.underlying9 (show DataW.trod enc Try.prog w base spare held fuel 9 [.string s] = _ from hf)
  simp only [List.cons.injEq, and_true, Value.string.injEq] at r1
  subst r1
  exact ⟨s, rfl, by omega⟩

set_option maxRecDepth 100000 in
theorem byte_arg {H : Type} {enc : TypeId × Value → H} {w : World} {r : Reach} {b0 base : Nat} {spare : Nat → Bool} {held : Bool} {v : Value} {d : DataW H} {p : List MemPlace} (hv : Value.okWide Try.prog w r b0 5 v)
    (h : DataW.Trod enc Try.prog w base spare held 5 v d p) : ∃ m : Nat, v = .int .u8 (m : Int) ∧ m < 256 := by
  obtain ⟨n, rfl, hh⟩ := open_int Try.underlying5 hv h
  have hw : (Lit.int .u8 n).wf = true := by
    first | exact hh.2.2 | exact hh.2 | exact hh.1
  have hbd := bounds_u8 hw
  exact ⟨n.toNat, by congr 1; omega, by omega⟩
end Go.Proofs.Ytnmfgmlmjbfdcaa
