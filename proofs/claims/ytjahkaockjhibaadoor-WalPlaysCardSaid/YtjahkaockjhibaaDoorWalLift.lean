/-
  From a walk that returns true and leaves what was there, to the statement's row: the table lies as the program's text lays it; numbers, texts, acts of an argument, opened; the arguments read as they did.
-/
import Derived.Test.YtjahkaockjhibaaDoorRows
import Derived.Test.YtjahkaockjhibaaDoorTie
import Derived.Test.YtjahkaockjhibaaDoorMWLaw
import Derived.ProofKit
import Derived.LaidMore
import Derived.OpenShut
import Derived.Stop.Joined
import Derived.Lib.SmallJoins
import Derived.Deep.Fields
import Derived.Deep.Slices
namespace Go.Proofs.YtjahkaockjhibaaDoor
open Go.ChangeShapes Go.WideShapes Go.ChangeAt Go.RowKit Go.Joins Go.Deep

theorem Tryd.own : ownKnob Tryd.prog.godebug = none := by kernel_rfl
theorem Tryd.laidOut : laidOutB Tryd.prog = true := by kernel_rfl
theorem Tryd.tTab : (Tryd.prog.globals[0]?).map (·.type) = some 157 := by kernel_rfl

/-- What the rows list. -/
def laidTab : List (String × DataW Unit) := Rows.walPlaysRow.laid

/-- The table's name. -/
def tabName : String := (laidTab.map (·.1)).headD default
theorem Tryd.gTab : Tryd.prog.globalNamed tabName = some 0 := by kernel_rfl

/-- The door's own heap meets the condition: closed facts. -/
theorem door_met (os : Os) (args : Array Value) : laidMetH Tryd.prog laidTab ((World.doorLaid Tryd.prog 400 os).forCall (fun _ _ => 0) ⟨#[], args, []⟩).memory :=
  laidMetH_of_parts3 (fuel := 8) (laidMet_of_run' 8 (by kernel_rfl) (by kernel_rfl)) (by kernel_rfl) (by kernel_rfl)

theorem tab_row : ∀ i : Nat, i < 16 → ([0, 274646895, 549293790, 820201905, 1098587580, 1361435347, 1640403810, 1905808397, 2197175160, 2460548119, 2722870694, 2987750089, 3280807620, 3553878443, 3811616794, 4084100981] : List Int)[i]? = some ((tab4.getD i 0 : Nat) : Int) := by decide

set_option maxRecDepth 100000 in
/-- From the condition to the table's cells. -/
theorem tab_of_laid {W : World} (h : laidMetH Tryd.prog laidTab W) : Tab W := by
  rw [MakeChecks.laidMetH_plain _ _ _ (by kernel_rfl)] at h
  obtain ⟨ps, ⟨g0, t0, cs0, f0, p0, q0, hg0, ht0, hv0, hd0, _, _⟩, _, _⟩ := h
  obtain rfl := Option.some.inj (Tryd.gTab.symm.trans hg0)
  obtain rfl := Option.some.inj (Tryd.tTab.symm.trans ht0)
  obtain ⟨xs, m, rfl, hx, hlen, hn, hel⟩ := DataW.trod_array Tryd.underlying157 hd0
  have c1 : Tryd.prog.cellsOf 145 = 1 := by kernel_rfl
  have c16 : Tryd.prog.cellsOf 157 = 16 := by kernel_rfl
  rw [c16] at hlen
  rw [c1] at hel
  simp only [Prod.mk.injEq] at hx
  have hx1 : Rows.laid_lockkeeper_crc_effects = DataW.agg (xs.map (·.1)) := hx.1
  have hl : ([0, 274646895, 549293790, 820201905, 1098587580, 1361435347, 1640403810, 1905808397, 2197175160, 2460548119, 2722870694, 2987750089, 3280807620, 3553878443, 3811616794, 4084100981] : List Int).map (fun n => (DataW.lit (.int .u32 n) : DataW Unit)) = xs.map (·.1) := by
    have := hx1
    unfold Rows.laid_lockkeeper_crc_effects at this
    injection this
  intro i hi
  have h1 := hel i hi
  have hxi : xs[i]? = some (xs[i]'(by omega)) := List.getElem?_eq_getElem (by omega)
  rw [hxi] at h1
  obtain ⟨n, e1, e2, _⟩ := DataW.trod_int Tryd.underlying145 h1
  have h2 := congrArg (·[i]?) hl
  simp only [List.getElem?_map, tab_row i hi, hxi, Option.map_some, e2] at h2
  have hn : n = ((tab4.getD i 0 : Nat) : Int) := by
    have := Option.some.inj h2
    injection this with this
    injection this with _ this
    exact this.symm
  have hcell := World.var?_cell hg0 hv0 i
  rw [hcell]
  have hcs : cs0.toList[i]? = some (.int .u32 n) := by
    have e3 : (cs0.toList.drop (i * 1)).take 1 = [cs0.toList[i]'(by omega)] := by
      rw [Nat.mul_one, List.drop_eq_getElem_cons (by omega)]
      rfl
    rw [e3] at e1
    rw [List.getElem?_eq_getElem (by omega)]
    simp only [List.cons.injEq, and_true] at e1
    rw [e1]
  rw [← hn, ← hcs]
  simp

section
variable {H : Type} {enc : TypeId × Value → H} {P : Program}

/-- What is read of old memory reads so behind a call that has turned nothing old. -/
theorem law_post {f : Func} {s : ChangeSpec} {apart fresh handsOn again : Bool} {W W' : World} {args : Array Value} {v : Value} {ds gs : List (DataW H)} {before pa pv : List MemPlace}
    (hW : DataW.Whole enc P f.params.toList s.vars apart W args.toList ds gs before)
    (hres : ∀ (b : Nat) (sp : Nat → Bool) (hd : Bool), DataW.TrodAll enc P W' b sp hd f.resultTypes.toList (v.resultList f.resultTypes.size) (s.fn H (ds ++ gs)).results [])
    (hargs : ∀ sp : Nat → Bool, (∀ p ∈ before, sp p.block = true) → DataW.TrodAll enc P W' 0 sp true f.params.toList args.toList (s.fn H (ds ++ gs)).args pa)
    (hvars : ∀ sp : Nat → Bool, (∀ p ∈ before, sp p.block = true) → DataW.TrodVars enc P W' sp s.vars (s.fn H (ds ++ gs)).vars pv)
    (hps : before = pa ++ pv) (hb : Below W.heap.size W W')
    (hok : ∀ (j : Nat) (t : TypeId) (r : Value), f.resultTypes[j]? = some t → (v.resultList f.resultTypes.size)[j]? = some r → Value.okWide P W' .any 0 t r) :
    s.post enc P f apart fresh handsOn again W args v W' := by
  have hlt : ∀ p ∈ before, p.block < W.heap.size := fun p hp => hW.lt p hp
  have hold : ∀ p ∈ before, (fun b => decide (b < W.heap.size)) p.block = true := fun p hp => by simpa using hlt p hp
  refine ⟨ds, gs, before, [], pa, pv, hW, hres _ _ _, hargs _ hold, hvars _ hold, World.keptBut_mono (fun p hp => ⟨hp, ?_⟩) (hb.frame (· ∈ before)), fun _ => ?_⟩
  · rw [hps, List.mem_append] at hp
    exact Or.inr hp
  · obtain ⟨_, _, _, _, _, hz, hn⟩ := hW
    refine ⟨hok, _, _, ([] ++ pa) ++ pv, ⟨[] ++ pa, pv, trodAll_append (hargs _ (fun _ _ => rfl)) (hres _ _ _), hvars _ (fun _ _ => rfl), rfl, ?_, ?_⟩, ?_⟩
    · intro b off hp
      have hin : MemPlace.cell b off ∈ before := by rw [hps]; simpa using hp
      rw [hb.frozen (hlt _ hin)]
      exact hz b off hin
    · intro ha
      have := hn ha
      rw [hps] at this
      simpa using this
    · intro p hp _
      rw [hps]
      simpa using hp
end

section
variable {H : Type} {enc : TypeId × Value → H} {P : Program} {w : World} {base : Nat} {spare : Nat → Bool} {held : Bool}

theorem rows_open {t e : TypeId} {fs : Array Field} {fuel : Nat} {cs : List Value} {x : DataW H × List MemPlace} (ht : P.underlying t = some (.slice e)) (he : P.underlying e = some (.struct fs))
    (hone : oneCellFields P fs = true) (hC : P.cellsOf e = fs.size) (hpos : 0 < fs.size) (h : DataW.trod enc P w base spare held fuel t cs = some x) :
    cs = [.slice none 0 0] ∨ (∃ (a : Addr) (cap : Nat), cs = [.slice (some a) 0 cap] ∧ cap ≤ maxLen) ∨
    ∃ (b off len cap : Nat), cs = [.slice (some ⟨b, off, none⟩) len cap] ∧ 0 < len ∧ len ≤ cap ∧ cap ≤ maxLen ∧ b < w.heap.size ∧
      ∀ i, i < len → ∀ (j : Nat) (f : Field), fs[j]? = some f → ∃ (v : Value) (y : DataW H × List MemPlace) (n : Nat), w.cell? ⟨b, off + i * fs.size + j, none⟩ = some v ∧ DataW.trod enc P w base spare held n f.type [v] = some y := by
  rcases open_slice ht h with ⟨h0, _⟩ | ⟨a, len, cap, m, n, D, Pl, hcs, hb, hl, hm, hmm, hx, hi⟩
  · exact .inl h0
  rcases Nat.eq_zero_or_pos len with h0 | h0
  · subst h0; exact .inr (.inl ⟨a, cap, hcs, hm⟩)
  have hlm : len ≤ m := by rw [hmm]; split <;> omega
  have hcell : ∀ i, i < len → ∀ (j : Nat) (f : Field), fs[j]? = some f → ∃ (v : Value) (y : DataW H × List MemPlace) (k : Nat), w.cell? (a.add (i * fs.size + j)) = some v ∧ DataW.trod enc P w base spare held k f.type [v] = some y := by
    intro i hil j f hj
    obtain ⟨cs', hc, ht'⟩ := hi i (by omega)
    rw [hC] at hc
    obtain ⟨ys, n', hn', hy, hlen, hyl, hf⟩ := DataW.trod_struct he ht'
    obtain ⟨_, hcl, hat⟩ := World.cells?_some hc
    obtain ⟨ho, hk⟩ := hone_of hone j f hj
    have hjl : j < fs.size := (Array.getElem?_eq_some_iff.1 hj).1
    have hcj := hat j hjl
    have hv : cs'[j]? = some (cs'[j]'(by omega)) := List.getElem?_eq_getElem (by omega)
    have h1 := hf j f hj
    rw [ho, hk] at h1
    have e1 : (cs'.drop j).take 1 = [cs'[j]'(by omega)] := by
      rw [List.drop_eq_getElem_cons (by omega)]
      rfl
    rw [e1] at h1
    have hys : ys[j]? = some (ys[j]'(by omega)) := List.getElem?_eq_getElem (by omega)
    exact ⟨_, _, _, by rw [← Go.Deep.add_add, hcj, hv], h1.trans hys⟩
  obtain ⟨v, _, _, hv, _⟩ := hcell 0 h0 0 _ (Array.getElem?_eq_getElem hpos)
  obtain ⟨b, off, spot⟩ := a
  have hspot : spot = none := by simpa [Addr.add] using World.cell?_spot hv
  subst hspot
  have hbl : b < w.heap.size := by
    rcases Nat.lt_or_ge b w.heap.size with hh | hh
    · exact hh
    · have e0 : w.heap[b]? = none := Array.getElem?_eq_none hh
      simp [World.cell?, Addr.add, e0] at hv
  refine .inr (.inr ⟨b, off, len, cap, hcs, h0, hl, hm, hbl, fun i hil j f hj => ?_⟩)
  obtain ⟨v, y, k, hv, hy⟩ := hcell i hil j f hj
  exact ⟨v, y, k, by rw [Go.WideShapes.add_plain] at hv; rw [Nat.add_assoc]; exact hv, hy⟩
end

/-- A choice for every place below n is a function. -/
theorem choose_below {α : Type} [Inhabited α] {n : Nat} {p : Nat → α → Prop} (h : ∀ i, i < n → ∃ a, p i a) : ∃ F : Nat → α, ∀ i, i < n → p i (F i) := by
  have h2 : ∀ i, ∃ a, i < n → p i a := fun i => by
    by_cases hi : i < n
    · obtain ⟨a, ha⟩ := h i hi
      exact ⟨a, fun _ => ha⟩
    · exact ⟨default, fun x => absurd x hi⟩
  exact ⟨fun i => Classical.choose (h2 i), fun i hi => Classical.choose_spec (h2 i) hi⟩

section
variable {H : Type} {enc : TypeId × Value → H} {P : Program} {w : World} {base : Nat} {spare : Nat → Bool} {held : Bool}
theorem strs_open {t e : TypeId} {fuel : Nat} {cs : List Value} {x : DataW H × List MemPlace} (ht : P.underlying t = some (.slice e)) (he : P.underlying e = some .string) (hC : P.cellsOf e = 1)
    (h : DataW.trod enc P w base spare held fuel t cs = some x) :
    cs = [.slice none 0 0] ∨ (∃ (a : Addr) (cap : Nat), cs = [.slice (some a) 0 cap] ∧ cap ≤ maxLen) ∨
    ∃ (b off len cap : Nat), cs = [.slice (some ⟨b, off, none⟩) len cap] ∧ 0 < len ∧ len ≤ cap ∧ cap ≤ maxLen ∧ b < w.heap.size ∧
      ∀ i, i < len → ∃ s : ByteArray, w.cell? ⟨b, off + i, none⟩ = some (.string s) ∧ s.size ≤ maxLen := by
  rcases open_slice ht h with ⟨h0, _⟩ | ⟨a, len, cap, m, n, D, Pl, hcs, hb, hl, hm, hmm, hx, hi⟩
  · exact .inl h0
  rcases Nat.eq_zero_or_pos len with h0 | h0
  · subst h0; exact .inr (.inl ⟨a, cap, hcs, hm⟩)
  have hlm : len ≤ m := by rw [hmm]; split <;> omega
  have hcell : ∀ i, i < len → ∃ s : ByteArray, w.cell? (a.add i) = some (.string s) ∧ s.size ≤ maxLen := by
    intro i hil
    obtain ⟨cs', hc, ht'⟩ := hi i (by omega)
    rw [hC] at hc
    obtain ⟨s, rfl, _, hw⟩ := DataW.trod_string he ht'
    obtain ⟨_, _, hat⟩ := World.cells?_some hc
    have := hat 0 (by decide)
    rw [Go.Deep.add_add, Nat.mul_one, Nat.add_zero] at this
    exact ⟨s, by rw [this]; rfl, hw⟩
  obtain ⟨v, hv, _⟩ := hcell 0 h0
  obtain ⟨b, off, spot⟩ := a
  have hspot : spot = none := by simpa [Addr.add] using World.cell?_spot hv
  subst hspot
  have hbl : b < w.heap.size := by
    rcases Nat.lt_or_ge b w.heap.size with hh | hh
    · exact hh
    · have e0 : w.heap[b]? = none := Array.getElem?_eq_none hh
      simp [World.cell?, Addr.add, e0] at hv
  refine .inr (.inr ⟨b, off, len, cap, hcs, h0, hl, hm, hbl, fun i hil => ?_⟩)
  obtain ⟨v, hv, hw⟩ := hcell i hil
  exact ⟨v, by rw [Go.WideShapes.add_plain] at hv; exact hv, hw⟩

/-- A struct of four fields of one cell, by value: each field's own reading. -/
theorem four_fields {r : Reach} {b0 : Nat} {t : TypeId} {f0 f1 f2 f3 : Field} {v : Value} {d : DataW H} {p : List MemPlace} (hs : P.underlying t = some (.struct #[f0, f1, f2, f3])) (hone : oneCellFields P #[f0, f1, f2, f3] = true) (hC : P.cellsOf t = 4)
    (hv : Value.okWide P w r b0 t v) (h : DataW.Trod enc P w base spare held t v d p) :
    ∃ (v0 v1 v2 v3 : Value) (y0 y1 y2 y3 : DataW H × List MemPlace) (n : Nat), v = .agg #[v0, v1, v2, v3] ∧
      DataW.trod enc P w base spare held n f0.type [v0] = some y0 ∧ DataW.trod enc P w base spare held n f1.type [v1] = some y1 ∧ DataW.trod enc P w base spare held n f2.type [v2] = some y2 ∧ DataW.trod enc P w base spare held n f3.type [v3] = some y3 := by
  obtain ⟨cs, rfl, hsz⟩ := okWide_struct hs hv
  obtain ⟨l⟩ := cs
  match l, hsz.trans hC with
  | [c0, c1, c2, c3], _ =>
    obtain ⟨fuel, hf⟩ := h
    obtain ⟨xs, n, _, _, _, hlen, hg⟩ := DataW.trod_struct hs hf
    obtain ⟨o0, k0⟩ := hone_of hone 0 f0 rfl
    obtain ⟨o1, k1⟩ := hone_of hone 1 f1 rfl
    obtain ⟨o2, k2⟩ := hone_of hone 2 f2 rfl
    obtain ⟨o3, k3⟩ := hone_of hone 3 f3 rfl
    match xs, hlen with
    | [y0, y1, y2, y3], _ =>
      exact ⟨c0, c1, c2, c3, y0, y1, y2, y3, n, rfl, by simpa [Value.cells, o0, k0] using hg 0 f0 rfl, by simpa [Value.cells, o1, k1] using hg 1 f1 rfl, by simpa [Value.cells, o2, k2] using hg 2 f2 rfl, by simpa [Value.cells, o3, k3] using hg 3 f3 rfl⟩
end

instance : Inhabited ByteArray := ⟨⟨#[]⟩⟩

set_option maxRecDepth 100000 in
/-- Texts of an argument, opened. -/
theorem strs_cells {H : Type} {enc : TypeId × Value → H} {w : World} {base : Nat} {spare : Nat → Bool} {held : Bool} {fuel : Nat} {v : Value} {x : DataW H × List MemPlace} (h : DataW.trod enc Tryd.prog w base spare held fuel 67 [v] = some x) :
    ∃ (A : Option Addr) (c : Nat) (l : List ByteArray), v = .slice A l.length c ∧ l.length ≤ 9223372036854775807 ∧ Strs w A l ∧ ∀ t ∈ l, t.size ≤ 9223372036854775807 := by
  have hmx : maxLen ≤ 9223372036854775807 := by unfold maxLen; omega
  rcases strs_open Tryd.underlying67 Tryd.underlying9 (by kernel_rfl) h with h0 | ⟨a, cap, h0, hm⟩ | ⟨b, off, len, cap, h0, hpos, hl, hm, hb, hcell⟩
  · replace h0 := (List.cons.inj h0).1
    exact ⟨none, 0, [], h0, by simp, fun i hi => by simp at hi, fun t ht => by simp at ht⟩
  · replace h0 := (List.cons.inj h0).1
    exact ⟨some a, cap, [], h0, by simp, fun i hi => by simp at hi, fun t ht => by simp at ht⟩
  · replace h0 := (List.cons.inj h0).1
    obtain ⟨F, hF⟩ := choose_below hcell
    refine ⟨some ⟨b, off, none⟩, cap, (List.range len).map F, by rw [h0]; simp, by simp; omega, fun i hi => ⟨b, off, rfl, hb, ?_⟩, fun t ht => ?_⟩
    · have hi : i < len := by simpa using hi
      simp only [List.getElem_map, List.getElem_range]
      exact (hF i hi).1
    · obtain ⟨i, hi, rfl⟩ := List.mem_map.1 ht
      have := (hF i (List.mem_range.1 hi)).2
      omega
set_option maxRecDepth 100000 in
theorem strs_arg {H : Type} {enc : TypeId × Value → H} {w : World} {r : Reach} {b0 base : Nat} {spare : Nat → Bool} {held : Bool} {v : Value} {d : DataW H} {p : List MemPlace} (_hv : Value.okWide Tryd.prog w r b0 67 v)
    (h : DataW.Trod enc Tryd.prog w base spare held 67 v d p) : ∃ (A : Option Addr) (c : Nat) (l : List ByteArray), v = .slice A l.length c ∧ l.length ≤ 9223372036854775807 ∧ Strs w A l ∧ ∀ t ∈ l, t.size ≤ 9223372036854775807 := by
  obtain ⟨fuel, hf⟩ := h
  obtain ⟨q, n, c, rfl⟩ := okWide_slice Tryd.underlying67 _hv
  exact strs_cells hf

set_option maxRecDepth 100000 in
theorem act_of {H : Type} {enc : TypeId × Value → H} {w : World} {base : Nat} {spare : Nat → Bool} {held : Bool} {v0 vk v1 v2 v3 : Value} {y0 yk y1 y2 y3 : DataW H × List MemPlace} {n0 nk n1 n2 n3 : Nat}
    (h0 : DataW.trod enc Tryd.prog w base spare held n0 5 [v0] = some y0) (hk : DataW.trod enc Tryd.prog w base spare held nk 5 [vk] = some yk) (h1 : DataW.trod enc Tryd.prog w base spare held n1 9 [v1] = some y1) (h2 : DataW.trod enc Tryd.prog w base spare held n2 22 [v2] = some y2) (h3 : DataW.trod enc Tryd.prog w base spare held n3 22 [v3] = some y3) :
    ∃ x : ActV, x.Ok ∧ v0 = .int .u8 (x.what : Int) ∧ vk = .int .u8 (x.kind : Int) ∧ v1 = .string x.s ∧ v2 = .int .u64 (x.n : Int) ∧ v3 = .int .u64 (x.m : Int) := by
  have hmx : maxLen ≤ 9223372036854775807 := by unfold maxLen; omega
  obtain ⟨m0, r0, _, w0⟩ := DataW.trod_int Tryd.underlying5 h0
  obtain ⟨mk, rk, _, wk⟩ := DataW.trod_int Tryd.underlying5 hk
  obtain ⟨s, r1, _, w1⟩ := DataW.trod_string Tryd.underlying9 h1
  obtain ⟨m2, r2, _, w2⟩ := DataW.trod_int Tryd.underlying22 h2
  obtain ⟨m3, r3, _, w3⟩ := DataW.trod_int Tryd.underlying22 h3
  simp only [List.cons.injEq, and_true] at r0 rk r1 r2 r3
  subst r0 rk r1 r2 r3
  have b0 := bounds_u8 w0
  have bk := bounds_u8 wk
  have b2 := bounds_u64 w2
  have b3 := bounds_u64 w3
  refine ⟨⟨m0.toNat, mk.toNat, s, m2.toNat, m3.toNat⟩, ⟨by show m0.toNat < 256; omega, by show mk.toNat < 256; omega, by show m2.toNat < _; omega, by show m3.toNat < _; omega, by show s.size ≤ _; omega⟩, ?_, ?_, rfl, ?_, ?_⟩
  · show _ = Value.int .u8 ((m0.toNat : Nat) : Int); congr 1; omega
  · show _ = Value.int .u8 ((mk.toNat : Nat) : Int); congr 1; omega
  · show _ = Value.int .u64 ((m2.toNat : Nat) : Int); congr 1; omega
  · show _ = Value.int .u64 ((m3.toNat : Nat) : Int); congr 1; omega

set_option maxRecDepth 100000 in
theorem act_open {H : Type} {enc : TypeId × Value → H} {w : World} {base : Nat} {spare : Nat → Bool} {held : Bool} {g o : Nat} {fs : Array Field}
    (t0 : ∃ f, fs[0]? = some f ∧ f.type = 5) (t1 : ∃ f, fs[1]? = some f ∧ f.type = 5) (t2 : ∃ f, fs[2]? = some f ∧ f.type = 9) (t3 : ∃ f, fs[3]? = some f ∧ f.type = 22) (t4 : ∃ f, fs[4]? = some f ∧ f.type = 22)
    (h : ∀ (j : Nat) (f : Field), fs[j]? = some f → ∃ (v : Value) (y : DataW H × List MemPlace) (n : Nat), w.cell? ⟨g, o + j, none⟩ = some v ∧ DataW.trod enc Tryd.prog w base spare held n f.type [v] = some y) :
    ∃ x : ActV, x.Ok ∧ ∀ j, j < 5 → w.cell? ⟨g, o + j, none⟩ = (x.cells)[j]? := by
  obtain ⟨f0, e0, k0⟩ := t0
  obtain ⟨f1, e1, k1⟩ := t1
  obtain ⟨f2, e2, k2⟩ := t2
  obtain ⟨f3, e3, k3⟩ := t3
  obtain ⟨f4, e4, k4⟩ := t4
  obtain ⟨v0, y0, n0, c0, h0⟩ := h 0 f0 e0
  obtain ⟨v1, y1, n1, c1, h1⟩ := h 1 f1 e1
  obtain ⟨v2, y2, n2, c2, h2⟩ := h 2 f2 e2
  obtain ⟨v3, y3, n3, c3, h3⟩ := h 3 f3 e3
  obtain ⟨v4, y4, n4, c4, h4⟩ := h 4 f4 e4
  rw [k0] at h0
  rw [k1] at h1
  rw [k2] at h2
  rw [k3] at h3
  rw [k4] at h4
  obtain ⟨x, hx, rfl, rfl, rfl, rfl, rfl⟩ := act_of h0 h1 h2 h3 h4
  refine ⟨x, hx, fun j hj => ?_⟩
  rcases (show j = 0 ∨ j = 1 ∨ j = 2 ∨ j = 3 ∨ j = 4 by omega) with rfl | rfl | rfl | rfl | rfl
  · exact c0
  · exact c1
  · exact c2
  · exact c3
  · exact c4

set_option maxRecDepth 100000 in
/-- Acts of an argument, opened. -/
theorem acts_arg {H : Type} {enc : TypeId × Value → H} {w : World} {r : Reach} {b0 base : Nat} {spare : Nat → Bool} {held : Bool} {v : Value} {d : DataW H} {p : List MemPlace} (hv : Value.okWide Tryd.prog w r b0 23 v)
    (h : DataW.Trod enc Tryd.prog w base spare held 23 v d p) : ∃ (A : Option Addr) (c : Nat) (l : List ActV), v = .slice A l.length c ∧ l.length ≤ 9223372036854775807 ∧ Acts w A l := by
  obtain ⟨fuel, hf⟩ := h
  have hmx : maxLen ≤ 9223372036854775807 := by unfold maxLen; omega
  obtain ⟨q, n, c, rfl⟩ := okWide_slice Tryd.underlying23 hv
  rcases rows_open Tryd.underlying23 Tryd.underlying41 (by kernel_rfl) (by kernel_rfl) (by decide) hf with h0 | ⟨a, cap, h0, _⟩ | ⟨b, off, len, cap, h0, hpos, hl, hm, hb, hcell⟩
  · replace h0 := (List.cons.inj (show [Value.slice q n c] = _ from h0)).1
    exact ⟨none, 0, [], h0, by simp, ⟨fun x hx => by simp at hx, fun i hi => by simp at hi⟩⟩
  · replace h0 := (List.cons.inj (show [Value.slice q n c] = _ from h0)).1
    exact ⟨some a, cap, [], h0, by simp, ⟨fun x hx => by simp at hx, fun i hi => by simp at hi⟩⟩
  · replace h0 := (List.cons.inj (show [Value.slice q n c] = _ from h0)).1
    have hall : ∀ i, i < len → ∃ x : ActV, x.Ok ∧ ∀ j, j < 5 → w.cell? ⟨b, off + i * 5 + j, none⟩ = (x.cells)[j]? := fun i hi =>
      act_open ⟨_, rfl, rfl⟩ ⟨_, rfl, rfl⟩ ⟨_, rfl, rfl⟩ ⟨_, rfl, rfl⟩ ⟨_, rfl, rfl⟩ (hcell i hi)
    obtain ⟨F, hF⟩ := choose_below hall
    refine ⟨some ⟨b, off, none⟩, cap, (List.range len).map F, by rw [h0]; simp, by simp; omega, ⟨fun x hx => ?_, fun i hi => ⟨b, off, rfl, hb, fun j hj => ?_⟩⟩⟩
    · obtain ⟨i, hi, rfl⟩ := List.mem_map.1 hx
      exact (hF i (List.mem_range.1 hi)).1
    · have hi : i < len := by simpa using hi
      simp only [List.getElem_map, List.getElem_range]
      exact (hF i hi).2 j hj

set_option maxRecDepth 100000 in
/-- Texts and numbers, by value. -/
theorem trims_arg {H : Type} {enc : TypeId × Value → H} {w : World} {r : Reach} {b0 base : Nat} {spare : Nat → Bool} {held : Bool} {v : Value} {d : DataW H} {p : List MemPlace} (hv : Value.okWide Tryd.prog w r b0 78 v)
    (h : DataW.Trod enc Tryd.prog w base spare held 78 v d p) : ∃ (A : Option Addr) (c : Nat) (l : List ByteArray) (x0 x1 x2 : Nat), v = .agg #[.slice A l.length c, .int .u8 (x0 : Int), .int .u8 (x1 : Int), .int .u64 (x2 : Int)] ∧ Strs w A l ∧ x0 < 256 ∧ x1 < 256 ∧ x2 < 18446744073709551616 := by
  obtain ⟨v0, v1, v2, v3, y0, y1, y2, y3, n, rfl, h0, h1, h2, h3⟩ := four_fields Tryd.underlying78 (by kernel_rfl) (by kernel_rfl) hv h
  obtain ⟨A, c, l, rfl, hl, hS, hs⟩ := strs_cells h0
  obtain ⟨m1, r1, _, w1⟩ := DataW.trod_int Tryd.underlying5 h1
  obtain ⟨m2, r2, _, w2⟩ := DataW.trod_int Tryd.underlying5 h2
  obtain ⟨m3, r3, _, w3⟩ := DataW.trod_int Tryd.underlying22 h3
  simp only [List.cons.injEq, and_true] at r1 r2 r3
  subst r1 r2 r3
  have b1 := bounds_u8 w1
  have b2 := bounds_u8 w2
  have b3 := bounds_u64 w3
  refine ⟨A, c, l, m1.toNat, m2.toNat, m3.toNat, ?_, hS, by omega, by omega, by omega⟩
  rw [show ((m1.toNat : Nat) : Int) = m1 by omega, show ((m2.toNat : Nat) : Int) = m2 by omega, show ((m3.toNat : Nat) : Int) = m3 by omega]
end Go.Proofs.YtjahkaockjhibaaDoor
