/-
  From a walk that returns true and leaves what was there, to the statement's row: arguments that are numbers and edges, opened; the arguments read as they did.
-/
import Derived.Test.YtbkhojopiimbdaaRows
import Derived.Test.YtbkhojopiimbdaaWaiRings
import Derived.Test.YtbkhojopiimbdaaWaiMeans
import Derived.Test.YtbkhojopiimbdaaWaiMore
import Derived.ProofKit
import Derived.LaidMore
import Derived.OpenShut
import Derived.Stop.Joined
import Derived.Lib.SmallJoins
import Derived.Deep.Fields
import Derived.Deep.Slices
namespace Go.Proofs.Ytbkhojopiimbdaa
open Go.ChangeShapes Go.WideShapes Go.ChangeAt Go.RowKit Go.Joins Go.Deep

theorem Try.own : ownKnob Try.prog.godebug = none := by kernel_rfl
theorem Try.laidOut : laidOutB Try.prog = true := by kernel_rfl

section
variable {H : Type} {enc : TypeId × Value → H} {P : Program}

/-- What is read of old memory reads so behind a call that has turned nothing old. -/
theorem law_post {f : Func} {s : ChangeSpec} {apart fresh handsOn again : Bool} {W W' : World} {args : Array Value} {v : Value} {ds gs : List (DataW H)} {before pa pv : List MemPlace}
    (hW : DataW.Whole enc P f.params.toList s.vars apart W args.toList ds gs before)
    (hres : ∀ (b : Nat) (sp : Nat → Bool) (hd : Bool), DataW.TrodAll enc P W' b sp hd f.resultTypes.toList (v.resultList f.resultTypes.size) (s.fn H (ds ++ gs)).results [])
    (hargs : ∀ sp : Nat → Bool, (∀ p ∈ before, sp p.block = true) → DataW.TrodAll enc P W' 0 sp true f.params.toList args.toList (s.fn H (ds ++ gs)).args pa)
    (hvars : ∀ sp : Nat → Bool, (∀ p ∈ before, sp p.block = true) → DataW.TrodVars enc P W' sp s.vars (s.fn H (ds ++ gs)).vars pv)
    (hps : before = pa ++ pv) (hb : Below W.heap.size W W')
    (hok : ∀ (j : Nat) (t : TypeId) (r : Value), f.resultTypes[j]? = some t → (v.resultList f.resultTypes.size)[j]? = some r → Value.okWide P W' .any 0 t r) :
    s.post enc P f apart fresh handsOn again W args v W' := by
  have hlt : ∀ p ∈ before, p.block < W.heap.size := fun p hp => hW.lt p hp
  have hold : ∀ p ∈ before, (fun b => decide (b < W.heap.size)) p.block = true := fun p hp => by simpa using hlt p hp
  refine ⟨ds, gs, before, [], pa, pv, hW, hres _ _ _, hargs _ hold, hvars _ hold, World.keptBut_mono (fun p hp => ⟨hp, ?_⟩) (hb.frame (· ∈ before)), fun _ => ?_⟩
  · rw [hps, List.mem_append] at hp
    exact Or.inr hp
  · obtain ⟨_, _, _, _, _, hz, hn⟩ := hW
    refine ⟨hok, _, _, ([] ++ pa) ++ pv, ⟨[] ++ pa, pv, trodAll_append (hargs _ (fun _ _ => rfl)) (hres _ _ _), hvars _ (fun _ _ => rfl), rfl, ?_, ?_⟩, ?_⟩
    · intro b off hp
      have hin : MemPlace.cell b off ∈ before := by rw [hps]; simpa using hp
      rw [hb.frozen (hlt _ hin)]
      exact hz b off hin
    · intro ha
      have := hn ha
      rw [hps] at this
      simpa using this
    · intro p hp _
      rw [hps]
      simpa using hp

variable {w : World} {base : Nat} {spare : Nat → Bool} {held : Bool}


theorem rows_open {t e : TypeId} {fs : Array Field} {fuel : Nat} {cs : List Value} {x : DataW H × List MemPlace} (ht : P.underlying t = some (.slice e)) (he : P.underlying e = some (.struct fs))
    (hone : oneCellFields P fs = true) (hC : P.cellsOf e = fs.size) (hpos : 0 < fs.size) (h : DataW.trod enc P w base spare held fuel t cs = some x) :
    cs = [.slice none 0 0] ∨ (∃ (a : Addr) (cap : Nat), cs = [.slice (some a) 0 cap] ∧ cap ≤ maxLen) ∨
    ∃ (b off len cap : Nat), cs = [.slice (some ⟨b, off, none⟩) len cap] ∧ 0 < len ∧ len ≤ cap ∧ cap ≤ maxLen ∧ b < w.heap.size ∧
      ∀ i, i < len → ∀ (j : Nat) (f : Field), fs[j]? = some f → ∃ (v : Value) (y : DataW H × List MemPlace) (n : Nat), w.cell? ⟨b, off + i * fs.size + j, none⟩ = some v ∧ DataW.trod enc P w base spare held n f.type [v] = some y := by
  rcases open_slice ht h with ⟨h0, _⟩ | ⟨a, len, cap, m, n, D, Pl, hcs, hb, hl, hm, hmm, hx, hi⟩
  · exact .inl h0
  rcases Nat.eq_zero_or_pos len with h0 | h0
  · subst h0; exact .inr (.inl ⟨a, cap, hcs, hm⟩)
  have hlm : len ≤ m := by rw [hmm]; split <;> omega
  have hcell : ∀ i, i < len → ∀ (j : Nat) (f : Field), fs[j]? = some f → ∃ (v : Value) (y : DataW H × List MemPlace) (k : Nat), w.cell? (a.add (i * fs.size + j)) = some v ∧ DataW.trod enc P w base spare held k f.type [v] = some y := by
    intro i hil j f hj
    obtain ⟨cs', hc, ht'⟩ := hi i (by omega)
    rw [hC] at hc
    obtain ⟨ys, n', hn', hy, hlen, hyl, hf⟩ := DataW.trod_struct he ht'
    obtain ⟨_, hcl, hat⟩ := World.cells?_some hc
    obtain ⟨ho, hk⟩ := hone_of hone j f hj
    have hjl : j < fs.size := (Array.getElem?_eq_some_iff.1 hj).1
    have hcj := hat j hjl
    have hv : cs'[j]? = some (cs'[j]'(by omega)) := List.getElem?_eq_getElem (by omega)
    have h1 := hf j f hj
    rw [ho, hk] at h1
    have e1 : (cs'.drop j).take 1 = [cs'[j]'(by omega)] := by
      rw [List.drop_eq_getElem_cons (by omega)]
      rfl
    rw [e1] at h1
    have hys : ys[j]? = some (ys[j]'(by omega)) := List.getElem?_eq_getElem (by omega)
    exact ⟨_, _, _, by rw [← Go.Deep.add_add, hcj, hv], h1.trans hys⟩
  obtain ⟨v, _, _, hv, _⟩ := hcell 0 h0 0 _ (Array.getElem?_eq_getElem hpos)
  obtain ⟨b, off, spot⟩ := a
  have hspot : spot = none := by simpa [Addr.add] using World.cell?_spot hv
  subst hspot
  have hbl : b < w.heap.size := by
    rcases Nat.lt_or_ge b w.heap.size with hh | hh
    · exact hh
    · have e0 : w.heap[b]? = none := Array.getElem?_eq_none hh
      simp [World.cell?, Addr.add, e0] at hv
  refine .inr (.inr ⟨b, off, len, cap, hcs, h0, hl, hm, hbl, fun i hil j f hj => ?_⟩)
  obtain ⟨v, y, k, hv, hy⟩ := hcell i hil j f hj
  exact ⟨v, y, k, by rw [Go.WideShapes.add_plain] at hv; rw [Nat.add_assoc]; exact hv, hy⟩
end

/-- A choice for every place below n is a function. -/
theorem choose_below {α : Type} [Inhabited α] {n : Nat} {p : Nat → α → Prop} (h : ∀ i, i < n → ∃ a, p i a) : ∃ F : Nat → α, ∀ i, i < n → p i (F i) := by
  have h2 : ∀ i, ∃ a, i < n → p i a := fun i => by
    by_cases hi : i < n
    · obtain ⟨a, ha⟩ := h i hi
      exact ⟨a, fun _ => ha⟩
    · exact ⟨default, fun x => absurd x hi⟩
  exact ⟨fun i => Classical.choose (h2 i), fun i hi => Classical.choose_spec (h2 i) hi⟩

instance : Inhabited Edge := ⟨(0, 0)⟩
theorem row_of_cell' {w : World} {b off : Nat} {v : Value} (h : w.cell? ⟨b, off, none⟩ = some v) : ∃ T cs m, Row w b T cs m := by
  unfold World.cell? at h
  split at h
  · rename_i c t m hb
    exact ⟨t, c.toList, m, by unfold Row; rw [Array.toArray_toList]; exact hb⟩
  · cases h
set_option maxRecDepth 100000 in
theorem u64_open {H : Type} {enc : TypeId × Value → H} {w : World} {r : Reach} {b0 base : Nat} {spare : Nat → Bool} {held : Bool} {v : Value} {d : DataW H} {p : List MemPlace} (hv : Value.okWide Try.prog w r b0 23 v)
    (h : DataW.Trod enc Try.prog w base spare held 23 v d p) : ∃ m : Nat, v = .int .u64 (m : Int) ∧ m < 18446744073709551616 := by
  obtain ⟨n, rfl, hh⟩ := open_int Try.underlying23 hv h
  have hw : (Lit.int .u64 n).wf = true := by
    first | exact hh.2.2 | exact hh.2 | exact hh.1
  have hbd := bounds_u64 hw
  exact ⟨n.toNat, by congr 1; omega, by omega⟩

set_option maxRecDepth 100000 in
/-- Edges of an argument, opened. -/
theorem edges_arg {H : Type} {enc : TypeId × Value → H} {w : World} {r : Reach} {b0 base : Nat} {spare : Nat → Bool} {held : Bool} {v : Value} {d : DataW H} {p : List MemPlace} (hv : Value.okWide Try.prog w r b0 22 v)
    (h : DataW.Trod enc Try.prog w base spare held 22 v d p) :
    ∃ (A : Option Addr) (c : Nat) (l : List Edge), v = .slice A l.length c ∧ l.length ≤ c ∧ c ≤ 9223372036854775807 ∧ (A = none → c = 0) ∧ (∀ e ∈ l, e.1 < 18446744073709551616 ∧ e.2 < 18446744073709551616) ∧ Lie w A (ev l) := by
  obtain ⟨fuel, hf⟩ := h
  have hmx : maxLen ≤ 9223372036854775807 := by unfold maxLen; omega
  obtain ⟨q, n, c, rfl⟩ := okWide_slice Try.underlying22 hv
  rcases rows_open Try.underlying22 Try.underlying31 (by kernel_rfl) (by kernel_rfl) (by decide) hf with h0 | ⟨a, cap, h0, hm⟩ | ⟨b, off, len, cap, h0, hpos, hl, hm, hb, hcell⟩
  · replace h0 := (List.cons.inj (show [Value.slice q n c] = _ from h0)).1
    exact ⟨none, 0, [], h0, Nat.le_refl _, by omega, fun _ => rfl, fun e he => by simp at he, Lie.nil _ _⟩
  · replace h0 := (List.cons.inj (show [Value.slice q n c] = _ from h0)).1
    exact ⟨some a, cap, [], h0, Nat.zero_le _, by omega, (fun e => by cases e), fun e he => by simp at he, Lie.nil _ _⟩
  · replace h0 := (List.cons.inj (show [Value.slice q n c] = _ from h0)).1
    have hall : ∀ i, i < len → ∃ x : Edge, (x.1 < 18446744073709551616 ∧ x.2 < 18446744073709551616) ∧ w.cell? ⟨b, off + i * 2, none⟩ = some (.int .u64 (x.1 : Int)) ∧ w.cell? ⟨b, off + i * 2 + 1, none⟩ = some (.int .u64 (x.2 : Int)) := fun i hi => by
      obtain ⟨u0, y0, n0, c0, t0⟩ := hcell i hi 0 _ rfl
      obtain ⟨u1, y1, n1, c1, t1⟩ := hcell i hi 1 _ rfl
      obtain ⟨k0, e0, _, hw0⟩ := DataW.trod_int Try.underlying23 t0
      obtain ⟨k1, e1, _, hw1⟩ := DataW.trod_int Try.underlying23 t1
      simp only [List.cons.injEq, and_true] at e0 e1
      subst e0 e1
      have hb0 := bounds_u64 hw0
      have hb1 := bounds_u64 hw1
      refine ⟨(k0.toNat, k1.toNat), ⟨by show k0.toNat < _; omega, by show k1.toNat < _; omega⟩, ?_, ?_⟩
      · show _ = some (Value.int .u64 ((k0.toNat : Nat) : Int))
        rw [show ((k0.toNat : Nat) : Int) = k0 by omega]
        exact c0
      · show _ = some (Value.int .u64 ((k1.toNat : Nat) : Int))
        rw [show ((k1.toNat : Nat) : Int) = k1 by omega]
        exact c1
    obtain ⟨F, hF⟩ := choose_below hall
    obtain ⟨T, cs, m, hr⟩ := row_of_cell' (hF 0 hpos).2.1
    refine ⟨some ⟨b, off, none⟩, cap, (List.range len).map F, by rw [h0]; simp, by simpa using hl, by omega, (fun e => by cases e), fun e he => ?_, fun _ => ⟨T, b, off, cs, m, rfl, hr, fun j hj => ?_⟩⟩
    · obtain ⟨i, hi, rfl⟩ := List.mem_map.1 he
      exact (hF i (List.mem_range.1 hi)).1
    · rw [ev_length, List.length_map, List.length_range] at hj
      have hi : j / 2 < ((List.range len).map F).length := by simp; omega
      obtain ⟨h1, h2⟩ := two_at (f := fun e => .int .u64 (e.1 : Int)) (g := fun e => .int .u64 (e.2 : Int)) ((List.range len).map F) (j / 2) hi
      have hFi := (hF (j / 2) (by simpa using hi)).2
      simp only [List.getElem_map, List.getElem_range] at h1 h2
      rw [← hr.cell]
      rcases Nat.mod_two_eq_zero_or_one j with hj2 | hj2
      · have ej : j = j / 2 * 2 := by omega
        have := hFi.1
        rw [← ej] at this h1
        rw [this]; exact h1.symm
      · have ej : j = j / 2 * 2 + 1 := by omega
        have := hFi.2
        rw [Nat.add_assoc, ← ej] at this
        rw [← ej] at h2
        rw [this]; exact h2.symm
set_option maxRecDepth 100000 in
/-- An edge of an argument, opened. -/
theorem edge_arg {H : Type} {enc : TypeId × Value → H} {w : World} {r : Reach} {b0 base : Nat} {spare : Nat → Bool} {held : Bool} {v : Value} {d : DataW H} {p : List MemPlace} (hv : Value.okWide Try.prog w r b0 31 v)
    (h : DataW.Trod enc Try.prog w base spare held 31 v d p) : ∃ m1 m2 : Nat, v = .agg #[.int .u64 (m1 : Int), .int .u64 (m2 : Int)] ∧ m1 < 18446744073709551616 ∧ m2 < 18446744073709551616 := by
  obtain ⟨c0, c1, y0, y1, m, rfl, rfl, rfl, hy0, hy1⟩ := open_agg2 Try.underlying31 (by kernel_rfl) (by kernel_rfl) hv h
  obtain ⟨k0, e0, _, hw0⟩ := DataW.trod_int Try.underlying23 hy0
  obtain ⟨k1, e1, _, hw1⟩ := DataW.trod_int Try.underlying23 hy1
  simp only [List.cons.injEq, and_true] at e0 e1
  subst e0 e1
  have hb0 := bounds_u64 hw0
  have hb1 := bounds_u64 hw1
  refine ⟨k0.toNat, k1.toNat, ?_, by omega, by omega⟩
  rw [show ((k0.toNat : Nat) : Int) = k0 by omega, show ((k1.toNat : Nat) : Int) = k1 by omega]

end Go.Proofs.Ytbkhojopiimbdaa
