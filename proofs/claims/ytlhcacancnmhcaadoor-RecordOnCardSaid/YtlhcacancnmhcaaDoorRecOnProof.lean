/-
  Proved: RecordOn, called with any two rows of records and any text, returns true, and leaves its arguments as they were, where the package's table lies as its initialiser lays it (tied by the card to the program's text). No other condition.
-/
import Derived.Test.YtlhcacancnmhcaaDoorRecLift
import Derived.Test.YtlhcacancnmhcaaDoorRecOnLaw
import Derived.Test.YtlhcacancnmhcaaDoorCards
import Derived.SevenTiedAt
import Derived.ChangeMaps5
namespace Go.Proofs.YtlhcacancnmhcaaDoor
open Go Go.ChangeShapes Go.WideShapes Go.ChangeAt Go.RowKit Go.Joins Go.Deep

theorem recordOn_met {H : Type} {enc : TypeId × Value → H} {w : World} {A B : Option Addr} {n c m d : Nat} {s : ByteArray} {x y : DataW H} {p q : List MemPlace} (hT : Tab w) (h : DataW.Trod enc Tryd.prog w 0 (fun _ => true) true 22 (.slice A n c) x p) (h' : DataW.Trod enc Tryd.prog w 0 (fun _ => true) true 22 (.slice B m d) y q) :
    Calls Tryd.prog 4 #[.slice A n c, .slice B m d, .string s] w fun e w' => e = .returned (.bool true) ∧ Below w.heap.size w w' := by
  obtain ⟨fuel, hf⟩ := h
  obtain ⟨fuel', hf'⟩ := h'
  obtain ⟨A', n', c', l, hv, _, _, hA, rfl, hr⟩ := recs_open (v := .slice A n c) (by simpa [Value.cells] using hf)
  obtain ⟨B', m', d', k, hv', _, _, hB, rfl, hr'⟩ := recs_open (v := .slice B m d) (by simpa [Value.cells] using hf')
  injection hv with e1 e2 e3
  injection hv' with e4 e5 e6
  subst e1 e2 e3 e4 e5 e6
  by_cases hg : ¬ Tiny l ∨ ¬ Tiny k ∨ 300 < s.size
  · exact on_great A B l k c d s w hT hr hr' hg
  · have ht : Tiny l := Classical.not_not.1 fun x => hg (.inl x)
    have ht' : Tiny k := Classical.not_not.1 fun x => hg (.inr (.inl x))
    have hb : s.data.toList.length ≤ 300 := Nat.le_of_not_lt fun x => hg (.inr (.inr x))
    have := on_small A B l k c d s.data.toList w hT hr hr' hA hB ht ht' hb
    rwa [tb_of] at this

set_option maxRecDepth 100000 in
theorem recordOn_lifted (os : Os) (started : os.Started) (H : Type) (enc : TypeId × Value → H) :
    ReturnsInHanded {} Tryd.checked os 4 .any (fun w args => (Rows.recordOnSpec.pre enc Tryd.prog Tryd.f4 [] false w args ∧ laidMetH Tryd.prog laidTab w) ∧ sizedMet enc Tryd.prog Tryd.f4 (OpenSpec.ofChange Rows.recordOnSpec) false w args)
      (Rows.recordOnSpec.post enc Tryd.prog Tryd.f4 false true false false) := by
  refine returnsInHanded_of_change_and (C := Tryd.checked) (X := fun w _ => laidMetH Tryd.prog laidTab w) (fun _ _ _ hh h => h.of_heap hh) Tryd.own started (by kernel_rfl) Tryd.func4
    (ChangeSpec.witness_shaped (enc := enc) (C := Tryd.checked) (os := os) (X := fun w _ => laidMetH Tryd.prog laidTab w) false (World.doorLaid Tryd.prog 400 os) #[.slice none 0 0, .slice none 0 0, .string ⟨#[]⟩] 8 rfl (World.shaped_of_RefB (by kernel_rfl) (by kernel_rfl)) (by kernel_rfl) (by kernel_rfl) (by kernel_rfl) (door_met os _)) ?_
  intro W base args ds gs before hval0 hW _ _ hL _
  have hval : ∀ (j : Nat) t v, Tryd.f4.params[j]? = some t → args[j]? = some v → Value.okWide Tryd.prog W .any base t v := hval0
  have hW' := hW
  obtain ⟨p, q, hA0, hV, rfl, hfz, hnd⟩ := hW
  have hA : DataW.TrodAll enc Tryd.prog W 0 (fun _ => true) true Tryd.f4.params.toList args.toList ds p := hA0
  rw [Tryd.params4] at hA hval
  obtain ⟨v0, v1, v2, d0, d1, d2, p0, p1, p2, rfl, rfl, rfl, h0, h1, h2⟩ := trodAll_three hA
  obtain ⟨rfl, rfl⟩ := trodVars_none hV
  obtain ⟨A0, n0, c0, rfl⟩ := okWide_slice Tryd.underlying22 (hval 0 _ v0 rfl rfl)
  obtain ⟨A1, n1, c1, rfl⟩ := okWide_slice Tryd.underlying22 (hval 1 _ v1 rfl rfl)
  obtain ⟨s2, rfl, rfl, rfl, ws2⟩ := Go.ChangeMaps.open_string Tryd.underlying9 (hval 2 _ v2 rfl rfl) h2
  have hT := tab_of_laid hL
  clear hA0 hval0
  simp only [List.append_nil] at hW'
  refine (recordOn_met hT h0 h1).mono fun e W' ⟨he, hb⟩ => ?_
  subst he
  exact ⟨_, rfl, law_post (pa := p0 ++ (p1 ++ [])) (pv := []) hW' (fun _ _ _ => trodAll_mk1 (shut_bool Tryd.underlying4 true))
    (fun sp hsp => trodAll_mk3 (WideElems.Trod_stays Tryd.laidOut (by kernel_rfl) (of_decide_eq_true (by kernel_rfl)) h0 (fun x hx => hb.same (hW'.lt x (by simp [hx]))) (fun x hx => hsp x (by simp [hx]))) (WideElems.Trod_stays Tryd.laidOut (by kernel_rfl) (of_decide_eq_true (by kernel_rfl)) h1 (fun x hx => hb.same (hW'.lt x (by simp [hx]))) (fun x hx => hsp x (by simp [hx]))) (Go.ChangeMaps.shut_string Tryd.underlying9 ws2)) (fun _ _ => rfl) (by simp) hb
    (ok_one (by kernel_rfl) rfl (okWide_bool_mk Tryd.underlying4 true))⟩

theorem recordOn_said : Rows.RecordOnSaid :=
  OpenClaim.holds_of_wide 4 Tryd.f4 rfl rfl rfl rfl rfl rfl rfl ⟨rfl, rfl, rfl, rfl, rfl⟩ rfl rfl rfl rfl rfl (by kernel_rfl) Tryd.func4 (by kernel_rfl)
    (of_decide_eq_true (by kernel_rfl)) (by unfold Func.isWrapper; first | (rw [if_pos (by decide +kernel)]; kernel_rfl) | (rw [if_neg (by decide +kernel)]; exact ⟨rfl, rfl⟩))
    (fun os started H enc _ => recordOn_lifted os started H enc)

theorem recordOn_holds : Rows.RecordOnCardSaid :=
  Claim7.holds_tied_plain_at .later [] [.data] true (true, "01f622e9e07262714a32dd712ec25f8934353812db5a6e6afc6fc81950b13b9b") false
    recordOn_said (fun _ h => by cases h) (by kernel_rfl) (fun _ h => by cases h) recordOn_row_tie rfl ⟨rfl, rfl⟩ (by kernel_rfl) rfl
    (fun f fn hf hfn => by
      obtain rfl : f = 4 := Option.some.inj ((show Tryd.prog.funcNamed Rows.recordOnRow.func = some 4 by kernel_rfl).symm.trans hf) |>.symm
      obtain rfl : fn = Tryd.f4 := (Option.some.inj (Tryd.func4.symm.trans hfn)).symm
      exact ⟨by kernel_rfl, fun j t ht => by
        rw [Tryd.params4] at ht
        have hm : t ∈ [22, 9] := by
          have := Array.mem_of_getElem? ht
          simpa using this
        have hall : ([22, 9].all fun u => !Tryd.prog.wantsStandIn u) = true := by kernel_rfl
        exact (show Tryd.prog.wantsStandIn t = false by simpa using List.all_eq_true.1 hall t hm)⟩)
    (by kernel_rfl)

end Go.Proofs.YtlhcacancnmhcaaDoor
