/-
  Proved: OctetMore, called with any bytes, any steps and any further bytes, returns true, and leaves its arguments as they were. No condition.
-/
import Derived.Test.YtfdfoijpkikfbaaMore
import Derived.Test.YtfdfoijpkikfbaaWalkProof
namespace Go.Proofs.Ytfdfoijpkikfbaa
open Go.ChangeShapes Go.WideShapes Go.ChangeAt Go.RowKit Go.Joins Go.Deep

theorem more_any {H : Type} {enc : TypeId × Value → H} {w : World} {r : Reach} {b0 : Nat} {v : Value} {d : DataW H} {p : List MemPlace} (t : ByteArray) (ht : t.size ≤ 9223372036854775807) (hv : Value.okWide Try.prog w r b0 24 v)
    (h : DataW.Trod enc Try.prog w 0 (fun _ => true) true 24 v d p) :
    Calls Try.prog 6 #[v, .string t] w fun e w' => e = .returned (.bool true) ∧ Below w.heap.size w w' := by
  obtain ⟨s, hs, hcase⟩ := asks_open hv h
  obtain ⟨A, n, c, rfl, hF⟩ : ∃ A n c, v = .agg #[.string s, .slice A n c] ∧ (n = 0 ∨ ∃ b off F, A = some ⟨b, off, none⟩ ∧ Stps w b off n F) := by
    rcases hcase with ⟨A, c, rfl⟩ | ⟨b, off, n, c, F, rfl, hF⟩
    · exact ⟨A, 0, c, rfl, .inl rfl⟩
    · exact ⟨_, n, c, rfl, .inr ⟨b, off, F, rfl, hF⟩⟩
  by_cases hg : 2000 < s.size ∨ 60 < n
  · exact more_great s t A n c w hs hg
  · by_cases h4 : 400 < t.size
    · exact more_long s t A n c w hs ht hg h4
    · exact more_small s t A n c w (by omega) (by omega) (by omega) hF

set_option maxRecDepth 100000 in
theorem more_lifted (os : Os) (started : os.Started) (H : Type) (enc : TypeId × Value → H) :
    ReturnsInHanded {} Try.checked os 6 .any (Rows.octetMoreSpec.pre6 enc Try.prog Try.f6 Rows.octetMoreRow.domain false) (Rows.octetMoreSpec.post enc Try.prog Try.f6 false true false false) := by
  refine returnsInHanded_of_change (C := Try.checked) Try.own started (by kernel_rfl) Try.func6
    (ChangeSpec.witness6 (enc := enc) (C := Try.checked) false ⟨#[], #[.agg #[.string ⟨#[]⟩, .slice none 0 0], .string ⟨#[]⟩], []⟩ 8 (by kernel_rfl) (by kernel_rfl) (by kernel_rfl) (by kernel_rfl)) ?_
  intro W base args ds gs before hval0 hW hcnd _
  have hval : ∀ (j : Nat) t v, Try.f6.params[j]? = some t → args[j]? = some v → Value.okWide Try.prog W .any base t v := hval0
  have hW' := hW
  obtain ⟨p, q, hA0, hV, rfl, hfz, hnd⟩ := hW
  have hA : DataW.TrodAll enc Try.prog W 0 (fun _ => true) true Try.f6.params.toList args.toList ds p := hA0
  rw [Try.params6] at hA hval
  obtain ⟨v0, v1, d0, d1, p0, p1, rfl, rfl, rfl, h0, h1⟩ := trodAll_two hA
  obtain ⟨rfl, rfl⟩ := trodVars_none hV
  have hv0 := hval 0 _ v0 rfl rfl
  obtain ⟨t, rfl, rfl, rfl, ht⟩ := Go.ChangeMaps.open_string Try.underlying9 (hval 1 _ v1 rfl rfl) h1
  clear hA0 hval0
  simp only [List.append_nil] at hW'
  unfold maxLen at ht
  refine (more_any t (by omega) hv0 h0).mono fun e W' ⟨he, hb⟩ => ?_
  subst he
  exact ⟨_, rfl, law_post (pa := p0) (pv := []) hW' (fun _ _ _ => trodAll_mk1 (shut_bool Try.underlying4 true))
    (fun sp hsp => by
      have h2 := trodAll_mk2 (WideElems.Trod_stays (sp' := sp) Try.laidOut (by kernel_rfl) (of_decide_eq_true (by kernel_rfl)) h0 (fun x hx => hb.same (hW'.lt x hx)) (fun x hx => hsp x hx)) (Go.ChangeMaps.shut_string (s := t) Try.underlying9 (by unfold maxLen; omega))
      rw [List.append_nil] at h2
      exact h2) (fun _ _ => rfl) (by simp) hb
    (ok_one (by kernel_rfl) rfl (okWide_bool_mk Try.underlying4 true))⟩

theorem more_holds : Rows.OctetMoreSaid :=
  OpenClaim.holds_of_wide 6 Try.f6 rfl rfl rfl rfl rfl rfl rfl ⟨rfl, rfl, rfl, rfl, rfl⟩ rfl rfl rfl rfl rfl (by kernel_rfl) Try.func6 (by kernel_rfl)
    (of_decide_eq_true (by kernel_rfl)) (by unfold Func.isWrapper; first | (rw [if_pos (by decide +kernel)]; kernel_rfl) | (rw [if_neg (by decide +kernel)]; exact ⟨rfl, rfl⟩))
    (fun os started H enc _ => more_lifted os started H enc)

end Go.Proofs.Ytfdfoijpkikfbaa
