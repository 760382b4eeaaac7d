/-
  Proved: OctetStands, called with any slice of fields, returns true, and leaves its argument as it was. No condition.
-/
import Derived.Test.YtfdfoijpkikfbaaStands
import Derived.Test.YtfdfoijpkikfbaaLiftB
namespace Go.Proofs.Ytfdfoijpkikfbaa
open Go.ChangeShapes Go.WideShapes Go.ChangeAt Go.RowKit Go.Joins Go.Deep

instance : Inhabited Fld := ⟨⟨false, 0, ⟨#[]⟩, 0⟩⟩

set_option maxHeartbeats 400000 in
theorem stands_zero (A : Option Addr) (c : Nat) (w : World) :
    Calls Try.prog 4 #[.slice A 0 c] w fun e w' => e = .returned (.bool true) ∧ Below w.heap.size w w' := by
  go_enter Try.func4, Try.ntmps4
  go_wp2_with fail
  go_loopw [5] (fun i wr => i = .int .i64 0 ∧ w = wr) (fun _ _ => 0)
  case atStart => exact ⟨rfl, rfl⟩
  case round =>
    obtain ⟨rfl, rfl⟩ := hrel
    go_wp2_with fail
    refine (head_any _).mono ?_
    rintro e w1 ⟨rfl, hb1⟩
    go_wp2
    go_ret
    exact ⟨rfl, hb1⟩

theorem stands_any {H : Type} {enc : TypeId × Value → H} (v : Value) (w : World) (d : DataW H) (p : List MemPlace) 
    (h : DataW.Trod enc Try.prog w 0 (fun _ => true) true 40 v d p) (hc : ∃ A n c, v = .slice A n c) :
    Calls Try.prog 4 #[v] w fun e w' => e = .returned (.bool true) ∧ Below w.heap.size w w' := by
  obtain ⟨A, n, c, rfl⟩ := hc
  obtain ⟨fuel, hf⟩ := h
  rcases rows_open (cs := [.slice A n c]) Try.underlying40 Try.underlying42 (by kernel_rfl) (by kernel_rfl) (by decide) (by simpa [Value.cells] using hf) with h0 | ⟨a, cap, h0⟩ | ⟨b, off, len, cap, h0, hpos, hl, hm, hb, hcell⟩
  · simp only [List.cons.injEq, and_true, Value.slice.injEq] at h0
    obtain ⟨rfl, rfl, rfl⟩ := h0
    exact stands_zero _ _ _
  · simp only [List.cons.injEq, and_true, Value.slice.injEq] at h0
    obtain ⟨rfl, rfl, rfl⟩ := h0
    exact stands_zero _ _ _
  · simp only [List.cons.injEq, and_true, Value.slice.injEq] at h0
    obtain ⟨rfl, rfl, rfl⟩ := h0
    unfold maxLen at hm
    by_cases h40 : n ≤ 40
    · have hall : ∀ i, i < n → ∃ f : Fld, w.cell? ⟨b, off + i * 4, none⟩ = some (.bool f.tx) ∧ w.cell? ⟨b, off + i * 4 + 1, none⟩ = some (.int .u64 (f.nn : Int)) ∧
          w.cell? ⟨b, off + i * 4 + 2, none⟩ = some (.string f.s) ∧ w.cell? ⟨b, off + i * 4 + 3, none⟩ = some (.int .i64 f.wd) ∧ f.nn < 18446744073709551616 ∧ f.s.size ≤ 9223372036854775807 := by
        intro i hi
        obtain ⟨v0, y0, n0, c0, t0⟩ := hcell i hi 0 _ rfl
        obtain ⟨v1, y1, n1, c1, t1⟩ := hcell i hi 1 _ rfl
        obtain ⟨v2, y2, n2, c2, t2⟩ := hcell i hi 2 _ rfl
        obtain ⟨v3, y3, n3, c3, t3⟩ := hcell i hi 3 _ rfl
        obtain ⟨x0, e0, _⟩ := DataW.trod_bool Try.underlying4 t0
        obtain ⟨x1, e1, _, w1⟩ := DataW.trod_int Try.underlying37 t1
        obtain ⟨x2, e2, _, w2⟩ := DataW.trod_string Try.underlying9 t2
        obtain ⟨x3, e3, _, w3⟩ := DataW.trod_int Try.underlying3 t3
        simp only [List.cons.injEq, and_true] at e0 e1 e2 e3
        subst e0 e1 e2 e3
        have b1 := bounds_u64 w1
        unfold maxLen at w2
        obtain ⟨k, rfl⟩ := Int.eq_ofNat_of_zero_le b1.1
        exact ⟨⟨x0, k, x2, x3⟩, c0, c1, c2, c3, by show k < _; omega, by show x2.size ≤ _; omega⟩
      obtain ⟨F, hF⟩ := choose_below hall
      exact stands_some b off n c F w h40 ⟨hb, hF⟩
    · exact stands_great _ n c w (by omega) (by omega)

set_option maxRecDepth 100000 in
theorem stands_lifted (os : Os) (started : os.Started) (H : Type) (enc : TypeId × Value → H) :
    ReturnsInHanded {} Try.checked os 4 .any (Rows.octetStandsSpec.pre6 enc Try.prog Try.f4 Rows.octetStandsRow.domain false) (Rows.octetStandsSpec.post enc Try.prog Try.f4 false true false false) := by
  refine returnsInHanded_of_change (C := Try.checked) Try.own started (by kernel_rfl) Try.func4
    (ChangeSpec.witness6 (enc := enc) (C := Try.checked) false ⟨#[], #[.slice none 0 0], []⟩ 8 (by kernel_rfl) (by kernel_rfl) (by kernel_rfl) (by kernel_rfl)) ?_
  intro W base args ds gs before hval0 hW hcnd _
  have hval : ∀ (j : Nat) t v, Try.f4.params[j]? = some t → args[j]? = some v → Value.okWide Try.prog W .any base t v := hval0
  have hW' := hW
  obtain ⟨p, q, hA0, hV, rfl, hfz, hnd⟩ := hW
  have hA : DataW.TrodAll enc Try.prog W 0 (fun _ => true) true Try.f4.params.toList args.toList ds p := hA0
  rw [Try.params4] at hA hval
  obtain ⟨v0, d0, rfl, rfl, h0⟩ := trodAll_one hA
  obtain ⟨rfl, rfl⟩ := trodVars_none hV
  obtain ⟨A, len, cap, hv0⟩ := okWide_slice Try.underlying40 (hval 0 _ v0 rfl rfl)
  clear hA0 hval0
  simp only [List.append_nil] at hW'
  refine (stands_any v0 W d0 p h0 ⟨A, len, cap, hv0⟩).mono fun e W' ⟨he, hb⟩ => ?_
  subst he
  exact ⟨_, rfl, law_post (pa := p) (pv := []) hW' (fun _ _ _ => trodAll_mk1 (shut_bool Try.underlying4 true))
    (fun sp hsp => trodAll_mk1 (WideElems.Trod_stays Try.laidOut (by kernel_rfl) (of_decide_eq_true (by kernel_rfl)) h0 (fun x hx => hb.same (hW'.lt x hx)) (fun x hx => hsp x hx))) (fun _ _ => rfl) (by simp) hb
    (ok_one (by kernel_rfl) rfl (okWide_bool_mk Try.underlying4 true))⟩

theorem stands_holds : Rows.OctetStandsSaid :=
  OpenClaim.holds_of_wide 4 Try.f4 rfl rfl rfl rfl rfl rfl rfl ⟨rfl, rfl, rfl, rfl, rfl⟩ rfl rfl rfl rfl rfl (by kernel_rfl) Try.func4 (by kernel_rfl)
    (of_decide_eq_true (by kernel_rfl)) (by unfold Func.isWrapper; first | (rw [if_pos (by decide +kernel)]; kernel_rfl) | (rw [if_neg (by decide +kernel)]; exact ⟨rfl, rfl⟩))
    (fun os started H enc _ => stands_lifted os started H enc)

end Go.Proofs.Ytfdfoijpkikfbaa
