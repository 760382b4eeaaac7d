/-
  Proved: OctetOrder, called with any two numbers, two texts and width's place, returns true, and leaves its argument as it was. No condition.
-/
import Derived.Test.YtfdfoijpkikfbaaRows
import Derived.Test.YtfdfoijpkikfbaaOrder
import Derived.Test.YtfdfoijpkikfbaaLift
import Derived.OpenShut
namespace Go.Proofs.Ytfdfoijpkikfbaa
open Go.ChangeShapes Go.WideShapes Go.ChangeAt Go.RowKit Go.Joins

theorem order_any (x0 x1 x4 : Int) (s t : ByteArray) (w : World) (h0 : 0 ≤ x0 ∧ x0 < 18446744073709551616) (h1 : 0 ≤ x1 ∧ x1 < 18446744073709551616) (h4 : 0 ≤ x4) (hs : s.size ≤ 9223372036854775807) (ht : t.size ≤ 9223372036854775807) :
    Calls Try.prog 5 #[.agg #[.int .u64 x0, .int .u64 x1, .string s, .string t, .int .u8 x4]] w fun e w' => e = .returned (.bool true) ∧ Below w.heap.size w w' := by
  obtain ⟨h00, h01⟩ := h0
  obtain ⟨h10, h11⟩ := h1
  obtain ⟨a, rfl⟩ := Int.eq_ofNat_of_zero_le h00
  obtain ⟨b, rfl⟩ := Int.eq_ofNat_of_zero_le h10
  by_cases h : s.size ≤ 400 ∧ t.size ≤ 400
  · obtain ⟨hs4, ht4⟩ := h
    have hd : x4 % 4 = 0 ∨ x4 % 4 = 1 ∨ x4 % 4 = 2 ∨ x4 % 4 = 3 := by omega
    rcases hd with hd | hd | hd | hd
    · exact order_1 a b x4 s t w hs4 ht4 hd h4
    · exact order_2 a b x4 s t w hs4 ht4 hd h4
    · exact order_4 a b x4 s t w hs4 ht4 hd h4
    · exact order_8 a b x4 s t w hs4 ht4 hd h4 (by omega) (by omega)
  · exact order_great a b x4 s t w hs ht (by omega)

set_option maxRecDepth 100000 in
theorem order_lifted (os : Os) (started : os.Started) (H : Type) (enc : TypeId × Value → H) :
    ReturnsInHanded {} Try.checked os 5 .any (Rows.octetOrderSpec.pre6 enc Try.prog Try.f5 Rows.octetOrderRow.domain false) (Rows.octetOrderSpec.post enc Try.prog Try.f5 false true false false) := by
  refine returnsInHanded_of_change (C := Try.checked) Try.own started (by kernel_rfl) Try.func5
    (ChangeSpec.witness6 (enc := enc) (C := Try.checked) false ⟨#[], #[.agg #[.int .u64 0, .int .u64 0, .string ⟨#[]⟩, .string ⟨#[]⟩, .int .u8 0]], []⟩ 8 (by kernel_rfl) (by kernel_rfl) (by kernel_rfl) (by kernel_rfl)) ?_
  intro W base args ds gs before hval0 hW hcnd _
  have hval : ∀ (j : Nat) t v, Try.f5.params[j]? = some t → args[j]? = some v → Value.okWide Try.prog W .any base t v := hval0
  have hW' := hW
  obtain ⟨p, q, hA0, hV, rfl, hfz, hnd⟩ := hW
  have hA : DataW.TrodAll enc Try.prog W 0 (fun _ => true) true Try.f5.params.toList args.toList ds p := hA0
  rw [Try.params5] at hA hval
  obtain ⟨v0, d0, rfl, rfl, h0⟩ := trodAll_one hA
  obtain ⟨rfl, rfl⟩ := trodVars_none hV
  obtain ⟨c0, c1, c2, c3, c4, y0, y1, y2, y3, y4, n, rfl, t0, t1, t2, t3, t4⟩ := five_fields Try.underlying51 (by kernel_rfl) (by kernel_rfl) (hval 0 _ v0 rfl rfl) h0
  obtain ⟨x0, e0, _, w0⟩ := DataW.trod_int Try.underlying37 t0
  obtain ⟨x1, e1, _, w1⟩ := DataW.trod_int Try.underlying37 t1
  obtain ⟨s, e2, _, hs⟩ := DataW.trod_string Try.underlying9 t2
  obtain ⟨t, e3, _, ht⟩ := DataW.trod_string Try.underlying9 t3
  obtain ⟨x4, e4, _, w4⟩ := DataW.trod_int Try.underlying5 t4
  simp only [List.cons.injEq, and_true] at e0 e1 e2 e3 e4
  subst e0 e1 e2 e3 e4
  clear hA0 hval0
  simp only [List.append_nil] at hW'
  have b0 : 0 ≤ x0 ∧ x0 < 18446744073709551616 := by have := bounds_u64 w0; omega
  have b1 : 0 ≤ x1 ∧ x1 < 18446744073709551616 := by have := bounds_u64 w1; omega
  have b4 : 0 ≤ x4 := by have := bounds_u8 w4; omega
  unfold maxLen at hs ht
  refine (order_any x0 x1 x4 s t W b0 b1 b4 (by omega) (by omega)).mono fun e W' ⟨he, hb⟩ => ?_
  subst he
  exact ⟨_, rfl, law_post (pa := p) (pv := []) hW' (fun _ _ _ => trodAll_mk1 (shut_bool Try.underlying4 true))
    (fun sp hsp => trodAll_mk1 (WideElems.Trod_stays Try.laidOut (by kernel_rfl) (of_decide_eq_true (by kernel_rfl)) h0 (fun x hx => hb.same (hW'.lt x hx)) (fun x hx => hsp x hx))) (fun _ _ => rfl) (by simp) hb
    (ok_one (by kernel_rfl) rfl (okWide_bool_mk Try.underlying4 true))⟩

theorem order_holds : Rows.OctetOrderSaid :=
  OpenClaim.holds_of_wide 5 Try.f5 rfl rfl rfl rfl rfl rfl rfl ⟨rfl, rfl, rfl, rfl, rfl⟩ rfl rfl rfl rfl rfl (by kernel_rfl) Try.func5 (by kernel_rfl)
    (of_decide_eq_true (by kernel_rfl)) (by unfold Func.isWrapper; first | (rw [if_pos (by decide +kernel)]; kernel_rfl) | (rw [if_neg (by decide +kernel)]; exact ⟨rfl, rfl⟩))
    (fun os started H enc _ => order_lifted os started H enc)

end Go.Proofs.Ytfdfoijpkikfbaa
