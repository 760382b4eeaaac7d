/-
  LsnsBytes holds of the landed code: of every argument that can be read as data the statement returns true, and nothing that was there is turned. No condition.
-/
import Derived.Test.YtpjgmblhlhnniaaLsnsLift
import Derived.Test.YtpjgmblhlhnniaaLsnsBytes
namespace Go.Proofs.Ytpjgmblhlhnniaa
open Go.ChangeShapes Go.WideShapes Go.ChangeAt Go.RowKit Go.Joins Go.Deep

theorem trod_bytes {H : Type} {enc : TypeId × Value → H} {w : World} {base : Nat} {spare : Nat → Bool} {held : Bool} {fuel : Nat} {v : Value} {x : DataW H × List MemPlace} (h : DataW.trod enc Try.prog w base spare held fuel 44 [v] = some x) :
    ∃ (A : Option Addr) (n c : Nat) (T : TypeId) (l : List UInt8), v = .slice A n c ∧ n ≤ c ∧ c ≤ 9223372036854775807 ∧ (A = none → c = 0) ∧ l.length = n ∧ Reads T w A l := by
  have hmx : maxLen ≤ 9223372036854775807 := by unfold maxLen; omega
  rcases nums_open Try.underlying44 Try.underlying5 (by kernel_rfl) h with h0 | ⟨a, cap, h0, hm⟩ | ⟨b, off, len, cap, h0, hpos, hl, hm, hb, hcell⟩
  · simp only [List.cons.injEq, and_true] at h0
    exact ⟨none, 0, 0, 0, [], h0, Nat.le_refl _, by omega, fun _ => rfl, rfl, Reads.nil⟩
  · simp only [List.cons.injEq, and_true] at h0
    exact ⟨some a, 0, cap, 0, [], h0, Nat.zero_le _, by omega, (fun e => by cases e), rfl, Reads.nil⟩
  · simp only [List.cons.injEq, and_true] at h0
    obtain ⟨F, hF⟩ := choose_below hcell
    obtain ⟨T, cs, m, hr⟩ := row_of_cell' (hF 0 hpos).1
    refine ⟨some ⟨b, off, none⟩, len, cap, T, (List.range len).map fun i => UInt8.ofNat (F i).toNat, h0, hl, by omega, (fun e => by cases e), by simp, fun _ => ⟨b, off, cs, m, rfl, hr, fun j hj => ?_⟩⟩
    have hj : j < len := by simpa using hj
    obtain ⟨h1, hw⟩ := hF j hj
    have hbd := bounds_u8 hw
    rw [← hr.cell, h1, byt_get _ _ (by simpa using hj)]
    simp only [List.getElem_map, List.getElem_range, UInt8.toNat_ofNat', Option.some.injEq]
    congr 1
    omega
theorem bytes_open {H : Type} {enc : TypeId × Value → H} {w : World} {r : Reach} {b0 base : Nat} {spare : Nat → Bool} {held : Bool} {v : Value} {d : DataW H} {p : List MemPlace} (hv : Value.okWide Try.prog w r b0 44 v)
    (h : DataW.Trod enc Try.prog w base spare held 44 v d p) :
    ∃ (A : Option Addr) (n c : Nat) (T : TypeId) (l : List UInt8), v = .slice A n c ∧ n ≤ c ∧ c ≤ 9223372036854775807 ∧ (A = none → c = 0) ∧ l.length = n ∧ Reads T w A l := by
  obtain ⟨fuel, hf⟩ := h
  obtain ⟨q, n, c, rfl⟩ := okWide_slice Try.underlying44 hv
  exact trod_bytes hf

set_option maxRecDepth 100000 in
theorem bytes_lifted (os : Os) (started : os.Started) (H : Type) (enc : TypeId × Value → H) :
    ReturnsInHanded {} Try.checked os 7 .any (Rows.lsnsBytesSpec.pre6 enc Try.prog Try.f7 Rows.lsnsBytesRow.domain false) (Rows.lsnsBytesSpec.post enc Try.prog Try.f7 false true false false) := by
  refine returnsInHanded_of_change (C := Try.checked) Try.own started (by kernel_rfl) Try.func7
    (ChangeSpec.witness6 (enc := enc) (C := Try.checked) false ⟨#[], #[.agg #[.int .u64 0, .slice none 0 0], .slice none 0 0], []⟩ 8 (by kernel_rfl) (by kernel_rfl) (by kernel_rfl) (by kernel_rfl)) ?_
  intro W base args ds gs before hval0 hW hcnd _
  have hval : ∀ (j : Nat) t v, Try.f7.params[j]? = some t → args[j]? = some v → Value.okWide Try.prog W .any base t v := hval0
  have hW' := hW
  obtain ⟨p, q, hA0, hV, rfl, hfz, hnd⟩ := hW
  have hA : DataW.TrodAll enc Try.prog W 0 (fun _ => true) true Try.f7.params.toList args.toList ds p := hA0
  rw [Try.params7] at hA hval
  obtain ⟨v0, v1, d0, d1, p0, p1, rfl, rfl, rfl, h0, h1⟩ := trodAll_two hA
  obtain ⟨rfl, rfl⟩ := trodVars_none hV
  have hv0 := hval 0 _ v0 rfl rfl
  obtain ⟨x0, e0, hi0, hn0⟩ := lsns_open hv0 h0
  have hv1 := hval 1 _ v1 rfl rfl
  obtain ⟨A, n, c, T, l, e1, hnc, hcm, hnil, hl, hr⟩ := bytes_open hv1 h1
  clear hA0 hval0
  simp only [List.append_nil] at hW'
  have hcall := bytes_law (T := T) x0 A n c l W hi0 hn0 hl hr hnc hnil
  rw [← e0, ← e1] at hcall
  refine hcall.mono fun e W' ⟨he, hb⟩ => ?_
  subst he
  exact ⟨_, rfl, law_post (pv := []) hW' (fun _ _ _ => trodAll_mk1 (shut_bool Try.underlying4 true))
    (fun sp hsp => trodAll_mk2 (WideElems.Trod_stays (sp' := sp) Try.laidOut (by kernel_rfl) (of_decide_eq_true (by kernel_rfl)) h0 (fun x hx => hb.same (hW'.lt x (by simp [hx]))) (fun x hx => hsp x (by simp [hx]))) (WideElems.Trod_stays (sp' := sp) Try.laidOut (by kernel_rfl) (of_decide_eq_true (by kernel_rfl)) h1 (fun x hx => hb.same (hW'.lt x (by simp [hx]))) (fun x hx => hsp x (by simp [hx])))) (fun _ _ => rfl) (by simp) hb
    (ok_one (by kernel_rfl) rfl (okWide_bool_mk Try.underlying4 true))⟩

theorem bytes_said : Rows.LsnsBytesSaid :=
  OpenClaim.holds_of_wide 7 Try.f7 rfl rfl rfl rfl rfl rfl rfl ⟨rfl, rfl, rfl, rfl, rfl⟩ rfl rfl rfl rfl rfl (by kernel_rfl) Try.func7 (by kernel_rfl)
    (of_decide_eq_true (by kernel_rfl)) (by unfold Func.isWrapper; first | (rw [if_pos (by decide +kernel)]; kernel_rfl) | (rw [if_neg (by decide +kernel)]; exact ⟨rfl, rfl⟩))
    (fun os started H enc _ => bytes_lifted os started H enc)

end Go.Proofs.Ytpjgmblhlhnniaa
