/-
  Proved: OctetWalk, called with any bytes and any steps, returns true, and leaves its argument as it was. No condition.
-/
import Derived.Test.YtfdfoijpkikfbaaWalkLaw
import Derived.Test.YtfdfoijpkikfbaaLiftB
namespace Go.Proofs.Ytfdfoijpkikfbaa
open Go.ChangeShapes Go.WideShapes Go.ChangeAt Go.RowKit Go.Joins Go.Deep

instance : Inhabited Stp := ⟨⟨0, 0, 0⟩⟩

set_option maxRecDepth 100000 in
set_option maxHeartbeats 1000000 in
theorem walk_zero (s0 : ByteArray) (A : Option Addr) (c : Nat) (w : World) (hs0 : s0.size ≤ 2000) :
    Calls Try.prog 3 #[.agg #[.string s0, .slice A 0 c]] w fun e w' => e = .returned (.bool true) ∧ Below w.heap.size w w' := by
  go_enter Try.func3, Try.ntmps3
  go_wp2_with fail
  refine (great_any s0 _ 0 c _ (by omega) false (by simp; omega)).mono ?_
  rintro e w1 ⟨rfl, hb1⟩
  have hbox1 := (Row.new w 24 [.string s0, .slice A 0 c] (0, 0)).below hb1 (by simp)
  have HBW1 := Lib.hid (((Below.refl w.heap.size w).alloc (Nat.le_refl _) _).trans (hb1.mono (by simp)))
  obtain ⟨wb, cap, hcv, hrb, hbb⟩ := conv_bytes w1 s0
  have HBOX1 := Lib.hid hbox1
  have hc0 := hbox1.cell 0
  have hop := open_any _ _ cap wb hrb (by rw [size_list]; omega)
  rw [size_list] at hop
  have HOP := Lib.hid hop
  have HBB := Lib.hid hbb
  simp at hc0
  clear hbox1 hb1 hrb hbb hop
  go_wp2_with fail
  refine HOP.out.mono ?_
  rintro e w2 ⟨g, rfl, hg, hrd, hb2⟩
  have HBOX2 := Lib.hid ((HBOX1.out.below HBB.out HBOX1.out.lt).below hb2 (Nat.lt_of_lt_of_le HBOX1.out.lt HBB.out.size))
  have HB2 := Lib.hid ((HBW1.out.trans (HBB.out.mono HBW1.out.size)).trans (hb2.mono (HBW1.out.trans (HBB.out.mono HBW1.out.size)).size))
  have hc0 := HBOX2.out.cell 0
  have hc1 := HBOX2.out.cell 1
  simp at hc0 hc1
  clear hrd hb2 hg
  go_wp2_with fail
  go_loopw [6] (fun i wr => i = .int .i64 0 ∧ w2 = wr) (fun _ _ => 0)
  case atStart => exact ⟨rfl, rfl⟩
  case round =>
    obtain ⟨rfl, rfl⟩ := hrel
    go_wp2_with fail
    refine (head_any _).mono ?_
    rintro e w3 ⟨rfl, hb3⟩
    go_wp2
    go_ret
    exact ⟨rfl, HB2.out.trans (hb3.mono HB2.out.size)⟩

/-- The value of an argument of type Asks, read: a text, and steps. -/
theorem asks_open {H : Type} {enc : TypeId × Value → H} {w : World} {r : Reach} {b0 : Nat} {v : Value} {d : DataW H} {p : List MemPlace} (hv : Value.okWide Try.prog w r b0 24 v)
    (h : DataW.Trod enc Try.prog w 0 (fun _ => true) true 24 v d p) :
    ∃ s : ByteArray, s.size ≤ 9223372036854775807 ∧ ((∃ A c, v = .agg #[.string s, .slice A 0 c]) ∨
      ∃ (b off n c : Nat) (F : Nat → Stp), v = .agg #[.string s, .slice (some ⟨b, off, none⟩) n c] ∧ Stps w b off n F) := by
  obtain ⟨c0, c1, y0, y1, m, rfl, rfl, rfl, hy0, hy1⟩ := open_agg2 Try.underlying24 (by kernel_rfl) (by kernel_rfl) hv h
  obtain ⟨s, e0, _, hs⟩ := DataW.trod_string Try.underlying9 hy0
  unfold maxLen at hs
  simp only [List.cons.injEq, and_true] at e0
  subst e0
  refine ⟨s, by omega, ?_⟩
  rcases rows_open Try.underlying22 Try.underlying31 (by kernel_rfl) (by kernel_rfl) (by decide) hy1 with h0 | ⟨a, cap, h0⟩ | ⟨b, off, len, cap, h0, hpos, hl, hm, hb, hcell⟩
  · simp only [List.cons.injEq, and_true] at h0
    subst h0
    exact .inl ⟨_, _, rfl⟩
  · simp only [List.cons.injEq, and_true] at h0
    subst h0
    exact .inl ⟨_, _, rfl⟩
  · simp only [List.cons.injEq, and_true] at h0
    subst h0
    have hall : ∀ i, i < len → ∃ f : Stp, w.cell? ⟨b, off + i * 3, none⟩ = some (.int .i64 f.a) ∧ w.cell? ⟨b, off + i * 3 + 1, none⟩ = some (.int .i64 f.n) ∧
        w.cell? ⟨b, off + i * 3 + 2, none⟩ = some (.int .i64 f.m) ∧ f.m ≤ 9223372036854775807 := by
      intro i hi
      obtain ⟨v0, z0, n0, k0, t0⟩ := hcell i hi 0 _ rfl
      obtain ⟨v1, z1, n1, k1, t1⟩ := hcell i hi 1 _ rfl
      obtain ⟨v2, z2, n2, k2, t2⟩ := hcell i hi 2 _ rfl
      obtain ⟨x0, e0, _, _⟩ := DataW.trod_int Try.underlying3 t0
      obtain ⟨x1, e1, _, _⟩ := DataW.trod_int Try.underlying3 t1
      obtain ⟨x2, e2, _, w2⟩ := DataW.trod_int Try.underlying3 t2
      simp only [List.cons.injEq, and_true] at e0 e1 e2
      subst e0 e1 e2
      have b2 := bounds_i64 w2
      exact ⟨⟨x0, x1, x2⟩, k0, k1, k2, b2.2⟩
    obtain ⟨F, hF⟩ := choose_below hall
    exact .inr ⟨b, off, len, cap, F, rfl, hb, hF⟩

theorem walk_any {H : Type} {enc : TypeId × Value → H} {w : World} {r : Reach} {b0 : Nat} {v : Value} {d : DataW H} {p : List MemPlace} (hv : Value.okWide Try.prog w r b0 24 v)
    (h : DataW.Trod enc Try.prog w 0 (fun _ => true) true 24 v d p) :
    Calls Try.prog 3 #[v] w fun e w' => e = .returned (.bool true) ∧ Below w.heap.size w w' := by
  obtain ⟨s, hs, ⟨A, c, rfl⟩ | ⟨b, off, n, c, F, rfl, hF⟩⟩ := asks_open hv h
  · by_cases hg : s.size ≤ 2000
    · exact walk_zero s A c w hg
    · exact walk_great s A 0 c w hs (by omega)
  · by_cases hg : s.size ≤ 2000 ∧ n ≤ 60
    · exact walk_some s b off n c F w hg.1 hg.2 hF
    · exact walk_great s _ n c w hs (by omega)

set_option maxRecDepth 100000 in
theorem walk_lifted (os : Os) (started : os.Started) (H : Type) (enc : TypeId × Value → H) :
    ReturnsInHanded {} Try.checked os 3 .any (Rows.octetWalkSpec.pre6 enc Try.prog Try.f3 Rows.octetWalkRow.domain false) (Rows.octetWalkSpec.post enc Try.prog Try.f3 false true false false) := by
  refine returnsInHanded_of_change (C := Try.checked) Try.own started (by kernel_rfl) Try.func3
    (ChangeSpec.witness6 (enc := enc) (C := Try.checked) false ⟨#[], #[.agg #[.string ⟨#[]⟩, .slice none 0 0]], []⟩ 8 (by kernel_rfl) (by kernel_rfl) (by kernel_rfl) (by kernel_rfl)) ?_
  intro W base args ds gs before hval0 hW hcnd _
  have hval : ∀ (j : Nat) t v, Try.f3.params[j]? = some t → args[j]? = some v → Value.okWide Try.prog W .any base t v := hval0
  have hW' := hW
  obtain ⟨p, q, hA0, hV, rfl, hfz, hnd⟩ := hW
  have hA : DataW.TrodAll enc Try.prog W 0 (fun _ => true) true Try.f3.params.toList args.toList ds p := hA0
  rw [Try.params3] at hA hval
  obtain ⟨v0, d0, rfl, rfl, h0⟩ := trodAll_one hA
  obtain ⟨rfl, rfl⟩ := trodVars_none hV
  have hv0 := hval 0 _ v0 rfl rfl
  clear hA0 hval0
  simp only [List.append_nil] at hW'
  refine (walk_any hv0 h0).mono fun e W' ⟨he, hb⟩ => ?_
  subst he
  exact ⟨_, rfl, law_post (pa := p) (pv := []) hW' (fun _ _ _ => trodAll_mk1 (shut_bool Try.underlying4 true))
    (fun sp hsp => trodAll_mk1 (WideElems.Trod_stays Try.laidOut (by kernel_rfl) (of_decide_eq_true (by kernel_rfl)) h0 (fun x hx => hb.same (hW'.lt x hx)) (fun x hx => hsp x hx))) (fun _ _ => rfl) (by simp) hb
    (ok_one (by kernel_rfl) rfl (okWide_bool_mk Try.underlying4 true))⟩

theorem walk_holds : Rows.OctetWalkSaid :=
  OpenClaim.holds_of_wide 3 Try.f3 rfl rfl rfl rfl rfl rfl rfl ⟨rfl, rfl, rfl, rfl, rfl⟩ rfl rfl rfl rfl rfl (by kernel_rfl) Try.func3 (by kernel_rfl)
    (of_decide_eq_true (by kernel_rfl)) (by unfold Func.isWrapper; first | (rw [if_pos (by decide +kernel)]; kernel_rfl) | (rw [if_neg (by decide +kernel)]; exact ⟨rfl, rfl⟩))
    (fun os started H enc _ => walk_lifted os started H enc)

end Go.Proofs.Ytfdfoijpkikfbaa
