/-
  The walks over package fabric, part F: New, Send, Count, Take, Double.
-/
import Derived.Test.YtamanckcnhhaiaaFabDel
namespace Go.Proofs.Ytamanckcnhhaiaa
open Go.RowKit

set_option maxRecDepth 100000 in
theorem new_any (w : World) : Calls Try.prog 5 #[] w fun e w' => ∃ d : FV, e = .returned d.ptr ∧ d.l = [] ∧ d.In w' ∧ Below w.heap.size w w' ∧ ∀ k, d.mine k → w.heap.size ≤ k := by
  have HE := Lib.hid (show ∃ d : FV, d.b = w.heap.size ∧ d.l = [] ∧ d.In (w.alloc (.cells #[.bool true, .slice none 0 0] 40)) ∧ Below w.heap.size w (w.alloc (.cells #[.bool true, .slice none 0 0] 40)) ∧ ∀ k, d.mine k → w.heap.size ≤ k from
    ⟨⟨w.heap.size, none, 0, []⟩, rfl, rfl, ⟨Row.new w 40 [.bool true, .slice none 0 0] (0, 0), MsO.nil _⟩, (Below.refl _ w).alloc (Nat.le_refl _) _, fun k hk => by
      rcases hk with rfl | hk
      · exact Nat.le_refl _
      · cases hk⟩)
  go_enter Try.func5, Try.ntmps5
  go_wp2
  go_ret
  obtain ⟨d, hb, h⟩ := HE.out
  exact ⟨d, by unfold FV.ptr; rw [hb]; rfl, h⟩

set_option maxRecDepth 100000 in
theorem send_none (f t : Int) (s : ByteArray) (w : World) : Calls Try.prog 6 #[.pointer none, .int .i64 f, .int .i64 t, .string s] w fun e w' => e = .returned (.int .i64 1) ∧ w' = w := by
  go_enter Try.func6, Try.ntmps6
  go_wp2_with fail
  refine (isNone_yes w).mono ?_
  rintro e w1 ⟨rfl, rfl⟩
  go_wp2
  go_ret
  exact ⟨rfl, rfl⟩

set_option maxRecDepth 100000 in
theorem send_long (d : FV) (f t : Int) (s : ByteArray) (w : World) (h : d.In w) (hs : 262144 < s.size) : Calls Try.prog 6 #[d.ptr, .int .i64 f, .int .i64 t, .string s] w fun e w' => e = .returned (.int .i64 3) ∧ w' = w := by
  have HN := Lib.hid (isNone_no d w h)
  have hsI : (262144 : Int) < (s.size : Int) := by omega
  clear h hs
  unfold FV.ptr at HN ⊢
  go_enter Try.func6, Try.ntmps6
  go_wp2_with fail
  refine HN.out.mono ?_
  rintro e w1 ⟨rfl, rfl⟩
  go_wp2
  go_ret
  exact ⟨rfl, rfl⟩

/-- What a call makes that first does what keeps all that was there. -/
theorem FV.Turned.after {d : FV} {w w1 w' : World} {l : List MB} {a : Value} {e : Ending} (hb : Below w.heap.size w w1) (h : d.Turned w1 l a e w') : d.Turned w l a e w' := by
  obtain ⟨d', h1, h2, h3, h4, h5, h6⟩ := h
  refine ⟨d', h1, h2, h3, h4, (Only.below hb d.mine).then h5 (fun _ _ hk => hk), fun k hk => ?_⟩
  rcases h6 k hk with h7 | h7
  · exact .inl h7
  · exact .inr (Nat.le_trans hb.size h7)

set_option maxRecDepth 100000 in
set_option maxHeartbeats 1000000 in
theorem send_any (d : FV) (f t : Int) (s : ByteArray) (w : World) (h : d.In w) (hs : s.size ≤ 262144) (hL : d.l.length ≤ 100000) : Calls Try.prog 6 #[d.ptr, .int .i64 f, .int .i64 t, .string s] w (d.Turned w (addL d.l ((f, t), s)) (.int .i64 (addE d.l ((f, t), s)))) := by
  have HN := Lib.hid (isNone_no d w h)
  have hsI : ¬ (262144 : Int) < (s.size : Int) := by omega
  have HC := Lib.hid (clone_str s w (by omega))
  have HA := Lib.hid (fun w1 (hb : Below w.heap.size w w1) => (add_any d ((f, t), s) w1 (h.keeps hb) hL).mono fun e w' hh => hh.after hb)
  obtain ⟨Q, hQ⟩ : ∃ Q, d.Turned w (addL d.l ((f, t), s)) (.int .i64 (addE d.l ((f, t), s))) = Q := ⟨_, rfl⟩
  have HE := Lib.hid (show ∀ e w', d.Turned w (addL d.l ((f, t), s)) (.int .i64 (addE d.l ((f, t), s))) e w' → ∃ v, e = .returned v ∧ Q (.returned v) w' from fun e w' hh => by
    have hh' := hh
    obtain ⟨d', h1, _⟩ := hh
    rw [hQ] at hh'
    exact ⟨_, h1, h1 ▸ hh'⟩)
  rw [hQ]
  have HA2 := Lib.hid (fun w1 (hb : Below w.heap.size w w1) => (HA.out w1 hb).mono fun e w' hh => HE.out e w' hh)
  clear h hs hQ HA HE
  unfold mV at HA2
  unfold FV.ptr at HN HA2 ⊢
  simp only at HA2
  go_enter Try.func6, Try.ntmps6
  go_wp2_with fail
  refine HN.out.mono ?_
  rintro e w1 ⟨rfl, rfl⟩
  go_wp2_with first
    | (go_at_call 14; refine HC.out.mono ?_; rintro e w2 ⟨rfl, hb⟩; have HB := Lib.hid hb; clear hb)
    | (go_at_call 13; refine (HA2.out _ HB.out).mono ?_; rintro e w3 ⟨v, rfl, hq⟩)
  exact hq

set_option maxRecDepth 100000 in
theorem count_none (f t : Int) (w : World) : Calls Try.prog 8 #[.pointer none, .int .i64 f, .int .i64 t] w fun e w' => e = .returned (.int .i64 0) ∧ w' = w := by
  go_enter Try.func8, Try.ntmps8
  go_wp2_with fail
  refine (isNone_yes w).mono ?_
  rintro e w1 ⟨rfl, rfl⟩
  go_wp2
  go_ret
  exact ⟨rfl, rfl⟩

set_option maxRecDepth 100000 in
theorem Count_any (d : FV) (f t : Int) (w : World) (h : d.In w) (hL : d.l.length ≤ 100000) : Calls Try.prog 8 #[d.ptr, .int .i64 f, .int .i64 t] w fun e w' => e = .returned (.int .i64 ((qu d.l (f, t)).length : Int)) ∧ Below w.heap.size w w' := by
  have HN := Lib.hid (isNone_no d w h)
  have HC := Lib.hid (count_any d (f, t) w h (by omega))
  clear h
  unfold wayV at HC
  unfold FV.ptr at HN HC ⊢
  simp only at HC
  go_enter Try.func8, Try.ntmps8
  go_wp2_with fail
  refine HN.out.mono ?_
  rintro e w1 ⟨rfl, rfl⟩
  go_wp2_with (go_at_call 17; refine HC.out.mono ?_; rintro e w2 ⟨rfl, hb⟩; have HB := Lib.hid hb; clear hb)
  go_ret
  exact ⟨rfl, HB.out⟩
end Go.Proofs.Ytamanckcnhhaiaa
