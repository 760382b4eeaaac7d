/-
  TapePlays: the walk.
-/
import Derived.Test.YtikcbalofbgdlaaTapIs
namespace Go.Proofs.Ytikcbalofbgdlaa
open Go.RowKit

/-- At p lies a tape, at B the document's; both are s, in blocks of F; neither has more than n bytes. -/
def Duo (F : Nat → Prop) (p : Value) (B n : Nat) (s : ST) (w : World) : Prop :=
  ∃ (d : TV) (r : RT), d.ptr = p ∧ d.s = s ∧ r.st = s ∧ d.In w ∧ RIn B r w ∧ (∀ k, d.mine k → F k) ∧ F B ∧ s.fin ≤ n

section
variable {F G : Nat → Prop} {w w' : World} {p : Value} {B n : Nat} {s : ST}
theorem Duo.keeps (h : Duo F p B n s w) (hb : Below w.heap.size w w') : Duo F p B n s w' := by
  obtain ⟨d, r, h1, h2, h3, h4, h5, h6⟩ := h
  exact ⟨d, r, h1, h2, h3, h4.keeps hb, h5.keeps hb, h6⟩
theorem Duo.only (h : Duo F p B n s w) (ho : Only G w w') (hd : ∀ k, F k → ¬ G k) : Duo F p B n s w' := by
  obtain ⟨d, r, h1, h2, h3, h4, h5, h6, h7, h8⟩ := h
  exact ⟨d, r, h1, h2, h3, h4.only ho (fun k hk => hd k (h6 k hk)), h5.only ho (hd B h7), h6, h7, h8⟩
theorem Duo.imp (h : Duo F p B n s w) (hi : ∀ k, F k → k < w.heap.size → G k) : Duo G p B n s w := by
  obtain ⟨d, r, h1, h2, h3, h4, h5, h6, h7, h8⟩ := h
  exact ⟨d, r, h1, h2, h3, h4, h5, fun k hk => hi k (h6 k hk) (h4.mineLt k hk), hi B h7 h5.row.lt, h8⟩
theorem Duo.is (h : Duo F p B n s w) : Calls Try.prog 10 #[p, rptr B] w fun e w' => e = .returned (.bool true) ∧ Below w.heap.size w w' := by
  obtain ⟨d, r, rfl, h2, h3, h4, h5, h6⟩ := h
  exact is_any d B r w h4 h5 (h2.trans h3.symm)
theorem Duo.does (h : Duo F p B n s w) (x : ActV) (hx : x.Ok) (hs : x.s.size ≤ 300) (hn : n ≤ 1000000) :
    Calls Try.prog 15 #[p, rptr B, x.val] w fun e w' => e = .returned (.bool true) ∧ Duo (fun k => F k ∨ w.heap.size ≤ k) p B (n + 300) (s.act x) w' ∧ Only F w w' := by
  obtain ⟨d, r, rfl, rfl, h3, h4, h5, h6, h7, h8⟩ := h
  have hfr : r.st.fin = d.s.fin := by rw [h3]
  refine (does_any d B r x w h4 h5 hx (by omega) (by omega)).mono ?_
  rintro e w' ⟨b, d', r', he, hb, e2, e3, k1, k2, k3, k4, k5⟩
  have a1 := (h4.ok.act x (by omega)).2
  rw [hb h3.symm] at he
  refine ⟨he, ⟨d', r', by unfold TV.ptr; rw [e2], e3, by rw [k3, h3], k1, k2, fun k hk => ?_, .inl h7, by omega⟩, k4.imp ?_⟩
  · rcases k5 k hk with h | h
    · exact .inl (h6 k h)
    · exact .inr h
  · rintro k _ (e | e)
    · exact h6 k e
    · exact e ▸ h7
end

/-- What holds at the head of each round. -/
def Round (W : World) (p : Value) (B n : Nat) (w : World) : Prop := Below W.heap.size W w ∧ ∃ s, Duo (fun k => W.heap.size ≤ k) p B n s w

theorem only_since {W w w' : World} {F : Nat → Prop} (hb : Below W.heap.size W w) (ho : Only F w w') (hF : ∀ k, F k → W.heap.size ≤ k) : Below W.heap.size W w' :=
  hb.trans ⟨ho.os, ho.tape, ho.output, ho.size, fun k hk => ho.block k (Nat.lt_of_lt_of_le hk hb.size) (fun h => by have := hF k h; omega)⟩

/-- Two pairs that share nothing. -/
def Four (W : World) (p : Value) (B n : Nat) (s : ST) (p2 : Value) (B2 n2 : Nat) (s2 : ST) (w : World) : Prop :=
  Below W.heap.size W w ∧ ∃ F1 F2 : Nat → Prop, (∀ k, F1 k → ¬ F2 k) ∧ (∀ k, F1 k → W.heap.size ≤ k) ∧ (∀ k, F2 k → W.heap.size ≤ k) ∧ Duo F1 p B n s w ∧ Duo F2 p2 B2 n2 s2 w
section
variable {W w w' : World} {p p2 : Value} {B n B2 n2 : Nat} {s s2 : ST}
theorem Four.swap (h : Four W p B n s p2 B2 n2 s2 w) : Four W p2 B2 n2 s2 p B n s w := by
  obtain ⟨h1, F1, F2, h2, h3, h4, h5, h6⟩ := h
  exact ⟨h1, F2, F1, fun k a b => h2 k b a, h4, h3, h6, h5⟩
theorem Four.keeps (h : Four W p B n s p2 B2 n2 s2 w) (hb : Below w.heap.size w w') : Four W p B n s p2 B2 n2 s2 w' := by
  obtain ⟨h1, F1, F2, h2, h3, h4, h5, h6⟩ := h
  exact ⟨h1.trans (hb.mono h1.size), F1, F2, h2, h3, h4, h5.keeps hb, h6.keeps hb⟩
theorem Four.since (h : Four W p B n s p2 B2 n2 s2 w) : Below W.heap.size W w := h.1
theorem Four.is (h : Four W p B n s p2 B2 n2 s2 w) : Calls Try.prog 10 #[p, rptr B] w fun e w' => e = .returned (.bool true) ∧ Four W p B n s p2 B2 n2 s2 w' := by
  have hh := h
  obtain ⟨h1, F1, F2, h2, h3, h4, h5, h6⟩ := h
  exact h5.is.mono fun e w' k => ⟨k.1, hh.keeps k.2⟩
theorem Four.is2 (h : Four W p B n s p2 B2 n2 s2 w) : Calls Try.prog 10 #[p2, rptr B2] w fun e w' => e = .returned (.bool true) ∧ Four W p B n s p2 B2 n2 s2 w' :=
  h.swap.is.mono fun _ _ k => ⟨k.1, k.2.swap⟩
theorem Four.does (h : Four W p B n s p2 B2 n2 s2 w) (x : ActV) (hx : x.Ok) (hs : x.s.size ≤ 300) (hn : n ≤ 1000000) :
    Calls Try.prog 15 #[p, rptr B, x.val] w fun e w' => e = .returned (.bool true) ∧ Four W p B (n + 300) (s.act x) p2 B2 n2 s2 w' := by
  obtain ⟨h1, F1, F2, h2, h3, h4, h5, h6⟩ := h
  refine (h5.does x hx hs hn).mono fun e w' k => ⟨k.1, only_since h1 k.2.2 h3, fun k => F1 k ∨ w.heap.size ≤ k, fun k => F2 k ∧ k < w.heap.size, ?_, ?_, fun k hk => h4 k hk.1, k.2.1, ?_⟩
  · rintro k (a | a) b
    · exact h2 k a b.1
    · omega
  · rintro k (a | a)
    · exact h3 k a
    · exact Nat.le_trans h1.size a
  · exact (h6.imp fun k a b => ⟨a, b⟩).only k.2.2 fun k a b => h2 k b a.1
theorem Four.does2 (h : Four W p B n s p2 B2 n2 s2 w) (x : ActV) (hx : x.Ok) (hs : x.s.size ≤ 300) (hn : n2 ≤ 1000000) :
    Calls Try.prog 15 #[p2, rptr B2, x.val] w fun e w' => e = .returned (.bool true) ∧ Four W p B n s p2 B2 (n2 + 300) (s2.act x) w' :=
  (h.swap.does x hx hs hn).mono fun _ _ k => ⟨k.1, k.2.swap⟩
theorem Four.round (h : Four W p B n s p2 B2 n2 s2 w) : Round W p B n w := by
  obtain ⟨h1, F1, F2, h2, h3, h4, h5, h6⟩ := h
  exact ⟨h1, s, h5.imp fun k hk _ => h3 k hk⟩
theorem Round.keeps (h : Round W p B n w) (hb : Below w.heap.size w w') : Round W p B n w' := by
  obtain ⟨h1, s, h2⟩ := h
  exact ⟨h1.trans (hb.mono h1.size), s, h2.keeps hb⟩
/-- Copies of both. -/
theorem Round.copies (h : Round W p B n w) : ∃ s, Calls Try.prog 13 #[p] w fun e w1 => ∃ A, e = .returned (.pointer (some ⟨A, 0, none⟩)) ∧
    Hid (Calls Try.prog 14 #[rptr B] w1 fun e w2 => e = .returned (rptr w1.heap.size) ∧ Four W p B n s (.pointer (some ⟨A, 0, none⟩)) w1.heap.size n s w2) := by
  obtain ⟨hW, s, hD⟩ := h
  refine ⟨s, ?_⟩
  have hD1 := hD.imp (G := fun k => W.heap.size ≤ k ∧ k < w.heap.size) fun k a b => ⟨a, b⟩
  obtain ⟨d, r, rfl, rfl, h3, h4, h5, h6, h7, h8⟩ := hD
  refine (copy_any d w h4).mono ?_
  rintro e w1 ⟨c, rfl, k1, k2, k3, k4⟩
  refine ⟨c.A, rfl, Lib.hid ?_⟩
  refine (rcopy_any B r w1 (h5.keeps k2)).mono ?_
  rintro e w2 ⟨rfl, m1, m2⟩
  have hb : Below w.heap.size w w2 := k2.trans (m2.mono k2.size)
  refine ⟨rfl, hW.trans (hb.mono hW.size), fun k => W.heap.size ≤ k ∧ k < w.heap.size, fun k => w.heap.size ≤ k, fun k a b => by omega, fun k a => a.1, fun k a => Nat.le_trans hW.size a, hD1.keeps hb, c, r, rfl, k4, h3, k1.keeps m2, m1, k3, k2.size, h8⟩
end

set_option maxRecDepth 100000 in
set_option maxHeartbeats 1600000 in
theorem plays_any (room : Int) (A : Option Addr) (ca : Nat) (l : List ActV) (w : World) (ha : Acts w A l) (hl : l.length ≤ 9223372036854775807) (hr : room ≤ 9223372036854775807) (hr0 : -9223372036854775808 ≤ room) :
    Calls Try.prog 3 #[.int .i64 room, .slice A l.length ca] w fun e w' => e = .returned (.bool true) ∧ Below w.heap.size w w' := by
  have HA := Lib.hid ha
  clear ha
  have l1 : (l.length : Int) ≤ 9223372036854775807 := by omega
  have HN := Lib.hid (show ∀ w1 A0, Tape w (.pointer (some ⟨A0, 0, none⟩)) ⟨room.toNat, 0, 0, []⟩ w1 → ∀ w2, RIn w1.heap.size ⟨room.toNat, ⟨#[]⟩, 0, 0⟩ w2 → Below w1.heap.size w1 w2 → Round w (.pointer (some ⟨A0, 0, none⟩)) w1.heap.size (300 * 0) w2 from fun w1 A0 ht w2 hr2 hb2 => by
    obtain ⟨d, h1, h2, h3, h4, h5⟩ := ht
    exact ⟨h4.trans (hb2.mono h4.size), _, d, _, h1, h2, rfl, h3.keeps hb2, hr2, h5, h4.size, Nat.le_refl _⟩)
  go_enter Try.func3, Try.ntmps3
  go_wp2_with fail
  refine (new_tape (W := w) room hr (Below.refl _ _)).mono ?_
  rintro e w1 ⟨A0, rfl, h1⟩
  go_wp2_with fail
  refine (rnew_any room w1 hr).mono ?_
  rintro e w2 ⟨rfl, h2, h3, -⟩
  have H0 := Lib.hid (HN.out w1 A0 h1 w2 h2 h3)
  clear h1 h2 h3 HN
  generalize w1.heap.size = B at *
  obtain ⟨hb0, s0, hD0⟩ := H0.out
  have HI := Lib.hid (hD0.is)
  have HD0 := Lib.hid hD0
  have HB0 := Lib.hid hb0
  clear hD0 hb0 H0
  have HH := Lib.hid (fun wx (hb : Below w.heap.size w wx) => (head_any wx).mono fun e w' (hh : _ ∧ _) => show e = .returned (.bool true) ∧ Below w.heap.size w w' from ⟨hh.1, hb.trans (hh.2.mono hb.size)⟩)
  generalize hq : rptr B = q at *
  have hqn : q ≠ .pointer none := by rw [← hq]; unfold rptr; simp
  go_wp2_with fail
  refine HI.out.mono ?_
  rintro e w3 ⟨rfl, hb3⟩
  have H3 := Lib.hid (show Round w (.pointer (some ⟨A0, 0, none⟩)) B (300 * 0) w3 from Round.keeps ⟨HB0.out, _, HD0.out⟩ hb3)
  clear hb3 HI HD0 HB0 hqn
  go_wp2_with fail
  generalize (Value.pointer (some ⟨A0, 0, none⟩)) = p at *
  go_loopw [7, 8, 9] (fun i _ _ wr => ∃ k : Nat, k ≤ l.length ∧ k ≤ 60 ∧ i = .int .i64 k ∧ Hid (Round w p B (300 * k) wr)) (fun i _ _ _ => 60 - (intOf i).toNat)
  case atStart => exact ⟨0, by omega, by omega, rfl, H3⟩
  case round =>
    clear H3
    obtain ⟨k, hk, hk60, rfl, HP⟩ := hrel
    by_cases hend : k < l.length ∧ k < 60
    · have g1 : (k : Int) < l.length := by omega
      have g2 : (k : Int) < 60 := by omega
      obtain ⟨g, off, x, hAg, hx, HCL⟩ := HA.out.cells hend.1
      obtain ⟨c0, c1, c2, c3⟩ := HCL.out _ HP.out.1
      subst hAg
      have hk1 : k + 1 ≤ l.length := by omega
      have hk2 : k + 1 ≤ 60 := by omega
      have HG := Lib.hid (great_any x wr hx.s)
      have HX := Lib.hid hx
      unfold ActV.val at HG
      clear hend hk hk60 hx
      go_wp2_with fail
      refine HG.out.mono ?_
      rintro e w4 ⟨rfl, hb4⟩
      have HP4 := Lib.hid (HP.out.keeps hb4)
      clear HP hb4 HG c0 c1 c2 c3
      by_cases h3 : 300 < x.s.size
      · have hd : decide (300 < x.s.size) = true := by simpa using h3
        rw [hd]
        go_wp2_with fail
        refine (HH.out _ HP4.out.1).mono ?_
        rintro e w5 ⟨rfl, hb⟩
        have HB1 := Lib.hid hb
        clear hb HP4
        go_wp2
        go_ret
        exact ⟨rfl, HB1.out⟩
      · have hd : decide (300 < x.s.size) = false := by simpa using h3
        rw [hd]
        obtain ⟨s, hcp⟩ := HP4.out.copies
        have HCP := Lib.hid hcp
        have hxs : x.s.size ≤ 300 := by omega
        clear h3 HH hd hcp HP4
        rw [hq] at HCP
        go_wp2_with fail
        refine HCP.out.mono ?_
        rintro e w5 ⟨A2, rfl, HC2⟩
        clear HCP
        go_wp2_with fail
        refine HC2.out.mono ?_
        rintro e w6 ⟨rfl, h6⟩
        have H6 := Lib.hid h6
        clear h6 HC2
        generalize (Value.pointer (some ⟨A2, 0, none⟩)) = p2 at *
        generalize w5.heap.size = B2 at *
        have HD := Lib.hid (H6.out.does2 x HX.out hxs (by omega))
        unfold ActV.val at HD
        obtain ⟨c0, c1, c2, c3⟩ := HCL.out _ H6.out.since
        generalize hq2 : rptr B2 = q2 at *
        go_wp2_with fail
        refine HD.out.mono ?_
        rintro e w7 ⟨rfl, h7⟩
        have H7 := Lib.hid h7
        clear h7 HD H6 c0 c1 c2 c3
        have HI2 := Lib.hid (H7.out.is2)
        rw [hq2] at HI2
        go_wp2_with fail
        refine HI2.out.mono ?_
        rintro e w8 ⟨rfl, h8⟩
        have H8 := Lib.hid h8
        clear h8 HI2 H7
        have HI1 := Lib.hid (H8.out.is)
        rw [hq] at HI1
        go_wp2_with fail
        refine HI1.out.mono ?_
        rintro e w9 ⟨rfl, h9⟩
        have H9 := Lib.hid h9
        clear h9 HI1 H8
        have HD := Lib.hid (H9.out.does x HX.out hxs (by omega))
        unfold ActV.val at HD
        rw [hq] at HD
        obtain ⟨c0, c1, c2, c3⟩ := HCL.out _ H9.out.since
        go_wp2_with fail
        refine HD.out.mono ?_
        rintro e w10 ⟨rfl, h10⟩
        have H10 := Lib.hid h10
        clear h10 HD H9 c0 c1 c2 c3
        have HI1 := Lib.hid (H10.out.is)
        rw [hq] at HI1
        go_wp2_with fail
        refine HI1.out.mono ?_
        rintro e w11 ⟨rfl, h11⟩
        have H11 := Lib.hid h11
        clear h11 HI1 H10
        have HI2 := Lib.hid (H11.out.is2)
        rw [hq2] at HI2
        go_wp2_with fail
        refine HI2.out.mono ?_
        rintro e w12 ⟨rfl, h12⟩
        have H12 := Lib.hid (show Round w p B (300 * (k + 1)) w12 from h12.round)
        clear h12 HI2 H11
        go_wp2_with fail
        go_roundw
        case rel => exact ⟨k + 1, hk1, hk2, by go_num, H12⟩
        case measure => simp [intOf]; omega
    · have hcase : (l.length : Int) ≤ k ∨ ((k : Int) < l.length ∧ (60 : Int) ≤ k) := by omega
      have HB := Lib.hid HP.out.1
      clear hend HP
      rcases hcase with h4 | ⟨h4, h5⟩
      · go_wp2_with fail
        refine (HH.out _ HB.out).mono ?_
        rintro e w4 ⟨rfl, hb⟩
        have HB1 := Lib.hid hb
        clear hb
        go_wp2
        go_ret
        exact ⟨rfl, HB1.out⟩
      · go_wp2_with fail
        refine (HH.out _ HB.out).mono ?_
        rintro e w4 ⟨rfl, hb⟩
        have HB1 := Lib.hid hb
        clear hb
        go_wp2
        go_ret
        exact ⟨rfl, HB1.out⟩
end Go.Proofs.Ytikcbalofbgdlaa
