/-
  The walks over package block: Copy.
-/
import Derived.Test.YtghmfodoojfadaaBlkE
import Derived.WalkKit
import Derived.Deep.RegionHeld3
namespace Go.Proofs.Ytghmfodoojfadaa
open Go.RowKit

/-- Blocks, and slices of writes, stay. -/
def Stays (w w' : World) : Prop := (∀ g t cs m, Row w g t cs m → Row w' g t cs m) ∧ ∀ v n xs, w.ownsRow 0 89 2 v n xs → w'.ownsRow 0 89 2 v n xs
theorem stays_below {w w' : World} (h : Below w.heap.size w w') : Stays w w' :=
  ⟨fun _ _ _ _ hr => hr.below h hr.lt, fun _ _ _ ho => ownsRow_only ho (Only.below h fun _ => False) fun _ _ hf => hf⟩

set_option maxRecDepth 100000 in
set_option maxHeartbeats 1000000 in
theorem cloneB_any (V n c : Nat) (l : List UInt8) (X : List Value) (w : World) (hr : Row w V 5 (byt l ++ X) (0, 0)) (hl : l.length = n) (hn : n ≤ 16384000) :
    Calls Try.prog 55 #[.slice (some ⟨V, 0, none⟩) n c] w fun e w' => ∃ (g cap : Nat) (Y : List Value), e = .returned (.slice (some ⟨g, 0, none⟩) n cap) ∧ n ≤ cap ∧ cap ≤ 9223372036854775807 ∧ w.heap.size ≤ g ∧ Row w' g 5 (byt l ++ Y) (0, 0) ∧ Below w.heap.size w w' := by
  obtain ⟨i0, hi0, hz0, hz1, hz2⟩ := info_parts Try.infoU8
  have q22 : ∀ (w : World) (a : Option Addr) (n c n' c' : Nat), (binOp .eql 64 (.slice a n c) (.slice none n' c')).run Try.prog w = .ok (.bool a.isNone) w := fun w a n c n' c' => Lib.run_eql_slice_nil w _ _ a n c n' c' Try.underlying64
  have HNW := Lib.hid (show ∀ j u, (byt l)[j]? = some u → (w.alloc (.cells #[] 5)).cell? ((⟨V, 0, none⟩ : Addr).add j) = some u from fun j u hj => by
    rw [Addr.add_lit, (hr.alloc _).cell, Nat.zero_add, List.getElem?_append_left (List.getElem?_eq_some_iff.1 hj).1]
    exact hj)
  have HO := Lib.hid (World.ownsRow_made (base := w.heap.size) (e := 5) (size := 1) w #[] 0 (Nat.le_refl _) (Nat.zero_le _) rfl)
  have HB := Lib.hid (show Below w.heap.size w (w.alloc (.cells #[] 5)) from (Below.refl _ _).alloc (Nat.le_refl _) _)
  have HLN := Lib.hid (show (byt l).length = n * 1 by rw [byt_length, hl, Nat.mul_one])
  have HMX := Lib.hid (show 0 + n ≤ maxLen by unfold maxLen; omega)
  have HFIN := Lib.hid (fun (v : Value) (w1 : World) (hown : w1.ownsRow w.heap.size 5 1 v n (byt l)) (hnil : v ≠ .slice none 0 0) =>
    show ∃ (g cap : Nat) (Y : List Value), v = .slice (some ⟨g, 0, none⟩) n cap ∧ n ≤ cap ∧ cap ≤ 9223372036854775807 ∧ w.heap.size ≤ g ∧ Row w1 g 5 (byt l ++ Y) (0, 0) from by
      rcases hown.2 with ⟨h0, _⟩ | ⟨g, cap, cur, hv, hb, hg, hc, hm, hs, ht⟩
      · exact absurd h0 hnil
      · refine ⟨g, cap, cur.toList.drop n, hv, hc, by unfold maxLen at hm; omega, hb, ?_⟩
        rw [Nat.mul_one] at ht
        rw [← ht, List.take_append_drop]
        exact hg)
  clear hr hl
  go_enter Try.func55, Try.ntmps55
  go_wp2_with (at_builtin; refine wpList_append_own _ rfl (.tmp 5) (.tmp 6) 64 rfl w.heap.size 5 i0 _ 1 1 Try.underlying64 hi0 hz0 hz1 hz2 rfl (by decide) (.slice (some ⟨w.heap.size, 0, none⟩) 0 0) 0 [] rfl HO.out ⟨V, 0, none⟩ n c (byt l) rfl HLN.out HNW.out (byt_one l) HMX.out (by omega) HB.out.size ?_)
  intro v w1 hown hgr hnil
  obtain ⟨g, cap, Y, rfl, h1, h2, h3, h4⟩ := HFIN.out v w1 hown (by first | exact hnil | exact fun e => by simpa using hnil.1 e)
  have HB1 := Lib.hid (show Below w.heap.size w w1 from HB.out.grown hgr HB.out.size (fun k hk => by simp [Value.ownBlock] at hk; omega))
  have HR := Lib.hid h4
  clear hown hgr hnil h4
  go_wp2
  go_ret
  exact ⟨g, cap, Y, rfl, h1, h2, h3, HR.out, HB1.out⟩

set_option maxRecDepth 100000 in
set_option maxHeartbeats 1000000 in
theorem cloneP_any (v : Value) (l : List (Nat × ByteArray)) (w : World) (hown : w.ownsRow 0 89 2 v l.length (pvs l)) (hn : l.length ≤ 1000000) :
    Calls Try.prog 56 #[v] w fun e w' => ∃ (A : Option Addr) (m c : Nat), e = .returned (.slice A m c) ∧ (∀ k, (Value.slice A m c).ownBlock = some k → w.heap.size ≤ k) ∧ w'.ownsRow 0 89 2 (.slice A m c) l.length (pvs l) ∧ Below w.heap.size w w' := by
  obtain ⟨i0, hi0, hz0, hz1, hz2⟩ := info_parts Try.infoWr
  have q22 : ∀ (w : World) (a : Option Addr) (n c n' c' : Nat), (binOp .eql 71 (.slice a n c) (.slice none n' c')).run Try.prog w = .ok (.bool a.isNone) w := fun w a n c n' c' => Lib.run_eql_slice_nil w _ _ a n c n' c' Try.underlying71
  rcases hown.2 with ⟨rfl, h0⟩ | ⟨g, cap, cur, rfl, _, hg, hc, hm, hs, ht⟩
  · have HO := Lib.hid hown
    clear hown
    go_enter Try.func56, Try.ntmps56
    go_wp2
    go_ret
    exact ⟨none, 0, 0, rfl, (fun k hk => by cases hk), HO.out, Below.refl _ _⟩
  · have HNW := Lib.hid (show ∀ j u, (pvs l)[j]? = some u → (w.alloc (.cells #[] 89)).cell? ((⟨g, 0, none⟩ : Addr).add j) = some u from fun j u hj => by
      have hr : Row w g 89 cur.toList (0, 0) := hg
      rw [Addr.add_lit, (hr.alloc _).cell, Nat.zero_add]
      rw [← ht, List.getElem?_take] at hj
      split at hj
      · exact hj
      · cases hj)
    have HO := Lib.hid (World.ownsRow_made (base := w.heap.size) (e := 89) (size := 2) w #[] 0 (Nat.le_refl _) (Nat.zero_le _) rfl)
    have HB := Lib.hid (show Below w.heap.size w (w.alloc (.cells #[] 89)) from (Below.refl _ _).alloc (Nat.le_refl _) _)
    have HLN := Lib.hid (pvs_length l)
    have HMX := Lib.hid (show 0 + l.length ≤ maxLen by unfold maxLen; omega)
    have HFIN := Lib.hid (fun (v : Value) (w1 : World) (hown : w1.ownsRow w.heap.size 89 2 v l.length (pvs l)) =>
      show (∃ (A : Option Addr) (n c : Nat), v = .slice A n c) ∧ (∀ k, v.ownBlock = some k → w.heap.size ≤ k) ∧ w1.ownsRow 0 89 2 v l.length (pvs l) from by
        refine ⟨?_, fun k hk => (hown.lt k hk).1, hown.1, ?_⟩
        · rcases hown.2 with ⟨h0, _⟩ | ⟨g, cap, cur, hv, _⟩
          · exact ⟨_, _, _, h0⟩
          · exact ⟨_, _, _, hv⟩
        · rcases hown.2 with h0 | ⟨g, cap, cur, hv, _, hr⟩
          · exact .inl h0
          · exact .inr ⟨g, cap, cur, hv, Nat.zero_le _, hr⟩)
    clear hown hg hs ht hm
    go_enter Try.func56, Try.ntmps56
    go_wp2_with (at_builtin; refine wpList_append_own _ rfl (.tmp 5) (.tmp 6) 71 rfl w.heap.size 89 i0 _ 2 24 Try.underlying71 hi0 hz0 hz1 hz2 rfl (by decide) (.slice (some ⟨w.heap.size, 0, none⟩) 0 0) 0 [] rfl HO.out ⟨g, 0, none⟩ l.length cap (pvs l) rfl HLN.out HNW.out (pvs_one l) HMX.out (by omega) HB.out.size ?_)
    intro v w1 hown hgr hnil
    obtain ⟨⟨A2, n2, c2, rfl⟩, h2, h3⟩ := HFIN.out v w1 hown
    have HB1 := Lib.hid (show Below w.heap.size w w1 from HB.out.grown hgr HB.out.size (fun k hk => by simp [Value.ownBlock] at hk; omega))
    have H2 := Lib.hid h2
    have H3 := Lib.hid h3
    clear hown hgr hnil h2 h3
    go_wp2
    go_ret
    exact ⟨A2, n2, c2, rfl, H2.out, H3.out, HB1.out⟩

/-- A copy. -/
def CopyOf (d : DV) (w : World) (e : Ending) (w' : World) : Prop :=
  ∃ c : DV, e = .returned c.ptr ∧ c.In w' ∧ Below w.heap.size w w' ∧ (∀ k, c.mine k → w.heap.size ≤ k) ∧ c.nb = d.nb ∧ c.ns = d.ns ∧ c.vis = d.vis ∧ c.dur = d.dur ∧ c.pend = d.pend

theorem copy_made {d : DV} {w w9 : World} (h : d.In w) (hb : Below w.heap.size w w9) {ga ca gb cb : Nat} {Xa Xb : List Value} {v3 : Value} (hca : d.all ≤ ca) (hcam : ca ≤ 9223372036854775807) (hcb : d.all ≤ cb) (hcbm : cb ≤ 9223372036854775807)
    (ha : w.heap.size ≤ ga) (hbb : w.heap.size ≤ gb) (hne : ga ≠ gb) (rA : Row w9 ga 5 (byt d.vis ++ Xa) (0, 0)) (rB : Row w9 gb 5 (byt d.dur ++ Xb) (0, 0)) (hown : w9.ownsRow 0 89 2 v3 d.pend.length (pvs d.pend)) (h3 : ∀ k, v3.ownBlock = some k → w.heap.size ≤ k) :
    CopyOf d w (.returned (.pointer (some ⟨w9.heap.size, 0, none⟩))) (w9.alloc (.cells #[.int .i64 (d.nb : Int), .int .i64 ((d.ns * 64 : Nat) : Int), .slice (some ⟨ga, 0, none⟩) d.all ca, .slice (some ⟨gb, 0, none⟩) d.all cb, v3] 73)) := by
  refine ⟨⟨w9.heap.size, ga, gb, ca, cb, v3, Xa, Xb, d.nb, d.ns, d.vis, d.dur, d.pend⟩, rfl, ?_, hb.alloc hb.size _, ?_, rfl, rfl, rfl, rfl, rfl⟩
  · exact { dev := Row.new w9 73 [.int .i64 (d.nb : Int), .int .i64 ((d.ns * 64 : Nat) : Int), .slice (some ⟨ga, 0, none⟩) d.all ca, .slice (some ⟨gb, 0, none⟩) d.all cb, v3] (0, 0)
            own := hown.alloc _, cv := hca, cu := hcb, cvm := hcam, cum := hcbm, nb1 := h.nb1, nb2 := h.nb2, ns1 := h.ns1, ns2 := h.ns2, fits := h.fits
            vis := rA.alloc _, dur := rB.alloc _, ne := hne, lv := h.lv, ld := h.ld, same := h.same }
  · rintro k (rfl | rfl | rfl | hk)
    · exact hb.size
    · exact ha
    · exact hbb
    · exact h3 k hk

set_option maxRecDepth 100000 in
set_option maxHeartbeats 4000000 in
theorem copy_any (d : DV) (w : World) (h : d.In w) (hl : d.pend.length ≤ 1000000) : Calls Try.prog 34 #[d.ptr] w (CopyOf d w) := by
  have HN := Lib.hid (isNone_any d w h.toTop)
  have HC := Lib.hid (show ∀ wx, Below w.heap.size w wx → Below w.heap.size w wx ∧ wx.cell? ⟨d.A, 0, none⟩ = some (.int .i64 (d.nb : Int)) ∧ wx.cell? ⟨d.A, 1, none⟩ = some (.int .i64 ((d.ns * 64 : Nat) : Int)) ∧ wx.cell? ⟨d.A, 2, none⟩ = some (.slice (some ⟨d.V, 0, none⟩) d.all d.cv) ∧ wx.cell? ⟨d.A, 3, none⟩ = some (.slice (some ⟨d.U, 0, none⟩) d.all d.cu) ∧ wx.cell? ⟨d.A, 4, none⟩ = some d.p from
    fun wx hb => ⟨hb, (h.keeps hb).c0, (h.keeps hb).c1, (h.keeps hb).c2, (h.keeps hb).c3, (h.keeps hb).c4⟩)
  have kV := Lib.hid (show ∀ wx, Below w.heap.size w wx → Calls Try.prog 55 #[.slice (some ⟨d.V, 0, none⟩) d.all d.cv] wx fun e w' => ∃ (g cap : Nat) (Y : List Value), e = .returned (.slice (some ⟨g, 0, none⟩) d.all cap) ∧ d.all ≤ cap ∧ cap ≤ 9223372036854775807 ∧ wx.heap.size ≤ g ∧ Row w' g 5 (byt d.vis ++ Y) (0, 0) ∧ Below w.heap.size w w' ∧ Hid (Stays wx w') from
    fun wx hb => (cloneB_any d.V d.all d.cv d.vis d.X wx (h.keeps hb).vis h.lv h.allLe).mono fun e w' ⟨g, cap, Y, h1, h2, h3, h4, h5, h6⟩ => ⟨g, cap, Y, h1, h2, h3, h4, h5, hb.trans (h6.mono hb.size), Lib.hid (stays_below h6)⟩)
  have kU := Lib.hid (show ∀ wx, Below w.heap.size w wx → Calls Try.prog 55 #[.slice (some ⟨d.U, 0, none⟩) d.all d.cu] wx fun e w' => ∃ (g cap : Nat) (Y : List Value), e = .returned (.slice (some ⟨g, 0, none⟩) d.all cap) ∧ d.all ≤ cap ∧ cap ≤ 9223372036854775807 ∧ wx.heap.size ≤ g ∧ Row w' g 5 (byt d.dur ++ Y) (0, 0) ∧ Below w.heap.size w w' ∧ Hid (Stays wx w') from
    fun wx hb => (cloneB_any d.U d.all d.cu d.dur d.Y wx (h.keeps hb).dur h.ld h.allLe).mono fun e w' ⟨g, cap, Y, h1, h2, h3, h4, h5, h6⟩ => ⟨g, cap, Y, h1, h2, h3, h4, h5, hb.trans (h6.mono hb.size), Lib.hid (stays_below h6)⟩)
  have kP := Lib.hid (show ∀ wx, Below w.heap.size w wx → Calls Try.prog 56 #[d.p] wx fun e w' => ∃ (A : Option Addr) (m c : Nat), e = .returned (.slice A m c) ∧ Hid (∀ k, (Value.slice A m c).ownBlock = some k → w.heap.size ≤ k) ∧ Hid (w'.ownsRow 0 89 2 (.slice A m c) d.pend.length (pvs d.pend)) ∧ Below w.heap.size w w' ∧ Hid (Stays wx w') from
    fun wx hb => (cloneP_any d.p d.pend wx (h.keeps hb).own hl).mono fun e w' ⟨A, m, c, h1, h3, h4, h5⟩ => ⟨A, m, c, h1, Lib.hid (fun k hk => Nat.le_trans hb.size (h3 k hk)), Lib.hid h4, hb.trans (h5.mono hb.size), Lib.hid (stays_below h5)⟩)
  have HM := Lib.hid (fun (w9 : World) (hb : Below w.heap.size w w9) {ga ca gb cb : Nat} {Xa Xb : List Value} {v3 : Value} => copy_made (d := d) (w := w) (w9 := w9) (ga := ga) (ca := ca) (gb := gb) (cb := cb) (Xa := Xa) (Xb := Xb) (v3 := v3) h hb)
  obtain ⟨ad, cap0, hp, -⟩ := h.slot
  generalize d.p = pv at *
  subst hp
  generalize hPOST : CopyOf d w = POST at *
  clear h hl hPOST
  unfold DV.ptr at HN ⊢
  go_enter Try.func34, Try.ntmps34
  go_wp2_with fail
  refine HN.out.mono ?_
  rintro e w1 ⟨rfl, rfl⟩
  have hk0 : Below w.heap.size w w.drew := (Below.refl _ w).drew
  go_wp2_with fail
  go_region_held3 (fun wx => Below w.heap.size w wx ∧ wx.cell? ⟨d.A, 0, none⟩ = some (.int .i64 (d.nb : Int)) ∧ wx.cell? ⟨d.A, 1, none⟩ = some (.int .i64 ((d.ns * 64 : Nat) : Int)) ∧ wx.cell? ⟨d.A, 2, none⟩ = some (.slice (some ⟨d.V, 0, none⟩) d.all d.cv) ∧ wx.cell? ⟨d.A, 3, none⟩ = some (.slice (some ⟨d.U, 0, none⟩) d.all d.cu) ∧ wx.cell? ⟨d.A, 4, none⟩ = some (.slice ad d.pend.length cap0)) (first | exact HC.out _ (by assumption) | exact HC.out _ (Below.alloc (by assumption) (Below.size (by assumption)) _) | go_keep)
    (first
      | (go_at_call 55; ((with_reducible refine (kV.out _ (by assumption)).mono ?_); rintro e wa ⟨ga, ca, Xa, rfl, hca, hcam, hga, rowA, hka, stA⟩; (try have rowB := stA.out.1 _ _ _ _ rowB); (try have ownP := Lib.hid (stA.out.2 _ _ _ ownP.out)); (try have hne := Nat.ne_of_gt (Nat.lt_of_lt_of_le hltB hga)); have hltA := Row.lt rowA))
      | (go_at_call 55; ((with_reducible refine (kU.out _ (by assumption)).mono ?_); rintro e wb ⟨gb, cb, Xb, rfl, hcb, hcbm, hgb, rowB, hkb, stB⟩; (try have rowA := stB.out.1 _ _ _ _ rowA); (try have ownP := Lib.hid (stB.out.2 _ _ _ ownP.out)); (try have hne := Nat.ne_of_lt (Nat.lt_of_lt_of_le hltA hgb)); have hltB := Row.lt rowB))
      | (go_at_call 56; ((with_reducible refine (kP.out _ (by assumption)).mono ?_); rintro e wp ⟨A3, m3, c3, rfl, newP, ownP, hkp, stP⟩; (try have rowA := stP.out.1 _ _ _ _ rowA); (try have rowB := stP.out.1 _ _ _ _ rowB))))
  all_goals
    have HE := Lib.hid (HM.out _ hkp hca hcam hcb hcbm (Nat.le_trans (by first | exact Nat.le_refl _ | exact Below.size (by assumption)) hga) (Nat.le_trans (by first | exact Nat.le_refl _ | exact Below.size (by assumption)) hgb) hne rowA rowB ownP.out newP.out)
    clear rowA rowB
    go_wp2
    exact HE.out

end Go.Proofs.Ytghmfodoojfadaa
