/-
  The document's device: Sync.
-/
import Derived.Test.YtnmfgmlmjbfdcaaBlkPRead
namespace Go.Proofs.Ytnmfgmlmjbfdcaa
open Go.RowKit

/-- The same device with another block at b. -/
def RV.setB (x : RV) (b : Nat) (v : Value) (L : List UInt8) : RV := { x with sv := x.sv.set b v, R := { x.R with sure := x.R.sure.set b L } }
section
variable {x : RV} {w w' : World}
theorem RV.In.setB (h : x.In w) {g cap b : Nat} (e : x.vS = .slice (some ⟨g, 0, none⟩) x.R.sure.length cap) (hb : b < x.R.sure.length) {v : Value} {L : List UInt8} (hv : BlkV w x.R.ns v L) :
    (x.setB b v L).In (w.setCell ⟨g, b, none⟩ v) ∧ Only x.mine w (w.setCell ⟨g, b, none⟩ v) := by
  obtain ⟨g', cap', cs, e', hc, hm, hr, hl, ht, -⟩ := h.slot
  rw [e] at e'
  injection e' with e1 _ e2
  injection e1 with e1
  injection e1 with e1
  subst e1 e2
  have hset : Only (· = g) w (w.setCell ⟨g, b, none⟩ v) := Only.setCell (F := (· = g)) (p := ⟨g, b, none⟩) (Only.refl _ w) rfl _
  have hS : NoStr (· = g) w := NoStr.of (fun k e => ⟨_, e ▸ hr⟩) (by decide)
  have hrow := hr.put b v
  refine ⟨?_, hset.imp fun k _ e2 => .inr (.inl (by rw [e]; exact congrArg some e2.symm))⟩
  have hone := hv.one
  exact
    { dev := h.dev.only hset (fun e2 => h.dev.ne_ hr (by decide) e2)
      sown := by
        refine ⟨by show (x.sv.set b v).length = (x.R.sure.set b L).length * 1; rw [List.length_set, List.length_set]; exact h.sown.1, .inr ⟨g, cap, (cs.set b v).toArray, ?_, Nat.zero_le _, hrow, ?_, hm, ?_, ?_⟩⟩
        · show x.vS = .slice (some ⟨g, 0, none⟩) (x.R.sure.set b L).length cap; rw [List.length_set]; exact e
        · show (x.R.sure.set b L).length ≤ cap; rw [List.length_set]; exact hc
        · simp [hl]
        · show ((cs.set b v).toArray.toList.take ((x.R.sure.set b L).length * 1)) = x.sv.set b v
          rw [List.length_set, Nat.mul_one, ← ht, ← List.take_set]
      oown := ownsRow_only h.oown hset fun k hk e2 => by obtain ⟨cs', hr'⟩ := RV.ownBlock_row h.oown hk; exact hr'.ne_ hr (by decide) e2
      ol := h.ol
      sb := fun b' L' hL => by
        have hL2 : (x.R.sure.set b L)[b']? = some L' := hL
        by_cases e3 : b = b'
        · subst e3
          rw [List.getElem?_set_self hb] at hL2
          injection hL2 with hL2
          subst hL2
          have hsl : b < x.sv.length := by have := h.sown.1; omega
          exact ⟨v, by show (x.sv.set b v)[b]? = _; rw [List.getElem?_set_self hsl], hv.only hset hS⟩
        · rw [List.getElem?_set_ne e3] at hL2
          obtain ⟨u, h1, h2⟩ := h.sb b' L' hL2
          exact ⟨u, by show (x.sv.set b v)[b']? = _; rw [List.getElem?_set_ne e3]; exact h1, h2.only hset hS⟩
      ob := fun i o hO => by
        obtain ⟨h0, u, h1, h2⟩ := h.ob i o hO
        exact ⟨by show o.1 < (x.R.sure.set b L).length; rw [List.length_set]; exact h0, u, h1, h2.only hset hS⟩
      n1 := h.n1, n4 := h.n4
      b1 := by show 1 ≤ (x.R.sure.set b L).length; rw [List.length_set]; exact h.b1
      b8 := by show (x.R.sure.set b L).length ≤ 8; rw [List.length_set]; exact h.b8 }
/-- No write is open any more. -/
theorem RV.In.clean (h : x.In w) (a : Value) : RTurned x w { x.R with opens := [] } a (.returned a) (w.setCell ⟨x.B, 2, none⟩ (.slice none 0 0)) := by
  have hset : Only (· = x.B) w (w.setCell ⟨x.B, 2, none⟩ (.slice none 0 0)) := Only.setCell (F := (· = x.B)) (p := ⟨x.B, 2, none⟩) (Only.refl _ w) rfl _
  have hS : NoStr (· = x.B) w := NoStr.of (fun k e => ⟨_, e ▸ h.dev⟩) (by decide)
  refine ⟨{ x with vO := .slice none 0 0, ov := [], R := { x.R with opens := [] } }, rfl, rfl, rfl, ?_, hset.imp fun _ _ e => .inl e, ?_⟩
  · exact
      { dev := h.dev.put 2 _
        sown := ownsRow_only h.sown hset fun k hk e2 => by obtain ⟨cs', hr'⟩ := RV.ownBlock_row h.sown hk; exact hr'.ne_ h.dev (by decide) e2
        oown := World.ownsRow_nil _ _ _ _, ol := rfl
        sb := fun b L hL => by obtain ⟨u, h1, h2⟩ := h.sb b L hL; exact ⟨u, h1, h2.only hset hS⟩
        ob := fun i o hO => by cases hO
        n1 := h.n1, n4 := h.n4, b1 := h.b1, b8 := h.b8 }
  · rintro k (e | e | e)
    · exact .inl (.inl e)
    · exact .inl (.inr (.inl e))
    · cases e
end

/-- A device in the middle of a sync, or of a power loss: its rows lie where they lay. -/
def Mid (x : RV) (w : World) (S : List (List UInt8)) (wr : World) : Prop :=
  ∃ y : RV, y.B = x.B ∧ y.vS = x.vS ∧ y.vO = x.vO ∧ y.R = { x.R with sure := S } ∧ y.In wr ∧ Only x.mine w wr
theorem Mid.mine {x y : RV} (h1 : y.B = x.B) (h2 : y.vS = x.vS) (h3 : y.vO = x.vO) (k : Nat) : y.mine k ↔ x.mine k := by unfold RV.mine; rw [h1, h2, h3]
theorem Mid.len {x : RV} {w wr : World} {S : List (List UInt8)} (hx : x.In w) (h : Mid x w S wr) : S.length = x.R.sure.length := by
  obtain ⟨y, _, h2, _, h4, h5, _⟩ := h
  obtain ⟨g, cap, cs, e, _⟩ := h5.slot
  obtain ⟨g', cap', cs', e', _⟩ := hx.slot
  rw [h2, e'] at e
  injection e with _ e
  rw [e, h4]
theorem Mid.keeps {x : RV} {w wr w' : World} {S : List (List UInt8)} (h : Mid x w S wr) (hb : Below wr.heap.size wr w') : Mid x w S w' := by
  obtain ⟨y, h1, h2, h3, h4, h5, h6⟩ := h
  exact ⟨y, h1, h2, h3, h4, h5.keeps hb, h6.trans (Only.below hb _)⟩
/-- What may be read of it. -/
theorem Mid.cells {x : RV} {w wr : World} {S : List (List UInt8)} (h : Mid x w S wr) : wr.cell? ⟨x.B, 0, none⟩ = some (.int .i64 (x.R.ns : Int)) ∧ wr.cell? ⟨x.B, 1, none⟩ = some x.vS ∧ wr.cell? ⟨x.B, 2, none⟩ = some x.vO ∧ wr.frozen? ⟨x.B, 2, none⟩ = false ∧ x.B < wr.heap.size := by
  obtain ⟨y, h1, h2, h3, h4, h5, h6⟩ := h
  have c0 := h5.c0
  have c1 := h5.c1
  have c2 := h5.c2
  have f2 := h5.free 2
  have hl := h5.dev.lt
  rw [h1] at c0 c1 c2 f2 hl
  rw [h2] at c1
  rw [h3] at c2
  rw [h4] at c0
  exact ⟨c0, c1, c2, f2, hl⟩
theorem Mid.open {x : RV} {w wr : World} {S : List (List UInt8)} (h : Mid x w S wr) {oa : Option Addr} {oc : Nat} (hov : x.vO = .slice oa x.R.opens.length oc) (i : Nat) (hi : i < x.R.opens.length) :
    ∃ og v, oa = some ⟨og, 0, none⟩ ∧ og < wr.heap.size ∧ wr.cell? ⟨og, i * 2, none⟩ = some (.int .i64 (x.R.opens[i].1 : Int)) ∧ wr.cell? ⟨og, i * 2 + 1, none⟩ = some v ∧ BlkV wr x.R.ns v x.R.opens[i].2 ∧ x.R.opens[i].1 < S.length := by
  obtain ⟨y, h1, h2, h3, h4, h5, h6⟩ := h
  have hyo : y.R.opens = x.R.opens := by rw [h4]
  have hns : y.R.ns = x.R.ns := by rw [h4]
  have hsu : y.R.sure = S := by rw [h4]
  rcases h5.oslot with ⟨e1, e2⟩ | ⟨og, c, e1, hc⟩
  · rw [hyo] at e2
    have : x.R.opens.length = 0 := by rw [e2]; rfl
    omega
  · obtain ⟨v, q1, q2, q3⟩ := hc i x.R.opens[i] (by rw [hyo]; exact List.getElem?_eq_getElem hi)
    have q4 := (h5.ob i x.R.opens[i] (by rw [hyo]; exact List.getElem?_eq_getElem hi)).1
    rw [h3, hov] at e1
    injection e1 with e1
    rw [hns] at q3
    rw [hsu] at q4
    have hlt : og < wr.heap.size := (h5.oown.lt og (by rw [h3, hov, e1]; rfl)).2
    exact ⟨og, v, e1, hlt, q1, q2, q3, q4⟩
theorem Mid.sureAt {x : RV} {w wr : World} {S : List (List UInt8)} (hx : x.In w) (h : Mid x w S wr) {g cap : Nat} (e : x.vS = .slice (some ⟨g, 0, none⟩) x.R.sure.length cap) (b : Nat) (hb : b < x.R.sure.length) :
    (∃ v, wr.cell? ⟨g, b, none⟩ = some v ∧ BlkV wr x.R.ns v (S.getD b [])) ∧ wr.frozen? ⟨g, b, none⟩ = false ∧ g < wr.heap.size := by
  have hl := h.len hx
  obtain ⟨y, h1, h2, h3, h4, h5, h6⟩ := h
  have hns : y.R.ns = x.R.ns := by rw [h4]
  have hsu : y.R.sure = S := by rw [h4]
  obtain ⟨g', cap', cs, e', hc, hm, hr, hl2, ht, hcell⟩ := h5.slot
  rw [h2, e] at e'
  injection e' with e1
  injection e1 with e1
  injection e1 with e1
  subst e1
  rw [hsu, hns] at hcell
  exact ⟨hcell b (S.getD b []) (by rw [List.getD_eq_getElem?_getD, List.getElem?_eq_getElem (by omega)]; rfl), hr.loose b, hr.lt⟩
theorem Mid.put {x : RV} {w wr : World} {S : List (List UInt8)} (hx : x.In w) (h : Mid x w S wr) {g cap : Nat} (e : x.vS = .slice (some ⟨g, 0, none⟩) x.R.sure.length cap) (b : Nat) (hb : b < x.R.sure.length) {v : Value} {L : List UInt8} (hv : BlkV wr x.R.ns v L) :
    Mid x w (S.set b L) (wr.setCell ⟨g, b, none⟩ v) := by
  have hl := h.len hx
  obtain ⟨y, h1, h2, h3, h4, h5, h6⟩ := h
  have hns : y.R.ns = x.R.ns := by rw [h4]
  have hsu : y.R.sure = S := by rw [h4]
  obtain ⟨k1, k2⟩ := h5.setB (g := g) (cap := cap) (b := b) (v := v) (L := L) (by rw [h2, e, hsu, hl]) (by rw [hsu, hl]; exact hb) (by rw [hns]; exact hv)
  refine ⟨y.setB b v L, h1, h2, h3, ?_, k1, h6.trans (k2.imp fun k _ hk => (Mid.mine h1 h2 h3 k).1 hk)⟩
  show ({ y.R with sure := y.R.sure.set b L } : RS) = _
  rw [h4]
theorem Mid.done {x : RV} {w wr : World} {S : List (List UInt8)} (h : Mid x w S wr) (a : Value) : RTurned x w { x.R with sure := S, opens := [] } a (.returned a) (wr.setCell ⟨x.B, 2, none⟩ (.slice none 0 0)) := by
  obtain ⟨y, h1, h2, h3, h4, h5, h6⟩ := h
  obtain ⟨z, k1, k2, k3, k4, k5, k6⟩ := h5.clean a
  rw [h1] at k2 k4 k5
  refine ⟨z, k1, k2, by rw [k3, h4], k4, h6.trans (k5.imp fun k _ hk => (Mid.mine h1 h2 h3 k).1 hk), fun k hk => ?_⟩
  rcases k6 k hk with e | e
  · exact .inl ((Mid.mine h1 h2 h3 k).1 e)
  · exact .inr (Nat.le_trans h6.size e)

set_option maxRecDepth 100000 in
set_option maxHeartbeats 2000000 in
theorem rsync_any (x : RV) (w : World) (h : x.In w) (hm : x.R.opens.length ≤ 1000000) : Calls Try.prog 48 #[x.ptr] w (RTurned x w { x.R with sure := setAll x.R.opens x.R.sure, opens := [] } (.tuple #[])) := by
  obtain ⟨g, cap, cs, e, -⟩ := h.slot
  obtain ⟨oa, oc, hov⟩ : ∃ (a : Option Addr) (c : Nat), x.vO = .slice a x.R.opens.length c := by
    rcases h.oslot with ⟨e1, e2⟩ | ⟨g, c, e1, _⟩
    · exact ⟨none, 0, by rw [e1, e2]; rfl⟩
    · exact ⟨_, _, e1⟩
  have h8 := h.b8
  have q2 : (x.R.sure.length : Int) ≤ 8 := by omega
  have q4 : (x.R.opens.length : Int) ≤ 1000000 := by omega
  have H0 := Lib.hid (show Mid x w (setAll (x.R.opens.take 0) x.R.sure) w from ⟨x, rfl, rfl, rfl, rfl, h, Only.refl _ _⟩)
  have HST := Lib.hid (show ∀ (k : Nat) (hk : k < x.R.opens.length) wr, Mid x w (setAll (x.R.opens.take k) x.R.sure) wr → ∃ (og : Nat) (v : Value) (o1 : Nat), oa = some ⟨og, 0, none⟩ ∧ o1 < x.R.sure.length ∧ wr.cell? ⟨og, k * 2, none⟩ = some (.int .i64 (o1 : Int)) ∧ wr.cell? ⟨og, k * 2 + 1, none⟩ = some v ∧ (∃ u, wr.cell? ⟨g, o1, none⟩ = some u) ∧ wr.frozen? ⟨g, o1, none⟩ = false ∧ (∃ vg vc, v = .slice (some ⟨vg, 0, none⟩) x.R.ns vc) ∧ Hid (∀ wy, wy = wr.drew.setCell ⟨g, o1, none⟩ v → Mid x w (setAll (x.R.opens.take (k + 1)) x.R.sure) wy) from fun k hk wr hM => by
    obtain ⟨og, v, p1, p2, p3, p4, p5, p6⟩ := hM.open hov k hk
    rw [hM.len h] at p6
    obtain ⟨⟨u, hu, _⟩, hf, _⟩ := hM.sureAt h e (x.R.opens[k].1) p6
    refine ⟨og, v, x.R.opens[k].1, p1, p6, p3, p4, ⟨u, hu⟩, hf, p5.lit, Lib.hid fun wy hy => ?_⟩
    subst hy
    have hd : Below wr.heap.size wr wr.drew := (Below.refl _ wr).drew
    have := (hM.keeps hd).put h e (x.R.opens[k].1) p6 (p5.keeps hd)
    rw [List.take_succ_eq_append_getElem hk, setAll_snoc]
    exact this)
  have HFULL := Lib.hid (show x.R.opens.take x.R.opens.length = x.R.opens from List.take_length)
  have HFIN := Lib.hid (show ∀ wr, Mid x w (setAll x.R.opens x.R.sure) wr → RTurned x w { x.R with sure := setAll x.R.opens x.R.sure, opens := [] } (.tuple #[]) (.returned (.tuple #[])) (wr.setCell ⟨x.B, 2, none⟩ (.slice none 0 0)) from fun wr hM => hM.done _)
  have HC := Lib.hid (show ∀ S wr, Mid x w S wr → wr.cell? ⟨x.B, 1, none⟩ = some (.slice (some ⟨g, 0, none⟩) x.R.sure.length cap) ∧ wr.cell? ⟨x.B, 2, none⟩ = some (.slice oa x.R.opens.length oc) ∧ wr.frozen? ⟨x.B, 2, none⟩ = false from fun S wr hM => by
    obtain ⟨-, k1, k2, k3, -⟩ := hM.cells
    exact ⟨by rw [k1, e], by rw [k2, hov], k3⟩)
  obtain ⟨POST, hPO⟩ : ∃ POST, RTurned x w { x.R with sure := setAll x.R.opens x.R.sure, opens := [] } (.tuple #[]) = POST := ⟨_, rfl⟩
  simp only [hPO] at HFIN ⊢
  clear hPO h hov e hm h8
  unfold RV.ptr
  go_enter Try.func48, Try.ntmps48
  go_wp2_with fail
  go_loopw [2] (fun i wr => ∃ k : Nat, k ≤ x.R.opens.length ∧ i = .int .i64 k ∧ Hid (Mid x w (setAll (x.R.opens.take k) x.R.sure) wr)) (fun i _ => x.R.opens.length - (intOf i).toNat)
  case atStart => exact ⟨0, by omega, rfl, H0⟩
  case round =>
    clear H0
    obtain ⟨k, hk, rfl, HM⟩ := hrel
    obtain ⟨c1, c2, f2⟩ := HC.out _ wr HM.out
    by_cases hkn : k = x.R.opens.length
    · have hkn2 : ¬ (k : Int) < x.R.opens.length := by omega
      have hM := HM.out
      rw [hkn, HFULL.out] at hM
      have HE := Lib.hid (HFIN.out wr hM)
      clear hM HM HST HFIN HFULL hkn hk
      go_wp2_with fail
      exact bodyPost_ret (v := .tuple #[]) (by simp [results, Try.results48, go_sem]) rfl HE.out
    · have hkN : k < x.R.opens.length := by omega
      have hk2 : (k : Int) < x.R.opens.length := by omega
      have hk1 : k + 1 ≤ x.R.opens.length := by omega
      obtain ⟨og, v, o1, rfl, ho1, d0, d1, ⟨u, hu⟩, hf, ⟨vg, vc, rfl⟩, HP⟩ := HST.out k hkN wr HM.out
      have ho2 : (o1 : Int) < x.R.sure.length := by omega
      have e1 : wr.drew.cell? ⟨x.B, 1, none⟩ = some (.slice (some ⟨g, 0, none⟩) x.R.sure.length cap) := c1
      have e2 : wr.drew.cell? ⟨x.B, 2, none⟩ = some (.slice (some ⟨og, 0, none⟩) x.R.opens.length oc) := c2
      have e3 : wr.drew.cell? ⟨og, k * 2, none⟩ = some (.int .i64 (o1 : Int)) := d0
      have e4 : wr.drew.cell? ⟨og, k * 2 + 1, none⟩ = some (.slice (some ⟨vg, 0, none⟩) x.R.ns vc) := d1
      clear HST HFIN HFULL hkn HM hk HC
      go_wp2_with fail
      go_still_tail 21, (by kernel_rfl)
      change wpList _ _ _ _ _ wr.drew
      go_wp2_with fail
      go_roundw
      case rel => exact ⟨k + 1, hk1, by go_num, Lib.hid (HP.out _ rfl)⟩
      case measure => simp [intOf]; omega
end Go.Proofs.Ytnmfgmlmjbfdcaa
