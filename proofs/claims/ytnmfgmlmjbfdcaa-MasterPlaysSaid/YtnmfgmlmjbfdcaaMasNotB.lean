/-
  The document's master: Sync and Put.
-/
import Derived.Test.YtnmfgmlmjbfdcaaMasNotA
namespace Go.Proofs.Ytnmfgmlmjbfdcaa
open Go.RowKit

def RV.top (x : RV) : Nat := max (topP (x.bl 0)) (topP (x.bl 1))
theorem RV.top_lt {x : RV} : x.top < 18446744073709551616 := by
  have h0 := topP_lt (x.bl 0)
  have h1 := topP_lt (x.bl 1)
  unfold RV.top
  omega
/-- A row of the master's own is turned, nothing else. -/
theorem row_turned {x : RV} {A : Nat} {cs : List Value} {w w' : World} (hx : x.In w) (hr : Row w A 52 cs (0, 0)) (ho : Only (· = A) w w') : x.In w' := by
  refine hx.only ho (fun j hj e => ?_) (fun j cs' m hr' e => ?_)
  · exact hx.notMine hr (by decide) (by decide) (by decide) (e ▸ hj)
  · subst e
    have := hr'.symm.trans hr
    simp at this

/-- The device behind a sync bears what it bore. -/
theorem bl_sync {x x' : RV} (hR : x'.R = { x.R with sure := setAll x.R.opens x.R.sure, opens := [] }) {b : Nat} (hb : b < x.R.sure.length) : x'.bl b = x.bl b := by
  unfold RV.bl
  rw [hR]
  show lastOf b ((setAll x.R.opens x.R.sure).getD b []) [] = _
  rw [List.getD_eq_getElem?_getD, setAll_get _ _ _ hb]
  rfl
theorem fit_sync {x x' : RV} (hf : x.Fit) (hR : x'.R = { x.R with sure := setAll x.R.opens x.R.sure, opens := [] }) : x'.Fit := by
  have h2 := hf.two
  refine ⟨?_, fun b hb => ?_, ?_⟩
  · rw [hR]
    show 2 ≤ (setAll x.R.opens x.R.sure).length
    rw [setAll_length]
    exact h2
  · rw [bl_sync hR (by omega)]
    exact hf.len b hb
  · rw [hR]
    exact Nat.zero_le _

/-- What a Sync of the document leaves. -/
def NSyncP (y : NV) (w : World) (e : Ending) (w' : World) : Prop :=
  e = .returned (.int .i64 0) ∧ ∃ x' : RV, x'.B = y.x.B ∧ x'.R = { y.x.R with sure := setAll y.x.R.opens y.x.R.sure, opens := [] } ∧ (NV.mk y.A x' (y.m.sync y.x.top) y.nx).In w' ∧ Only y.mine w w' ∧ ∀ k, x'.mine k → y.x.mine k ∨ w.heap.size ≤ k

section
variable {y : NV} {w : World}
set_option maxRecDepth 100000 in
theorem nsync_no (h : y.In w) (hw : y.m.way = false) : Calls Try.prog 25 #[y.ptr] w fun e w' => e = .returned (.int .i64 9) ∧ w = w' := by
  have c4 := h.c4
  rw [hw] at c4
  clear h
  unfold NV.ptr
  go_enter Try.func25, Try.ntmps25
  go_wp2
  go_ret
  exact ⟨rfl, rfl⟩

set_option maxRecDepth 100000 in
set_option maxHeartbeats 2000000 in
theorem nsync_way (h : y.In w) (hf : y.x.Fit) (hw : y.m.way = true) : Calls Try.prog 25 #[y.ptr] w (NSyncP y w) := by
  have c4 := h.c4
  have c0 := h.c0
  rw [hw] at c4
  have HS := Lib.hid (show Calls Try.prog 48 #[.pointer (some ⟨y.x.B, 0, none⟩)] w _ from rsync_any y.x w h.dev hf.few)
  have hnd := h.notDev
  have hone := h.one
  have hnx := h.nxt hw
  -- behind the device's Sync: the stores, the top, the stores
  have HF := Lib.hid (show ∀ (x' : RV) (w1 : World), x'.B = y.x.B → x'.R = { y.x.R with sure := setAll y.x.R.opens y.x.R.sure, opens := [] } → x'.In w1 → Only y.x.mine w w1 → (∀ k, x'.mine k → y.x.mine k ∨ w.heap.size ≤ k) →
      (w1.cell? ⟨y.A, 0, none⟩ = some (.pointer (some ⟨y.x.B, 0, none⟩)) ∧ w1.cell? ⟨y.A, 1, none⟩ = some (.int .i64 (y.m.at_ : Int)) ∧ w1.cell? ⟨y.A, 2, none⟩ = some (.string (tb y.m.s)) ∧ w1.cell? ⟨y.A, 3, none⟩ = some (.int .u64 (y.m.v : Int)) ∧ w1.cell? ⟨y.A, 4, none⟩ = some (.bool true) ∧ w1.cell? ⟨y.A, 5, none⟩ = some (.string (tb y.nx)) ∧ ∀ i, w1.frozen? ⟨y.A, i, none⟩ = false) ∧
      (∀ w2, w2 = (w1.setCell ⟨y.A, 4, none⟩ (.bool false)).setCell ⟨y.A, 1, none⟩ (.int .i64 ((1 - y.m.at_ : Nat) : Int)) → Calls Try.prog 49 #[.pointer (some ⟨y.A, 0, none⟩)] w2 (fun e w' => e = .returned (.int .u64 (y.x.top : Int)) ∧ w2 = w') ∧ w2.cell? ⟨y.A, 0, none⟩ = some (.pointer (some ⟨y.x.B, 0, none⟩)) ∧ w2.cell? ⟨y.A, 2, none⟩ = some (.string (tb y.m.s)) ∧ w2.cell? ⟨y.A, 3, none⟩ = some (.int .u64 (y.m.v : Int)) ∧ w2.cell? ⟨y.A, 5, none⟩ = some (.string (tb y.nx)) ∧ (∀ i, w2.frozen? ⟨y.A, i, none⟩ = false) ∧
        ∀ w3, w3 = (w2.setCell ⟨y.A, 3, none⟩ (.int .u64 (y.x.top : Int))).setCell ⟨y.A, 2, none⟩ (.string (tb y.nx)) → NSyncP y w (.returned (.int .i64 0)) w3) from fun x' w1 hB hR hi ho hm => by
    have r := h.row.only ho hnd
    unfold NV.cells at r
    rw [hw] at r
    refine ⟨⟨r.cell 0, r.cell 1, r.cell 2, r.cell 3, r.cell 4, r.cell 5, fun i => r.loose i⟩, fun w2 e2 => ?_⟩
    subst e2
    have r2 := (r.put 4 (.bool false)).put 1 (.int .i64 ((1 - y.m.at_ : Nat) : Int))
    have ho2 : Only (· = y.A) w1 ((w1.setCell ⟨y.A, 4, none⟩ (.bool false)).setCell ⟨y.A, 1, none⟩ (.int .i64 ((1 - y.m.at_ : Nat) : Int))) := ((Only.refl (· = y.A) w1).setCell (p := ⟨y.A, 4, none⟩) rfl _).setCell (p := ⟨y.A, 1, none⟩) rfl _
    have hi2 := row_turned hi r ho2
    have h2 := hf.two
    have ht : x'.top = y.x.top := by unfold RV.top; rw [bl_sync hR (by omega), bl_sync hR (by omega)]
    have hT := ntop_any hi2 (fit_sync hf hR) y.A (by rw [hB]; exact r2.cell 0)
    refine ⟨?_, r2.cell 0, r2.cell 2, r2.cell 3, r2.cell 5, fun i => r2.loose i, fun w3 e3 => ?_⟩
    · have hT' := hT
      rw [show max (topP (x'.bl 0)) (topP (x'.bl 1)) = y.x.top from ht] at hT'
      exact hT'
    subst e3
    have r3 := (r2.put 3 (.int .u64 (y.x.top : Int))).put 2 (.string (tb y.nx))
    have ho3 : Only (· = y.A) w1 ((((w1.setCell ⟨y.A, 4, none⟩ (.bool false)).setCell ⟨y.A, 1, none⟩ (.int .i64 ((1 - y.m.at_ : Nat) : Int))).setCell ⟨y.A, 3, none⟩ (.int .u64 (y.x.top : Int))).setCell ⟨y.A, 2, none⟩ (.string (tb y.nx))) :=
      (ho2.setCell (p := ⟨y.A, 3, none⟩) rfl _).setCell (p := ⟨y.A, 2, none⟩) rfl _
    refine ⟨rfl, x', hB, hR, ⟨?_, row_turned hi r ho3, by show 1 - y.m.at_ ≤ 1; omega, fun e => by cases e⟩, (ho.imp fun k _ hk => .inr hk).trans (ho3.imp fun k _ hk => .inl hk), hm⟩
    have e0 : (NV.mk y.A x' (y.m.sync y.x.top) y.nx).cells = [.pointer (some ⟨y.x.B, 0, none⟩), .int .i64 ((1 - y.m.at_ : Nat) : Int), .string (tb y.nx), .int .u64 (y.x.top : Int), .bool false, .string (tb y.nx)] := by
      unfold NV.cells
      rw [hB, hnx]
      rfl
    show Row _ y.A _ (NV.mk y.A x' (y.m.sync y.x.top) y.nx).cells _
    rw [e0]
    exact r3)
  have hsub : (1 : Int) - (y.m.at_ : Int) = ((1 - y.m.at_ : Nat) : Int) := by omega
  obtain ⟨Q, hQ⟩ : ∃ Q, NSyncP y w = Q := ⟨_, rfl⟩
  rw [hQ] at HF ⊢
  obtain ⟨q, hq⟩ : ∃ q, y.m.at_ = q := ⟨_, rfl⟩
  obtain ⟨q2, hq2⟩ : ∃ q2, 1 - q = q2 := ⟨_, rfl⟩
  obtain ⟨tp, htp⟩ : ∃ tp, y.x.top = tp := ⟨_, rfl⟩
  simp only [hq, hq2, htp] at HF hsub hone
  clear h hf hw hnd hnx hQ hq hq2 htp
  unfold NV.ptr
  go_enter Try.func25, Try.ntmps25
  go_wp2_with fail
  refine HS.out.mono ?_
  rintro e w1 ⟨x', rfl, hB, hR, hi, ho, hm⟩
  obtain ⟨⟨k0, k1, k2, k3, k4, k5, fr⟩, hg⟩ := HF.out x' w1 hB hR hi ho hm
  have HG := Lib.hid hg
  have f1 := fr 1
  have f4 := fr 4
  clear hB hR hi ho hm hg fr c0 c4 HF HS
  go_wp2_with fail
  obtain ⟨hT, j0, j2, j3, j5, fr, he⟩ := HG.out _ rfl
  have HE := Lib.hid he
  have f2 := fr 2
  have f3 := fr 3
  refine hT.mono ?_
  rintro e w2 ⟨rfl, rfl⟩
  clear he hT fr HG
  go_wp2_with fail
  exact HE.out _ rfl

/-- What a Put answers. -/
def NV.putE (y : NV) (s : List UInt8) : Nat := if y.m.way = true then 9 else if y.x.R.ns * 56 < s.length + 4 then 3 else if 9223372036854775808 ≤ y.x.top then 6 else 0
/-- What it leaves. -/
def NPutP (y : NV) (s : List UInt8) (w : World) (e : Ending) (w' : World) : Prop :=
  e = .returned (.int .i64 ((y.putE s : Nat) : Int)) ∧ ((y.putE s ≠ 0 ∧ Below w.heap.size w w') ∨ (y.putE s = 0 ∧ ∃ x' : RV, x'.B = y.x.B ∧ x'.R = { y.x.R with opens := y.x.R.opens ++ [(1 - y.m.at_, pad (y.x.R.ns * 64) (txt (tb (packed (y.x.top + 1) s y.x.R.ns))))] } ∧ (NV.mk y.A x' (y.m.put s) s).In w' ∧ Only y.mine w w' ∧ ∀ k, x'.mine k → y.x.mine k ∨ w.heap.size ≤ k))

set_option maxRecDepth 100000 in
theorem nput_state (h : y.In w) (s : List UInt8) (hw : y.m.way = true) : Calls Try.prog 31 #[y.ptr, .string (tb s)] w (NPutP y s w) := by
  have c4 := h.c4
  rw [hw] at c4
  have hE : y.putE s = 9 := by unfold NV.putE; rw [if_pos hw]
  unfold NPutP
  rw [hE]
  clear h
  unfold NV.ptr
  go_enter Try.func31, Try.ntmps31
  go_wp2
  go_ret
  exact ⟨rfl, .inl ⟨by decide, Below.refl _ _⟩⟩

set_option maxRecDepth 100000 in
set_option maxHeartbeats 2000000 in
theorem nput_long (h : y.In w) (s : List UInt8) (hw : y.m.way = false) (hl : y.x.R.ns * 56 < s.length + 4) (hs : s.length ≤ 1000000) : Calls Try.prog 31 #[y.ptr, .string (tb s)] w (NPutP y s w) := by
  have c4 := h.c4
  have c0 := h.c0
  have d0 := h.dev.c0
  have hn1 := h.dev.n1
  have hn4 := h.dev.n4
  rw [hw] at c4
  have hE : y.putE s = 3 := by unfold NV.putE; rw [if_neg (by rw [hw]; decide), if_pos hl]
  obtain ⟨sz, hsz⟩ : ∃ sz : Nat, 64 * y.x.R.ns = sz := ⟨_, rfl⟩
  have hsI : (64 : Int) * (y.x.R.ns : Int) = (sz : Int) := by omega
  have HP := Lib.hid (mpack_any 1 (tb s) (sz : Int) w (by decide) (by rw [tb_size]; omega) (by omega) (by omega))
  have e3 : packE 1 (tb s).size (sz : Int) = 3 := by
    have := packE_three (v := 1) (n := (tb s).size) (k := y.x.R.ns) (by omega) (by omega) (by decide) (by rw [tb_size]; exact hl)
    rw [show (sz : Int) = (y.x.R.ns : Int) * 64 by omega]
    exact this
  rw [e3] at HP
  have hnI : (y.x.R.ns : Int) ≤ 4 := by omega
  unfold NPutP
  rw [hE]
  clear h e3 hl hs hsz
  unfold NV.ptr
  go_enter Try.func31, Try.ntmps31
  go_wp2_with fail
  refine HP.out.mono ?_
  rintro e w1 ⟨rfl, hb1⟩
  have HB := Lib.hid hb1
  clear hb1
  go_wp2_with fail
  go_ret
  exact ⟨rfl, .inl ⟨by decide, HB.out⟩⟩

set_option maxRecDepth 100000 in
set_option maxHeartbeats 2000000 in
theorem nput_full (h : y.In w) (hf : y.x.Fit) (s : List UInt8) (hw : y.m.way = false) (hl : s.length + 4 ≤ y.x.R.ns * 56) (ht : 9223372036854775808 ≤ y.x.top) : Calls Try.prog 31 #[y.ptr, .string (tb s)] w (NPutP y s w) := by
  have c4 := h.c4
  have c0 := h.c0
  have d0 := h.dev.c0
  have hn1 := h.dev.n1
  have hn4 := h.dev.n4
  rw [hw] at c4
  have hE : y.putE s = 6 := by unfold NV.putE; rw [if_neg (by rw [hw]; decide), if_neg (by omega), if_pos ht]
  obtain ⟨sz, hsz⟩ : ∃ sz : Nat, 64 * y.x.R.ns = sz := ⟨_, rfl⟩
  have hsI : (64 : Int) * (y.x.R.ns : Int) = (sz : Int) := by omega
  have HP := Lib.hid (mpack_any 1 (tb s) (sz : Int) w (by decide) (by rw [tb_size]; omega) (by omega) (by omega))
  have e3 : packE 1 (tb s).size (sz : Int) = 0 := by
    rw [show (sz : Int) = (y.x.R.ns : Int) * 64 by omega, tb_size]
    exact packE_of ⟨by omega, by omega, by decide, by decide, hl⟩
  rw [e3] at HP
  have HT := Lib.hid (fun w1 (hb : Below w.heap.size w w1) => show Calls Try.prog 49 #[.pointer (some ⟨y.A, 0, none⟩)] w1 (fun e w' => e = .returned (.int .u64 (y.x.top : Int)) ∧ w1 = w') from ntop_any (h.keeps hb).dev hf y.A (h.keeps hb).c0)
  have htI : (9223372036854775808 : Int) ≤ (y.x.top : Int) := by omega
  have hnI : (y.x.R.ns : Int) ≤ 4 := by omega
  unfold NPutP
  rw [hE]
  obtain ⟨tp, htp⟩ : ∃ tp, y.x.top = tp := ⟨_, rfl⟩
  rw [htp] at HT htI
  clear h e3 hl hsz hf htp ht
  unfold NV.ptr
  go_enter Try.func31, Try.ntmps31
  go_wp2_with fail
  refine HP.out.mono ?_
  rintro e w1 ⟨rfl, hb1⟩
  have HB := Lib.hid hb1
  have HT1 := Lib.hid (HT.out w1 hb1)
  clear hb1
  go_wp2_with fail
  refine HT1.out.mono ?_
  rintro e w2 ⟨rfl, rfl⟩
  go_wp2_with fail
  go_ret
  exact ⟨rfl, .inl ⟨by decide, HB.out⟩⟩

set_option maxRecDepth 100000 in
set_option maxHeartbeats 4000000 in
theorem nput_good (h : y.In w) (hf : y.x.Fit) (s : List UInt8) (hw : y.m.way = false) (hl : s.length + 4 ≤ y.x.R.ns * 56) (ht : y.x.top < 9223372036854775808) : Calls Try.prog 31 #[y.ptr, .string (tb s)] w (NPutP y s w) := by
  have c4 := h.c4
  have c0 := h.c0
  have d0 := h.dev.c0
  have hn1 := h.dev.n1
  have hn4 := h.dev.n4
  have hone := h.one
  rw [hw] at c4
  have hE : y.putE s = 0 := by unfold NV.putE; rw [if_neg (by rw [hw]; decide), if_neg (by omega), if_neg (by omega)]
  obtain ⟨sz, hsz⟩ : ∃ sz : Nat, 64 * y.x.R.ns = sz := ⟨_, rfl⟩
  have hsI : (64 : Int) * (y.x.R.ns : Int) = (sz : Int) := by omega
  have hszI : (sz : Int) = (y.x.R.ns : Int) * 64 := by omega
  have HP := Lib.hid (mpack_any 1 (tb s) (sz : Int) w (by decide) (by rw [tb_size]; omega) (by omega) (by omega))
  have e3 : packE 1 (tb s).size (sz : Int) = 0 := by
    rw [hszI, tb_size]
    exact packE_of ⟨by omega, by omega, by decide, by decide, hl⟩
  rw [e3] at HP
  have hfit : Fits (y.x.top + 1) s y.x.R.ns := ⟨by omega, by omega, by omega, by omega, hl⟩
  have HP2 := Lib.hid (fun (wx : World) => show Calls Try.prog 11 #[.int .u64 ((y.x.top + 1 : Nat) : Int), .string (tb s), .int .i64 (sz : Int)] wx (fun e w' => e = .returned (.tuple #[.string (tb (packed (y.x.top + 1) s y.x.R.ns)), .int .i64 0]) ∧ Below wx.heap.size wx w') by
    have := mpack_any (y.x.top + 1) (tb s) (sz : Int) wx (by omega) (by rw [tb_size]; omega) (by omega) (by omega)
    rw [show packE (y.x.top + 1) (tb s).size (sz : Int) = 0 by rw [hszI, tb_size]; exact packE_of hfit, show txt (tb s) = s from tb_list s, hszI, packT_of hfit] at this
    rw [hszI]
    exact this)
  have HT := Lib.hid (fun w1 (hb : Below w.heap.size w w1) => show Calls Try.prog 49 #[.pointer (some ⟨y.A, 0, none⟩)] w1 (fun e w' => e = .returned (.int .u64 (y.x.top : Int)) ∧ w1 = w') from ntop_any (h.keeps hb).dev hf y.A (h.keeps hb).c0)
  have HC := Lib.hid (fun w1 (hb : Below w.heap.size w w1) => show w1.cell? ⟨y.A, 0, none⟩ = some (.pointer (some ⟨y.x.B, 0, none⟩)) ∧ w1.cell? ⟨y.x.B, 0, none⟩ = some (.int .i64 (y.x.R.ns : Int)) from ⟨(h.keeps hb).c0, (h.keeps hb).dev.c0⟩)
  have HD := Lib.hid (fun w1 (hb : Below w.heap.size w w1) => show w1.cell? ⟨y.A, 1, none⟩ = some (.int .i64 (y.m.at_ : Int)) ∧ w1.cell? ⟨y.A, 4, none⟩ = some (.bool false) ∧ w1.cell? ⟨y.A, 5, none⟩ = some (.string (tb y.nx)) ∧ (∀ i, w1.frozen? ⟨y.A, i, none⟩ = false) from ⟨(h.keeps hb).c1, by rw [(h.keeps hb).c4, hw], (h.keeps hb).c5, fun i => (h.keeps hb).row.loose i⟩)
  -- behind the stores: the write
  have HW := Lib.hid (show ∀ w1, Below w.heap.size w w1 → ∀ w2, w2 = (((w1.setCell ⟨y.A, 4, none⟩ (.bool true)).setCell ⟨y.A, 5, none⟩ (.string (tb s)))).drew →
      w2.cell? ⟨y.A, 0, none⟩ = some (.pointer (some ⟨y.x.B, 0, none⟩)) ∧ w2.cell? ⟨y.A, 1, none⟩ = some (.int .i64 (y.m.at_ : Int)) ∧
      Calls Try.prog 29 #[.pointer (some ⟨y.x.B, 0, none⟩), .int .i64 ((1 - y.m.at_ : Nat) : Int), .string (tb (packed (y.x.top + 1) s y.x.R.ns))] w2 fun e w' => e = .returned (.int .i64 0) ∧ (w'.cell? ⟨y.A, 0, none⟩ = some (.pointer (some ⟨y.x.B, 0, none⟩)) ∧ w'.cell? ⟨y.A, 1, none⟩ = some (.int .i64 (y.m.at_ : Int))) ∧ NPutP y s w (.returned (.int .i64 0)) w' from fun w1 hb w2 e2 => by
    subst e2
    have k := h.keeps hb
    have r := k.row
    unfold NV.cells at r
    have r2 := (r.put 4 (.bool true)).put 5 (.string (tb s))
    have ho2 : Only (· = y.A) w1 (((w1.setCell ⟨y.A, 4, none⟩ (.bool true)).setCell ⟨y.A, 5, none⟩ (.string (tb s))).drew) := (((Only.refl (· = y.A) w1).setCell (p := ⟨y.A, 4, none⟩) rfl _).setCell (p := ⟨y.A, 5, none⟩) rfl _).drew
    have hi2 := row_turned k.dev r ho2
    refine ⟨r2.cell 0, r2.cell 1, ?_⟩
    have h2 := hf.two
    refine (rwrite_good y.x (1 - y.m.at_) (tb (packed (y.x.top + 1) s y.x.R.ns)) _ hi2 (by omega) (by rw [tb_size, packed_length]; exact Nat.le_refl _) hf.few).mono ?_
    rintro e w3 ⟨x', rfl, hB, hR, hi, ho, hm⟩
    have hnd : ¬ y.x.mine y.A := h.notDev
    have r3 := (show Row ((w1.setCell ⟨y.A, 4, none⟩ (.bool true)).setCell ⟨y.A, 5, none⟩ (.string (tb s))).drew y.A 52 _ (0, 0) from r2).only ho hnd
    refine ⟨rfl, ⟨r3.cell 0, r3.cell 1⟩, by rw [hE]; rfl, .inr ⟨hE, x', hB, hR, ⟨?_, hi, h.one, fun _ => rfl⟩, ((Only.below hb y.mine).trans (ho2.imp fun k _ hk => .inl hk)).trans (ho.imp fun k _ hk => .inr hk), fun k hk => (hm k hk).imp id fun hh => ?_⟩⟩
    · show Row w3 y.A _ (NV.mk y.A x' (y.m.put s) s).cells _
      unfold NV.cells
      rw [hB]
      exact r3
    · exact Nat.le_trans (Nat.le_trans hb.size ho2.size) hh)
  obtain ⟨Q, hQ⟩ : ∃ Q, NPutP y s w = Q := ⟨_, rfl⟩
  rw [hQ] at HW ⊢
  obtain ⟨q, hq⟩ : ∃ q, y.m.at_ = q := ⟨_, rfl⟩
  obtain ⟨q2, hq2⟩ : ∃ q2, 1 - q = q2 := ⟨_, rfl⟩
  obtain ⟨tp, htp⟩ : ∃ tp, y.x.top = tp := ⟨_, rfl⟩
  obtain ⟨t2, ht2⟩ : ∃ t2, tp + 1 = t2 := ⟨_, rfl⟩
  obtain ⟨PP, hPP⟩ : ∃ PP, tb (packed (y.x.top + 1) s y.x.R.ns) = PP := ⟨_, rfl⟩
  simp only [hPP] at HP2 HW
  simp only [htp, ht2] at HP2 HT ht
  simp only [hq, hq2] at HW HD hone
  have HTI := Lib.hid (fun _ : Unit => ht)
  have hsub : (1 : Int) - (q : Int) = (q2 : Int) := by omega
  have hadd : (tp : Int) + 1 = (t2 : Int) := by omega
  have hw1 : IntKind.i64.wrap (q2 : Int) = (q2 : Int) := IntWalk.i64_in _ (by omega)
  have hw2 : IntKind.u64.wrap (t2 : Int) = (t2 : Int) := IntWalk.u64_in _ (by omega)
  have hw3 : IntKind.i64.wrap (sz : Int) = (sz : Int) := IntWalk.i64_in _ (by omega)
  have hnI : (y.x.R.ns : Int) ≤ 4 := by omega
  clear h e3 hl hsz hf htp ht hw hE hfit hPP hq2 hq ht2 hQ hn1 hn4 hszI hone
  unfold NV.ptr
  go_enter Try.func31, Try.ntmps31
  go_wp2_with fail
  refine HP.out.mono ?_
  rintro e w1 ⟨rfl, hb1⟩
  have HB := Lib.hid hb1
  have HT1 := Lib.hid (HT.out w1 hb1)
  clear hb1 c4 c0 d0 HP
  go_wp2_with fail
  refine HT1.out.mono ?_
  rintro e w2 ⟨rfl, rfl⟩
  obtain ⟨wd, hwd⟩ : ∃ wd, w1.drew = wd := ⟨_, rfl⟩
  have HBd := Lib.hid (show Below w.heap.size w wd from hwd ▸ ⟨HB.out.os, HB.out.tape, HB.out.output, HB.out.size, HB.out.block⟩)
  have hHeld := HC.out wd HBd.out
  have HT2 := Lib.hid (HT.out wd HBd.out)
  have HWD := Lib.hid (fun _ : Unit => hwd)
  clear HB HT1 HT hwd
  have htI : ¬ (9223372036854775808 : Int) ≤ (tp : Int) := by have := HTI.out (); omega
  dsimp only
  iterate 12 go_step
  clear htI
  have htI : (tp : Int) < 9223372036854775808 := by have := HTI.out (); omega
  have hwd := HWD.out ()
  go_wp2_with fail
  refine wp_region_noPanic ?_
  refine wp_region_sch (fun wx => wx.cell? ⟨y.A, 0, none⟩ = some (.pointer (some ⟨y.x.B, 0, none⟩)) ∧ wx.cell? ⟨y.x.B, 0, none⟩ = some (.int .i64 (y.x.R.ns : Int))) (fun i => [1, 12].contains i)
    (.takes [0, 3, 4, 5, 6, 7, 8, 9, 10, 11] (.run 1 (.takes [2] (.run 12 (.takes [13, 14, 15, 16, 17] .done))))) (by kernel_rfl) (fun _ _ _ _ _ h => h) (by kernel_rfl) ?_
  rw [hwd]
  iterate 10 (
    refine sch_takes_cons ?_
    first
      | (refine sch_take (v := ?_) rfl (by assumption) (by rfl) ?_ ?_; rotate_left; (focus (intro wy hSy; (try dsimp only at hSy); go_simp; (try with_reducible rfl))))
      | (refine sch_pass rfl (by assumption) (by rfl) ?_)
    simp only [Act.put, List.setIfInBounds_toArray, List.set_cons_zero, List.set_cons_succ])
  refine sch_takes_nil ?_
  refine sch_run rfl (fun K hK => ?_)
  go_simp
  with_reducible refine HT2.out.mono ?_
  rintro e we ⟨rfl, rfl⟩
  refine hK.out _ _ (fun _ => hHeld) ?_
  clear hK K
  try simp only [Act.put, List.setIfInBounds_toArray, List.set_cons_zero, List.set_cons_succ]
  refine sch_takes_cons ?_
  first
    | (refine sch_take (v := ?_) rfl (by assumption) (by rfl) ?_ ?_; rotate_left; (focus (intro wy hSy; (try dsimp only at hSy); go_simp; (try with_reducible rfl))))
    | (refine sch_pass rfl (by assumption) (by rfl) ?_)
  simp only [Act.put, List.setIfInBounds_toArray, List.set_cons_zero, List.set_cons_succ]
  refine sch_takes_nil ?_
  refine sch_run rfl (fun K hK => ?_)
  go_simp
  with_reducible refine (HP2.out _).mono ?_
  rintro e w3 ⟨rfl, hb3⟩
  have HB3 := Lib.hid (HBd.out.trans (hb3.mono HBd.out.size))
  have hHeld := HC.out w3 HB3.out
  clear hb3
  refine hK.out _ _ (fun _ => hHeld) ?_
  clear hK K
  try simp only [Act.put, List.setIfInBounds_toArray, List.set_cons_zero, List.set_cons_succ]
  iterate 5 (
    refine sch_takes_cons ?_
    first
      | (refine sch_take (v := ?_) rfl (by assumption) (by rfl) ?_ ?_; rotate_left; (focus (intro wy hSy; (try dsimp only at hSy); go_simp; (try with_reducible rfl))))
      | (refine sch_pass rfl (by assumption) (by rfl) ?_)
    simp only [Act.put, List.setIfInBounds_toArray, List.set_cons_zero, List.set_cons_succ])
  refine sch_takes_nil ?_
  refine sch_done ?_
  refine NoPanic.normal ?_
  obtain ⟨k1, k4, k5, fr⟩ := HD.out w3 HB3.out
  have f4 := fr 4
  have f5 := fr 5
  obtain ⟨k0, kB⟩ := hHeld
  clear fr HBd HD HC HP2 HT2 hHeld
  obtain ⟨wf, hwf⟩ : ∃ wf, ((w3.setCell ⟨y.A, 4, none⟩ (.bool true)).setCell ⟨y.A, 5, none⟩ (.string (tb s))).drew = wf := ⟨_, rfl⟩
  obtain ⟨j0, j1, hWR⟩ := HW.out w3 HB3.out wf hwf.symm
  have HWR := Lib.hid hWR
  have hHeld := And.intro j0 j1
  clear hWR HW
  go_wp2_with fail
  refine wp_region_noPanic ?_
  refine wp_region_sch (fun wx => wx.cell? ⟨y.A, 0, none⟩ = some (.pointer (some ⟨y.x.B, 0, none⟩)) ∧ wx.cell? ⟨y.A, 1, none⟩ = some (.int .i64 (q : Int))) (fun i => [10].contains i)
    (.takes [0, 1, 2, 3, 4, 5, 6, 7, 8, 9] (.run 10 (.takes [11] .done))) (by kernel_rfl) (fun _ _ _ _ _ h => h) (by kernel_rfl) ?_
  rw [hwf]
  iterate 10 (
    refine sch_takes_cons ?_
    first
      | (refine sch_take (v := ?_) rfl (by assumption) (by rfl) ?_ ?_; rotate_left; (focus (intro wy hSy; (try dsimp only at hSy); go_simp; (try with_reducible rfl))))
      | (refine sch_pass rfl (by assumption) (by rfl) ?_)
    simp only [Act.put, List.setIfInBounds_toArray, List.set_cons_zero, List.set_cons_succ])
  refine sch_takes_nil ?_
  refine sch_run rfl (fun K hK => ?_)
  go_simp
  with_reducible refine HWR.out.mono ?_
  rintro e w5 ⟨rfl, hHeld, hQ5⟩
  have HQ5 := Lib.hid hQ5
  clear hQ5 HWR
  refine hK.out _ _ (fun _ => hHeld) ?_
  clear hK K
  try simp only [Act.put, List.setIfInBounds_toArray, List.set_cons_zero, List.set_cons_succ]
  refine sch_takes_cons ?_
  first
    | (refine sch_take (v := ?_) rfl (by assumption) (by rfl) ?_ ?_; rotate_left; (focus (intro wy hSy; (try dsimp only at hSy); go_simp; (try with_reducible rfl))))
    | (refine sch_pass rfl (by assumption) (by rfl) ?_)
  simp only [Act.put, List.setIfInBounds_toArray, List.set_cons_zero, List.set_cons_succ]
  refine sch_takes_nil ?_
  refine sch_done ?_
  refine NoPanic.normal ?_
  clear hHeld
  go_wp2_with fail
  exact HQ5.out
end
end Go.Proofs.Ytnmfgmlmjbfdcaa
