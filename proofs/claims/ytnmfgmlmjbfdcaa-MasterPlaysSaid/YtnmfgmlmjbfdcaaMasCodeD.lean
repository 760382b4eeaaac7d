/-
  The code's master: Sync; Put.
-/
import Derived.Test.YtnmfgmlmjbfdcaaMasCodeC
namespace Go.Proofs.Ytnmfgmlmjbfdcaa
open Go.RowKit

/-- Behind a Sync, behind a Put. -/
def MV.syncV (x : MV) : MV := ⟨x.A, x.d.synced, x.m.sync x.d.top, 0⟩
def MV.putV (x : MV) (s : List UInt8) (p : Value) : MV := ⟨x.A, x.d.wrote (1 - x.m.at_) (tb (x.d.putB s)) p, x.m.put s, x.d.top + 1⟩
theorem synced_mine {d : DV} {k : Nat} (h : d.synced.mine k) : d.mine k := by
  rcases h with e | e | e | e
  · exact .inl e
  · exact .inr (.inl e)
  · exact .inr (.inr (.inl e))
  · cases e
section
variable {x : MV} {w : World}
theorem nextV_way (h : x.m.way = true) : nextV x.m.at_ x.m.way x.top x.m.next = [.int .i64 ((1 - x.m.at_ : Nat) : Int), .int .u64 (x.top : Int), .string (tb x.m.next)] := by unfold nextV; rw [if_pos h]
theorem nextV_no (h : x.m.way = false) : nextV x.m.at_ x.m.way x.top x.m.next = [.int .i64 0, .int .u64 0, .string ⟨#[]⟩] := by unfold nextV; rw [if_neg (by rw [h]; decide)]

set_option maxRecDepth 100000 in
theorem msync_no (h : x.In w) (hw : x.m.way = false) : Calls Try.prog 24 #[x.ptr] w fun e w' => e = .returned (.int .i64 9) ∧ w = w' := by
  have HN := Lib.hid (mnone_any x.A x.d.A w h.c0)
  have HB := Lib.hid (mbusy_any h)
  rw [hw] at HB
  clear h hw
  unfold MV.ptr at HB ⊢
  go_enter Try.func24, Try.ntmps24
  go_wp2_with fail
  refine HN.out.mono ?_
  rintro e w1 ⟨rfl, rfl⟩
  go_wp2_with fail
  refine HB.out.mono ?_
  rintro e w1 ⟨rfl, rfl⟩
  go_wp2
  go_ret
  exact ⟨rfl, rfl⟩

set_option maxRecDepth 100000 in
set_option maxHeartbeats 2000000 in
theorem msync_way (h : x.In w) (hw : x.m.way = true) : Calls Try.prog 24 #[x.ptr] w fun e w' => e = .returned (.int .i64 0) ∧ x.syncV.In w' ∧ Only x.mine w w' := by
  have HN := Lib.hid (mnone_any x.A x.d.A w h.c0)
  have HB := Lib.hid (mbusy_any h)
  have HS := Lib.hid (sync_any x.d w h.dev)
  have c0 := h.c0
  rw [hw] at HB
  have htop := h.way hw
  have hnd := h.notDev
  -- the master's own block behind the device's Sync
  have hrow : ∀ w1, Only x.d.mine w w1 → Row w1 x.A 76 x.cells (0, 0) := fun w1 ho => h.row.only ho hnd
  have HR := Lib.hid (show ∀ w1, Only x.d.mine w w1 → (∀ i, w1.frozen? ⟨x.A, i, none⟩ = false) ∧ w1.cell? ⟨x.A, 1, none⟩ = some (.int .i64 (x.m.at_ : Int)) ∧ w1.cell? ⟨x.A, 2, none⟩ = some (.int .u64 (x.m.v : Int)) ∧ w1.cell? ⟨x.A, 3, none⟩ = some (.string (tb x.m.s)) ∧
      w1.cell? ⟨x.A, 4, none⟩ = some (.int .i64 ((1 - x.m.at_ : Nat) : Int)) ∧ w1.cell? ⟨x.A, 5, none⟩ = some (.int .u64 (x.top : Int)) ∧ w1.cell? ⟨x.A, 6, none⟩ = some (.string (tb x.m.next)) from fun w1 ho => by
    have r := hrow w1 ho
    unfold MV.cells at r
    rw [nextV_way hw] at r
    exact ⟨fun i => r.loose i, r.cell 1, r.cell 2, r.cell 3, r.cell 4, r.cell 5, r.cell 6⟩)
  have HF := Lib.hid (show ∀ w1, Only x.d.mine w w1 → x.d.synced.In w1 → ∀ w', w' = (((((w1.setCell ⟨x.A, 1, none⟩ (.int .i64 ((1 - x.m.at_ : Nat) : Int))).setCell ⟨x.A, 2, none⟩ (.int .u64 (x.top : Int))).setCell ⟨x.A, 3, none⟩ (.string (tb x.m.next))).setCell ⟨x.A, 4, none⟩ (.int .i64 0)).setCell ⟨x.A, 5, none⟩ (.int .u64 0)).setCell ⟨x.A, 6, none⟩ (.string ⟨#[]⟩) →
      x.syncV.In w' ∧ Only x.mine w w' from fun w1 ho hi w' e => by
    subst e
    have r := hrow w1 ho
    unfold MV.cells at r
    rw [nextV_way hw] at r
    have r6 := (((((r.put 1 (.int .i64 ((1 - x.m.at_ : Nat) : Int))).put 2 (.int .u64 (x.top : Int))).put 3 (.string (tb x.m.next))).put 4 (.int .i64 0)).put 5 (.int .u64 0)).put 6 (.string ⟨#[]⟩)
    have ho6 : Only (· = x.A) w1 ((((((w1.setCell ⟨x.A, 1, none⟩ (.int .i64 ((1 - x.m.at_ : Nat) : Int))).setCell ⟨x.A, 2, none⟩ (.int .u64 (x.top : Int))).setCell ⟨x.A, 3, none⟩ (.string (tb x.m.next))).setCell ⟨x.A, 4, none⟩ (.int .i64 0)).setCell ⟨x.A, 5, none⟩ (.int .u64 0)).setCell ⟨x.A, 6, none⟩ (.string ⟨#[]⟩)) :=
      ((((((Only.refl (· = x.A) w1).setCell (p := ⟨x.A, 1, none⟩) rfl _).setCell (p := ⟨x.A, 2, none⟩) rfl _).setCell (p := ⟨x.A, 3, none⟩) rfl _).setCell (p := ⟨x.A, 4, none⟩) rfl _).setCell (p := ⟨x.A, 5, none⟩) rfl _).setCell (p := ⟨x.A, 6, none⟩) rfl _
    refine ⟨⟨?_, hi.only ho6 (fun k hk e => hnd (e ▸ synced_mine hk)), h.two, by show 1 - x.m.at_ ≤ 1; omega, by show x.d.top < _; exact top_lt, fun e => by cases e⟩, (ho.imp fun k _ hk => .inr hk).trans (ho6.imp fun k _ hk => .inl hk)⟩
    have e0 : x.syncV.cells = [x.d.ptr, .int .i64 ((1 - x.m.at_ : Nat) : Int), .int .u64 (x.top : Int), .string (tb x.m.next), .int .i64 0, .int .u64 0, .string ⟨#[]⟩] := by
      rw [htop.1]; rfl
    rw [e0]
    exact r6)
  clear h hrow hnd htop hw
  unfold MV.ptr at HB ⊢
  unfold DV.ptr at HS
  go_enter Try.func24, Try.ntmps24
  go_wp2_with fail
  refine HN.out.mono ?_
  rintro e w1 ⟨rfl, rfl⟩
  go_wp2_with fail
  refine HB.out.mono ?_
  rintro e w1 ⟨rfl, rfl⟩
  go_wp2_with fail
  refine HS.out.mono ?_
  rintro e w2 ⟨rfl, hi2, ho2⟩
  obtain ⟨fr, k1, k2, k3, k4, k5, k6⟩ := HR.out w2 ho2
  have HE := Lib.hid (HF.out w2 ho2 hi2)
  have f1 := fr 1
  have f2 := fr 2
  have f3 := fr 3
  have f4 := fr 4
  have f5 := fr 5
  have f6 := fr 6
  generalize (1 - x.m.at_ : Nat) = at2 at *
  clear hi2 ho2 fr c0
  go_wp2
  go_ret
  exact ⟨rfl, HE.out _ rfl⟩

/-- What a Put does. -/
def MPutP (x : MV) (s : List UInt8) (w : World) (e : Ending) (w' : World) : Prop :=
  e = .returned (.int .i64 ((x.d.putE x.m s : Nat) : Int)) ∧ ((x.d.putE x.m s ≠ 0 ∧ Below w.heap.size w w') ∨ (x.d.putE x.m s = 0 ∧ ∃ p, (x.putV s p).In w' ∧ Only x.mine w w' ∧ ∀ k, p.ownBlock = some k → x.d.p.ownBlock = some k ∨ w.heap.size ≤ k))

set_option maxRecDepth 100000 in
set_option maxHeartbeats 1000000 in
theorem mput_state (h : x.In w) (s : List UInt8) (hw : x.m.way = true) : Calls Try.prog 30 #[x.ptr, .string (tb s)] w (MPutP x s w) := by
  have HN := Lib.hid (mnone_any x.A x.d.A w h.c0)
  have HB := Lib.hid (mbusy_any h)
  rw [hw] at HB
  have HE := Lib.hid (show x.d.putE x.m s = 9 by unfold DV.putE; rw [if_pos hw])
  clear h hw
  unfold MV.ptr at HB ⊢
  go_enter Try.func30, Try.ntmps30
  go_wp2_with fail
  refine HN.out.mono ?_
  rintro e w1 ⟨rfl, rfl⟩
  go_wp2_with fail
  refine HB.out.mono ?_
  rintro e w1 ⟨rfl, rfl⟩
  go_wp2
  go_ret
  exact ⟨by rw [HE.out]; rfl, .inl ⟨by rw [HE.out]; decide, Below.refl _ _⟩⟩

theorem room_ns (d : DV) (wx : World) (hn : d.ns ≤ 256) : Calls Try.prog 35 #[.int .i64 ((d.sz : Nat) : Int)] wx fun e w' => e = .returned (.int .i64 ((d.ns : Int) * 56 - 4)) ∧ wx = w' := by
  have := room_any d.ns wx (by omega)
  rw [show ((d.ns : Int) * 64) = ((d.sz : Nat) : Int) by show _ = ((d.ns * 64 : Nat) : Int); omega] at this
  exact this

set_option maxRecDepth 100000 in
set_option maxHeartbeats 1000000 in
theorem mput_long (h : x.In w) (s : List UInt8) (hw : x.m.way = false) (hl : x.d.ns * 56 < s.length + 4) (_hs : s.length ≤ 9223372036854775807) : Calls Try.prog 30 #[x.ptr, .string (tb s)] w (MPutP x s w) := by
  have HN := Lib.hid (mnone_any x.A x.d.A w h.c0)
  have HB := Lib.hid (mbusy_any h)
  have HS := Lib.hid (size_any x.d w h.dev.toTop)
  have HR := Lib.hid (room_ns x.d w h.dev.ns2)
  have c0 := h.c0
  have hns := h.dev.ns2
  rw [hw] at HB
  have HE := Lib.hid (show x.d.putE x.m s = 3 by unfold DV.putE; rw [if_neg (by rw [hw]; decide), if_pos hl])
  have hz : (tb s).size = s.length := tb_size s
  have g6 : (x.d.ns : Int) * 56 - 4 < (s.length : Int) := by omega
  have g7 : (x.d.ns : Int) ≤ 256 := by omega
  obtain ⟨sz, hsz⟩ : ∃ sz, x.d.sz = sz := ⟨_, rfl⟩
  rw [hsz] at HS HR
  clear h hw hsz hl hns
  unfold MV.ptr at HB ⊢
  unfold DV.ptr at HS
  go_enter Try.func30, Try.ntmps30
  go_wp2_with fail
  refine HN.out.mono ?_
  rintro e w1 ⟨rfl, rfl⟩
  go_wp2_with fail
  refine HB.out.mono ?_
  rintro e w1 ⟨rfl, rfl⟩
  go_wp2_with fail
  refine HS.out.mono ?_
  rintro e w1 ⟨rfl, rfl⟩
  go_wp2_with fail
  refine HR.out.mono ?_
  rintro e w1 ⟨rfl, rfl⟩
  go_wp2
  go_ret
  exact ⟨by rw [HE.out]; rfl, .inl ⟨by rw [HE.out]; decide, Below.refl _ _⟩⟩

/-- What Put reads ahead of its text. -/
theorem mput_reads (h : x.In w) : (∀ wx, Below w.heap.size w wx → Calls Try.prog 44 #[.agg #[.pointer (some ⟨x.d.A, 0, none⟩)]] wx fun e w' => e = .returned (.tuple #[.agg #[.string (tb (x.d.bl 0)), .string (tb (x.d.bl 1))], .int .i64 0]) ∧ Below wx.heap.size wx w') ∧
    ∀ wx, Calls Try.prog 60 #[.agg #[.string (tb (x.d.bl 0)), .string (tb (x.d.bl 1))]] wx fun e w' => e = .returned (.int .u64 (x.d.top : Int)) ∧ Below wx.heap.size wx w' := by
  have hl0 : (x.d.bl 0).length ≤ 100000000 := by rw [bl_length h.dev (by have := h.two; omega)]; have := h.dev.ns2; omega
  have hl1 : (x.d.bl 1).length ≤ 100000000 := by rw [bl_length h.dev (by have := h.two; omega)]; have := h.dev.ns2; omega
  exact ⟨fun wx hx => mpair_any x.d wx (h.dev.keeps hx) h.two, fun wx => ptop_any (x.d.bl 0) (x.d.bl 1) wx hl0 hl1⟩

set_option maxRecDepth 100000 in
set_option maxHeartbeats 1000000 in
theorem mput_full (h : x.In w) (s : List UInt8) (hw : x.m.way = false) (hl : s.length + 4 ≤ x.d.ns * 56) (ht : 9223372036854775808 ≤ x.d.top) : Calls Try.prog 30 #[x.ptr, .string (tb s)] w (MPutP x s w) := by
  have HN := Lib.hid (mnone_any x.A x.d.A w h.c0)
  have HB := Lib.hid (mbusy_any h)
  have HS := Lib.hid (size_any x.d w h.dev.toTop)
  have HR := Lib.hid (room_ns x.d w h.dev.ns2)
  obtain ⟨hp, htp⟩ := mput_reads h
  have HP := Lib.hid (hp w (Below.refl _ _))
  have HT := Lib.hid htp
  have c0 := h.c0
  have hns := h.dev.ns2
  rw [hw] at HB
  have HE := Lib.hid (show x.d.putE x.m s = 6 by unfold DV.putE; rw [if_neg (by rw [hw]; decide), if_neg (by omega), if_pos ht])
  have hz : (tb s).size = s.length := tb_size s
  have g6 : ¬ (x.d.ns : Int) * 56 - 4 < (s.length : Int) := by omega
  have g7 : (x.d.ns : Int) ≤ 256 := by omega
  have g8 : (9223372036854775808 : Int) ≤ (x.d.top : Int) := by omega
  obtain ⟨sz, hsz⟩ : ∃ sz, x.d.sz = sz := ⟨_, rfl⟩
  rw [hsz] at HS HR
  obtain ⟨a, ha⟩ : ∃ a, tb (x.d.bl 0) = a := ⟨_, rfl⟩
  obtain ⟨b, hb⟩ : ∃ b, tb (x.d.bl 1) = b := ⟨_, rfl⟩
  rw [ha, hb] at HP HT
  clear h hw hsz hl hns hp htp ha hb ht
  unfold MV.ptr at HB ⊢
  unfold DV.ptr at HS
  go_enter Try.func30, Try.ntmps30
  go_wp2_with fail
  refine HN.out.mono ?_
  rintro e w1 ⟨rfl, rfl⟩
  go_wp2_with fail
  refine HB.out.mono ?_
  rintro e w1 ⟨rfl, rfl⟩
  go_wp2_with fail
  refine HS.out.mono ?_
  rintro e w1 ⟨rfl, rfl⟩
  go_wp2_with fail
  refine HR.out.mono ?_
  rintro e w1 ⟨rfl, rfl⟩
  go_wp2_with fail
  refine HP.out.mono ?_
  rintro e w2 ⟨rfl, hb2⟩
  have HB3 := Lib.hid (hb2.alloc hb2.size (.cells #[.string a, .string b] 102))
  have hr3 := Row.new w2 102 [.string a, .string b] (0, 0)
  rw [show ([.string a, .string b] : List Value).toArray = #[.string a, .string b] from rfl] at hr3
  have HR3 := Lib.hid hr3
  clear hb2 hr3 c0
  obtain ⟨w3, hw3⟩ : ∃ w3, w2.alloc (.cells #[.string a, .string b] 102) = w3 := ⟨_, rfl⟩
  rw [hw3] at HB3 HR3
  have d0 := HR3.out.cell 0
  have d1 := HR3.out.cell 1
  simp only [List.getElem?_cons_zero, List.getElem?_cons_succ] at d0 d1
  have HW3 := Lib.hid hw3
  clear hw3
  go_wp2_with (rw [HW3.out])
  refine (HT.out _).mono ?_
  rintro e w4 ⟨rfl, hb4⟩
  have HB4 := Lib.hid (HB3.out.trans (hb4.mono HB3.out.size))
  clear hb4 d0 d1
  go_wp2
  go_ret
  exact ⟨by rw [HE.out]; rfl, .inl ⟨by rw [HE.out]; decide, HB4.out⟩⟩
end
end Go.Proofs.Ytnmfgmlmjbfdcaa
