/-
  The document's master, as it lies: a device of the document's and a master of five fields. Its top; Open.
-/
import Derived.Test.YtnmfgmlmjbfdcaaMasRefC
import Derived.Test.YtnmfgmlmjbfdcaaMDevF
import Derived.Test.YtnmfgmlmjbfdcaaBlkPTwo
namespace Go.Proofs.Ytnmfgmlmjbfdcaa
open Go.RowKit

/-- What a block of the document's device bears. -/
def RV.bl (x : RV) (b : Nat) : List UInt8 := lastOf b (x.R.sure.getD b []) x.R.opens
/-- Of a size that can be read. -/
structure RV.Fit (x : RV) : Prop where
  two : 2 ≤ x.R.sure.length
  len : ∀ b, b < 2 → (x.bl b).length ≤ 1000000
  few : x.R.opens.length ≤ 1000000

theorem nread {x : RV} {w : World} (hx : x.In w) (hf : x.Fit) (b : Nat) (hb : b < 2) : Calls Try.prog 33 #[.pointer (some ⟨x.B, 0, none⟩), .int .i64 (b : Int)] w fun e w' => e = .returned (.tuple #[.string (tb (x.bl b)), .int .i64 0]) ∧ w = w' :=
  rread_good x b w hx (Nat.lt_of_lt_of_le hb hf.two) hf.few

set_option maxRecDepth 100000 in
set_option maxHeartbeats 1000000 in
theorem ntop_any {x : RV} {w : World} (hx : x.In w) (hf : x.Fit) (A : Nat) (c0 : w.cell? ⟨A, 0, none⟩ = some (.pointer (some ⟨x.B, 0, none⟩))) :
    Calls Try.prog 49 #[.pointer (some ⟨A, 0, none⟩)] w fun e w' => e = .returned (.int .u64 ((max (topP (x.bl 0)) (topP (x.bl 1)) : Nat) : Int)) ∧ w = w' := by
  have HR0 := Lib.hid (show Calls Try.prog 33 #[.pointer (some ⟨x.B, 0, none⟩), .int .i64 0] w _ from nread hx hf 0 (by decide))
  have HR1 := Lib.hid (show Calls Try.prog 33 #[.pointer (some ⟨x.B, 0, none⟩), .int .i64 1] w _ from nread hx hf 1 (by decide))
  have HT0 := Lib.hid (mtop_any (x.bl 0) w (hf.len 0 (by decide)))
  have HT1 := Lib.hid (mtop_any (x.bl 1) w (hf.len 1 (by decide)))
  obtain ⟨t0, h0⟩ : ∃ t0, topP (x.bl 0) = t0 := ⟨_, rfl⟩
  obtain ⟨t1, h1⟩ : ∃ t1, topP (x.bl 1) = t1 := ⟨_, rfl⟩
  obtain ⟨s0, e0⟩ : ∃ s0, x.bl 0 = s0 := ⟨_, rfl⟩
  obtain ⟨s1, e1⟩ : ∃ s1, x.bl 1 = s1 := ⟨_, rfl⟩
  rw [h0] at HT0
  rw [h1] at HT1
  rw [h0, h1]
  rw [e0] at HT0
  rw [e1] at HT1
  have HR0' := Lib.hid (e0 ▸ HR0.out)
  have HR1' := Lib.hid (e1 ▸ HR1.out)
  clear h0 h1 e0 e1 hx hf HR0 HR1
  by_cases hgt : t1 < t0
  · have hI : (t1 : Int) < (t0 : Int) := by omega
    rw [Nat.max_eq_left (by omega)]
    go_enter Try.func49, Try.ntmps49
    go_wp2_with fail
    refine HR0'.out.mono ?_
    rintro e w1 ⟨rfl, rfl⟩
    go_wp2_with fail
    refine HR1'.out.mono ?_
    rintro e w1 ⟨rfl, rfl⟩
    go_wp2_with fail
    refine HT0.out.mono ?_
    rintro e w1 ⟨rfl, rfl⟩
    go_wp2_with fail
    refine HT1.out.mono ?_
    rintro e w1 ⟨rfl, rfl⟩
    go_wp2_with fail
    go_ret
    exact ⟨rfl, rfl⟩
  · have hI : ¬ (t1 : Int) < (t0 : Int) := by omega
    rw [Nat.max_eq_right (by omega)]
    go_enter Try.func49, Try.ntmps49
    go_wp2_with fail
    refine HR0'.out.mono ?_
    rintro e w1 ⟨rfl, rfl⟩
    go_wp2_with fail
    refine HR1'.out.mono ?_
    rintro e w1 ⟨rfl, rfl⟩
    go_wp2_with fail
    refine HT0.out.mono ?_
    rintro e w1 ⟨rfl, rfl⟩
    go_wp2_with fail
    refine HT1.out.mono ?_
    rintro e w1 ⟨rfl, rfl⟩
    go_wp2_with fail
    go_ret
    exact ⟨rfl, rfl⟩

/-- The document's master: where it lies, its device, what it is. -/
structure NV where
  A : Nat
  x : RV
  m : MS
  nx : List UInt8
namespace NV
def ptr (y : NV) : Value := .pointer (some ⟨y.A, 0, none⟩)
def cells (y : NV) : List Value := [.pointer (some ⟨y.x.B, 0, none⟩), .int .i64 (y.m.at_ : Int), .string (tb y.m.s), .int .u64 (y.m.v : Int), .bool y.m.way, .string (tb y.nx)]
def mine (y : NV) (k : Nat) : Prop := k = y.A ∨ y.x.mine k
structure In (y : NV) (w : World) : Prop where
  row : Row w y.A 52 y.cells (0, 0)
  dev : y.x.In w
  one : y.m.at_ ≤ 1
  nxt : y.m.way = true → y.nx = y.m.next
section
variable {y : NV} {w w' : World} {F : Nat → Prop}
theorem In.only (h : y.In w) (ho : Only F w w') (hF : ∀ k, y.mine k → ¬ F k) (hS : NoStr F w) : y.In w' :=
  { h with row := h.row.only ho (hF _ (.inl rfl)), dev := h.dev.only ho (fun k hk => hF k (.inr hk)) hS }
theorem In.keeps (h : y.In w) (hb : Below w.heap.size w w') : y.In w' := h.only (Only.below hb fun _ => False) (fun _ _ hf => hf) fun _ _ _ _ hf => hf
theorem In.notDev (h : y.In w) : ¬ y.x.mine y.A := h.dev.notMine h.row (by decide) (by decide) (by decide)
theorem In.c0 (h : y.In w) : w.cell? ⟨y.A, 0, none⟩ = some (.pointer (some ⟨y.x.B, 0, none⟩)) := h.row.cell 0
theorem In.c1 (h : y.In w) : w.cell? ⟨y.A, 1, none⟩ = some (.int .i64 (y.m.at_ : Int)) := h.row.cell 1
theorem In.c2 (h : y.In w) : w.cell? ⟨y.A, 2, none⟩ = some (.string (tb y.m.s)) := h.row.cell 2
theorem In.c3 (h : y.In w) : w.cell? ⟨y.A, 3, none⟩ = some (.int .u64 (y.m.v : Int)) := h.row.cell 3
theorem In.c4 (h : y.In w) : w.cell? ⟨y.A, 4, none⟩ = some (.bool y.m.way) := h.row.cell 4
theorem In.c5 (h : y.In w) : w.cell? ⟨y.A, 5, none⟩ = some (.string (tb y.nx)) := h.row.cell 5
end
end NV

/-- What Open holds on its way. -/
structure NW (x : RV) (w : World) (h : Held) (wr : World) : Prop where
  row : Row wr w.heap.size 52 [.pointer (some ⟨x.B, 0, none⟩), .int .i64 (h.at_ : Int), .string (tb h.s), .int .u64 (h.v : Int), .bool false, .string ⟨#[]⟩] (0, 0)
  dev : x.In wr
  below : Below w.heap.size w wr
section
variable {x : RV} {w wr w' : World} {h : Held}
theorem NW.below_ (k : NW x w h wr) (hb : Below wr.heap.size wr w') : NW x w h w' := ⟨k.row.below hb k.row.lt, k.dev.keeps hb, k.below.trans (hb.mono k.below.size)⟩
theorem NW.new (hx : x.In w) : NW x w Held.none (w.alloc (.cells #[.pointer (some ⟨x.B, 0, none⟩), .int .i64 0, .string ⟨#[]⟩, .int .u64 0, .bool false, .string ⟨#[]⟩] 52)) := by
  have hb : Below w.heap.size w (w.alloc (.cells #[.pointer (some ⟨x.B, 0, none⟩), .int .i64 0, .string ⟨#[]⟩, .int .u64 0, .bool false, .string ⟨#[]⟩] 52)) := (Below.refl _ _).alloc (Nat.le_refl _) _
  exact ⟨Row.new w _ [.pointer (some ⟨x.B, 0, none⟩), .int .i64 0, .string ⟨#[]⟩, .int .u64 0, .bool false, .string ⟨#[]⟩] (0, 0), hx.keeps hb, hb⟩
theorem NW.set (k : NW x w h wr) (i v : Nat) (s : List UInt8) : NW x w ⟨i, v, s⟩ (((wr.setCell ⟨w.heap.size, 1, none⟩ (.int .i64 (i : Int))).setCell ⟨w.heap.size, 2, none⟩ (.string (tb s))).setCell ⟨w.heap.size, 3, none⟩ (.int .u64 (v : Int))) := by
  have ho : Only (· = w.heap.size) wr (((wr.setCell ⟨w.heap.size, 1, none⟩ (.int .i64 (i : Int))).setCell ⟨w.heap.size, 2, none⟩ (.string (tb s))).setCell ⟨w.heap.size, 3, none⟩ (.int .u64 (v : Int))) :=
    (((Only.refl (· = w.heap.size) wr).setCell (p := ⟨w.heap.size, 1, none⟩) rfl _).setCell (p := ⟨w.heap.size, 2, none⟩) rfl _).setCell (p := ⟨w.heap.size, 3, none⟩) rfl _
  refine ⟨((k.row.put 1 _).put 2 _).put 3 _, k.dev.only ho (fun j hj e => ?_) (fun j cs m hr e => ?_), ((k.below.setCell (p := ⟨w.heap.size, 1, none⟩) (Nat.le_refl _) _).setCell (p := ⟨w.heap.size, 2, none⟩) (Nat.le_refl _) _).setCell (p := ⟨w.heap.size, 3, none⟩) (Nat.le_refl _) _⟩
  · exact k.dev.notMine k.row (by decide) (by decide) (by decide) (e ▸ hj)
  · subst e
    have := hr.symm.trans k.row
    simp at this
theorem NW.cells_ (k : NW x w h wr) : wr.cell? ⟨w.heap.size, 3, none⟩ = some (.int .u64 (h.v : Int)) ∧ (∀ i, wr.frozen? ⟨w.heap.size, i, none⟩ = false) ∧ wr.cell? ⟨w.heap.size, 1, none⟩ = some (.int .i64 (h.at_ : Int)) ∧ wr.cell? ⟨w.heap.size, 2, none⟩ = some (.string (tb h.s)) := ⟨k.row.cell 3, fun i => k.row.loose i, k.row.cell 1, k.row.cell 2⟩
end

set_option maxRecDepth 100000 in
theorem nopen_one {x : RV} {w : World} (hx : x.In w) (h1 : x.R.sure.length = 1) : Calls Try.prog 19 #[.pointer (some ⟨x.B, 0, none⟩)] w fun e w' => e = .returned (.tuple #[.pointer none, .int .i64 2]) ∧ w = w' := by
  have c1 := hx.c1
  obtain ⟨g, cap, cs, e, -⟩ := hx.slot
  rw [e, h1] at c1
  clear e hx
  go_enter Try.func19, Try.ntmps19
  go_wp2
  go_ret2
  exact ⟨rfl, rfl⟩

set_option maxRecDepth 100000 in
set_option maxHeartbeats 4000000 in
theorem nopen_any {x : RV} {w : World} (hx : x.In w) (hf : x.Fit) : Calls Try.prog 19 #[.pointer (some ⟨x.B, 0, none⟩)] w fun e w' => e = .returned (.tuple #[.pointer (some ⟨w.heap.size, 0, none⟩), .int .i64 0]) ∧ (NV.mk w.heap.size x (MS.opened (x.bl 0) (x.bl 1)) []).In w' ∧ Below w.heap.size w w' := by
  have c1 := hx.c1
  obtain ⟨g, cap, cs, e, -⟩ := hx.slot
  rw [e] at c1
  clear e
  have h2 : ¬ (x.R.sure.length : Int) < 2 := by have := hf.two; omega
  have HNEW := Lib.hid (NW.new hx)
  obtain ⟨wa, hwa⟩ : ∃ wa, w.alloc (.cells #[.pointer (some ⟨x.B, 0, none⟩), .int .i64 0, .string ⟨#[]⟩, .int .u64 0, .bool false, .string ⟨#[]⟩] 52) = wa := ⟨_, rfl⟩
  rw [hwa] at HNEW
  obtain ⟨hk, hhk⟩ : ∃ hk : Nat → Held, (∀ k, hk k = match k with | 0 => Held.none | 1 => Held.none.look 0 (x.bl 0) | _ => best (x.bl 0) (x.bl 1)) := ⟨_, fun _ => rfl⟩
  have HK0 := Lib.hid (hhk 0)
  have HK2 := Lib.hid (show hk 2 = best (x.bl 0) (x.bl 1) from hhk 2)
  have HKS := Lib.hid (show ∀ k, k < 2 → hk (k + 1) = (hk k).look k (x.bl k) from fun k h => by
    rcases (show k = 0 ∨ k = 1 by omega) with rfl | rfl
    · rw [hhk 0, hhk 1]; rfl
    · rw [hhk 1, show hk (1 + 1) = best (x.bl 0) (x.bl 1) from hhk 2]; rfl)
  have HRD := Lib.hid (fun (k : Nat) (hk : k < 2) (wr : World) (hx : x.In wr) => nread hx hf k hk)
  have HUP := Lib.hid (fun (k : Nat) (hk : k < 2) (wr : World) => munpack_any (x.bl k) wr (hf.len k hk))
  have HFIN := Lib.hid (show ∀ wr, NW x w (hk 2) wr → (NV.mk w.heap.size x (MS.opened (x.bl 0) (x.bl 1)) []).In wr ∧ Below w.heap.size w wr from fun wr k => by
    rw [HK2.out] at k
    exact ⟨⟨k.row, k.dev, best_at _ _, fun e => by cases e⟩, k.below⟩)
  have HN0 := Lib.hid (show NW x w (hk 0) wa by rw [HK0.out]; exact HNEW.out)
  clear hx hf HK0 HK2 hhk HNEW
  go_enter Try.func19, Try.ntmps19
  go_wp2_with fail
  clear hwa c1
  go_loopw [5] (fun iv wr => ∃ k : Nat, k ≤ 2 ∧ iv = .int .i64 (k : Int) ∧ Hid (NW x w (hk k) wr)) (fun iv _ => 2 - (intOf iv).toNat)
  case atStart => exact ⟨0, by decide, rfl, HN0⟩
  case round =>
    obtain ⟨k, hk2, rfl, HW⟩ := hrel
    by_cases hlt : k < 2
    · have hI : (k : Int) < 2 := by omega
      have HRk := Lib.hid (HRD.out k hlt wr HW.out.dev)
      have HUk := Lib.hid (HUP.out k hlt)
      have hks := HKS.out k hlt
      obtain ⟨b, hb⟩ : ∃ b, x.bl k = b := ⟨_, rfl⟩
      rw [hb] at HRk HUk hks
      clear HRD HUP HKS HFIN HN0 hb
      go_wp2_with fail
      refine HRk.out.mono ?_
      rintro e w1 ⟨rfl, rfl⟩
      have HU := Lib.hid (HUk.out wr)
      clear HRk HUk
      cases hu : unpackP b with
      | none =>
        rw [unpV_none hu] at HU
        rw [look_none hu] at hks
        have HKK := Lib.hid hks
        clear hks hu
        go_wp2_with fail
        refine HU.out.mono ?_
        rintro e w2 ⟨rfl, hb2⟩
        have HW2 := Lib.hid (HW.out.below_ hb2)
        clear hb2 HW HU
        go_wp2_with fail
        go_roundw
        case rel => exact ⟨k + 1, by omega, by go_num, by rw [HKK.out]; exact HW2⟩
        case measure => simp [intOf]; omega
      | some q =>
        obtain ⟨v, s⟩ := q
        rw [unpV_some hu] at HU
        rw [look_some hu] at hks
        clear hu
        go_wp2_with fail
        refine HU.out.mono ?_
        rintro e w2 ⟨rfl, hb2⟩
        have HW2 := Lib.hid (HW.out.below_ hb2)
        clear hb2 HW HU
        obtain ⟨k3, fr, k1, k2⟩ := HW2.out.cells_
        obtain ⟨v0, hv0⟩ : ∃ v0, (hk k).v = v0 := ⟨_, rfl⟩
        rw [hv0] at k3 hks
        by_cases hv : v0 < v
        · have hvI : (v0 : Int) < (v : Int) := by omega
          rw [if_pos hv] at hks
          have HKK := Lib.hid hks
          have HST := Lib.hid (HW2.out.set k v s)
          have f1 := fr 1
          have f2 := fr 2
          have f3 := fr 3
          clear hks fr HW2 hv0
          go_wp2_with fail
          go_roundw
          case rel => exact ⟨k + 1, by omega, by go_num, by rw [HKK.out]; exact HST⟩
          case measure => simp [intOf]; omega
        · have hvI : ¬ (v0 : Int) < (v : Int) := by omega
          rw [if_neg hv] at hks
          have HKK := Lib.hid hks
          clear hks fr hv0
          go_wp2_with fail
          go_roundw
          case rel => exact ⟨k + 1, by omega, by go_num, by rw [HKK.out]; exact HW2⟩
          case measure => simp [intOf]; omega
    · obtain rfl : k = 2 := by omega
      have HE := Lib.hid (HFIN.out wr HW.out)
      clear HRD HUP HKS HFIN HN0 HW
      go_wp2_with fail
      go_ret2
      exact ⟨rfl, HE.out⟩
end Go.Proofs.Ytnmfgmlmjbfdcaa
