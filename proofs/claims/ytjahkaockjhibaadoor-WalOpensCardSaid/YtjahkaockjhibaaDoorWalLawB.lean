/-
  The law of package wal, part B: a log tells the document's.
-/
import Derived.Test.YtjahkaockjhibaaDoorWalLawS
namespace Go.Proofs.YtjahkaockjhibaaDoor
open Go.RowKit

/-- A call that makes nothing but new, in a later world. -/
theorem since {f : Nat} {args : Array Value} {w : World} {R : Ending → World → Prop} (h : ∀ wx, Below w.heap.size w wx → Calls Tryd.prog f args wx fun e w' => R e w' ∧ Below wx.heap.size wx w') : ∀ wx, Below w.heap.size w wx → Calls Tryd.prog f args wx fun e w' => R e w' ∧ Below w.heap.size w w' := fun wx hb =>
  (h wx hb).mono fun _ _ hh => ⟨hh.1, hb.trans (hh.2.mono hb.size)⟩

set_option maxRecDepth 100000 in
set_option maxHeartbeats 4000000 in
theorem is_true {V : Type} (C : WalC V) (v : V) (d : RL) (w : World) (hv : C.In v w) (hd : d.In w) (hg : C.g v = d.g) :
    Calls Tryd.prog 14 #[C.ptr v, (C.tv v).ptr, d.ptr] w fun e w' => e = .returned (.bool true) ∧ Below w.heap.size w w' := by
  have hs : (C.tv v).s = d.r.st := by rw [C.st hv, hg, hd.st]
  have hba := hd.tape.ok.ba
  have hsm : d.r.all.size ≤ 100000000 := hd.tape.ok.small
  have hsu : d.r.sure ≤ 100000000 := by have h1 := hd.tape.ok.ok.sf; have h2 := hd.tape.ok.ok.small; have e : d.r.st.sure = d.r.sure := rfl; omega
  have hfin := hd.tape.ok.fin
  have hreads : (C.tv v).s.reads d.r.base d.r.all.size := by
    rw [hs]; exact ⟨Nat.le_refl _, hba, by rw [hfin]; exact Nat.le_refl _⟩
  have htx : (C.tv v).s.read d.r.base d.r.all.size = d.r.all.extract d.r.base d.r.all.size := by
    rw [ST.read, if_pos hreads, hs, extract_tb]
    apply txt_inj
    show (((txt d.r.all).drop d.r.base).take (d.r.all.size - d.r.base)).drop (d.r.base - d.r.base) = _
    rw [Nat.sub_self, List.drop_zero, List.take_of_length_le (by rw [List.length_drop, txt_length]; exact Nat.le_refl _), txt_tb]
  have hT : ∀ wx, Below w.heap.size w wx → (C.tv v).In wx := fun wx hb => C.tape (C.keeps hv hb)
  have HB0 := since (fun wx hb => (base_any (d := C.tv v) (w := wx) (hT wx hb)).mono fun e w' h => ⟨(show e = .returned (.int .u64 (d.r.base : Int)) by rw [h.1, hs]; rfl), h.2 ▸ Below.refl _ _⟩)
  have HE0 := since (fun wx hb => (End_any (d := C.tv v) (w := wx) (hT wx hb)).mono fun e w' h => ⟨(show e = .returned (.int .u64 (d.r.all.size : Int)) by rw [h.1, hs, hfin]), h.2 ▸ (Below.refl _ _).drew⟩)
  have HS0 := since (fun wx hb => (sure_any (d := C.tv v) (w := wx) (hT wx hb)).mono fun e w' h => ⟨(show e = .returned (.int .u64 (d.r.sure : Int)) by rw [h.1, hs]; rfl), h.2 ▸ Below.refl _ _⟩)
  have HR0 := since (fun wx hb => (read_any (C.tv v) d.r.base d.r.all.size wx (hT wx hb)).mono fun e w' h => ⟨(show e = .returned (.tuple #[.string (d.r.all.extract d.r.base d.r.all.size), .int .i64 0]) by rw [h.1, htx, if_pos hreads]), h.2⟩)
  have HL0 := since (fun wx hb => (C.last_ v wx (C.keeps hv hb)).mono fun e w' h => ⟨(show e = .returned (.int .u64 (d.g.last : Int)) by rw [h.1, hg]), h.2⟩)
  have HST0 := since (fun wx hb => (C.stable_ v wx (C.keeps hv hb)).mono fun e w' h => ⟨(show e = .returned (.int .u64 (d.g.stable : Int)) by rw [h.1, hg]), h.2⟩)
  have HFI0 := since (fun wx hb => (C.first_ v wx (C.keeps hv hb)).mono fun e w' h => ⟨(show e = .returned (.int .u64 (d.g.first : Int)) by rw [h.1, hg]), h.2⟩)
  have HRO0 := since (fun wx hb => (C.room_ v wx (C.keeps hv hb)).mono fun e w' h => ⟨(show e = .returned (.int .i64 ((d.g.st.room - d.g.st.l.length : Nat) : Int)) by rw [h.1, hg]), h.2⟩)
  have HFR0 := since (args := #[.pointer (some ⟨C.at_ v, 0, none⟩), .int .u64 0]) (R := fun e w' => ∃ (A : Option Addr) (c : Nat), e = .returned (.slice A d.g.l.length c) ∧ Ents w' A d.g.l) (fun wx hb => (C.from_ v 0 wx (C.keeps hv hb) (by decide)).mono fun e w' h => by
    obtain ⟨A, c, h1, h2, _, _, h5⟩ := h
    rw [hg, from_all] at h1 h2
    exact ⟨⟨A, c, h1, h2⟩, h5⟩)
  have HDF0 := since (fun wx hb => (rwfirst_any d wx (hd.keeps hb)).mono fun e w' h => ⟨h.1, h.2 ▸ Below.refl _ _⟩)
  have HDR0 := since (fun wx hb => (rroom_any d.T d.r wx (hd.keeps hb).tape).mono fun e w' h => ⟨(show e = .returned (.int .i64 ((d.g.st.room - d.g.st.l.length : Nat) : Int)) by rw [h.1, hd.st]), by obtain ⟨n, h2⟩ := h.2; rw [h2]; exact below_draw (Below.refl _ _) n⟩)
  have HSA0 := fun (A : Option Addr) (c : Nat) wx (hb : Below w.heap.size w wx) (he : Ents wx A d.g.l) => (rwsame_any A d.A d.g.l d.g.l c d.c wx he (hd.keeps hb).own.ents hd.ok.count).mono fun e w' h => show e = .returned (.bool true) ∧ Below w.heap.size w w' from ⟨by rw [h.1, decide_eq_true rfl], hb.trans (h.2.mono hb.size)⟩
  have HKS0 := fun wx (hb : Below w.heap.size w wx) => show wx.cell? ⟨d.B, 0, none⟩ = some (.pointer (some ⟨d.T, 0, none⟩)) ∧ wx.cell? ⟨d.B, 1, none⟩ = some (.slice d.A d.g.l.length d.c) ∧ wx.cell? ⟨d.B, 2, none⟩ = some (.int .u64 (d.g.last : Int)) ∧ wx.cell? ⟨d.B, 3, none⟩ = some (.int .u64 (d.g.stable : Int)) ∧ wx.cell? ⟨d.T, 1, none⟩ = some (.string d.r.all) ∧ wx.cell? ⟨d.T, 2, none⟩ = some (.int .i64 (d.r.base : Int)) ∧ wx.cell? ⟨d.T, 3, none⟩ = some (.int .i64 (d.r.sure : Int)) from ⟨(hd.keeps hb).c0, (hd.keeps hb).c1, (hd.keeps hb).c2, (hd.keeps hb).c3, (hd.keeps hb).tape.c1, (hd.keeps hb).tape.c2, (hd.keeps hb).tape.c3⟩
  have hub : IntKind.u64.wrap (d.r.base : Int) = (d.r.base : Int) := IntWalk.u64_in _ (by omega)
  have hus : IntKind.u64.wrap (d.r.sure : Int) = (d.r.sure : Int) := IntWalk.u64_in _ (by omega)
  unfold WalC.ptr TV.ptr RL.ptr
  unfold TV.ptr at HB0 HE0 HS0 HR0
  unfold RL.ptr at HDF0
  unfold rptr at HDR0
  have HB := Lib.hid HB0
  have HE := Lib.hid HE0
  have HS := Lib.hid HS0
  have HR := Lib.hid HR0
  have HL := Lib.hid HL0
  have HST := Lib.hid HST0
  have HFI := Lib.hid HFI0
  have HRO := Lib.hid HRO0
  have HFR := Lib.hid HFR0
  have HDF := Lib.hid HDF0
  have HDR := Lib.hid HDR0
  have HSA := Lib.hid HSA0
  have HKS := Lib.hid HKS0
  clear HB0 HE0 HS0 HR0 HL0 HST0 HFI0 HRO0 HFR0 HDF0 HDR0 HSA0 HKS0 hT hreads htx hfin hs hg hv hd hsu
  generalize (C.tv v).A = TA at *
  generalize C.at_ v = VA at *
  go_enter Tryd.func14, Tryd.ntmps14
  go_wp2_with fail
  have HW0 := Lib.hid (Below.refl w.heap.size w)
  refine (HB.out w HW0.out).mono ?_
  rintro e w1 ⟨rfl, hb1⟩
  have HV1 := Lib.hid hb1
  clear hb1
  go_wp2_with fail
  refine (HE.out w1 HV1.out).mono ?_
  rintro e w2 ⟨rfl, hb2⟩
  have HV2 := Lib.hid hb2
  clear hb2
  go_wp2_with fail
  refine (HR.out w2 HV2.out).mono ?_
  rintro e w3 ⟨rfl, hb3⟩
  have HV3 := Lib.hid hb3
  clear hb3
  obtain ⟨we, hwe⟩ : ∃ we, w3.drew = we := ⟨_, rfl⟩
  have HWE := Lib.hid (show Below w.heap.size w we from hwe ▸ HV3.out.drew)
  go_wp2_with fail
  simp only [List.append_eq, List.cons_append, List.nil_append]
  refine wp_region_noPanic ?_
  refine wp_region_sch (fun wx => wx.cell? ⟨d.B, 0, none⟩ = some (.pointer (some ⟨d.T, 0, none⟩)) ∧ wx.cell? ⟨d.B, 1, none⟩ = some (.slice d.A d.g.l.length d.c) ∧ wx.cell? ⟨d.B, 2, none⟩ = some (.int .u64 (d.g.last : Int)) ∧ wx.cell? ⟨d.B, 3, none⟩ = some (.int .u64 (d.g.stable : Int)) ∧ wx.cell? ⟨d.T, 1, none⟩ = some (.string d.r.all) ∧ wx.cell? ⟨d.T, 2, none⟩ = some (.int .i64 (d.r.base : Int)) ∧ wx.cell? ⟨d.T, 3, none⟩ = some (.int .i64 (d.r.sure : Int))) (fun i => [1, 9, 18, 20, 25, 30, 35, 40, 48, 61].contains i)
    (.takes [0, 2, 3, 4, 5] (.run 1 (.takes [6, 7, 8, 10, 11, 12, 13] (.run 9 (.takes [14, 15, 16, 17, 19] (.run 18 (.run 20 (.takes [21, 22, 23, 24, 26, 27, 28, 29] (.run 25 (.run 30 (.takes [31, 32, 33, 34, 36, 37, 38, 39] (.run 35 (.run 40 (.takes [41, 42, 43, 44, 45, 46, 47, 49, 50, 51, 52, 53, 54, 55, 56] (.run 48 (.takes [57, 58, 59, 60, 62, 63, 64, 65, 66, 67, 68, 69] (.run 61 (.takes [70, 71, 72, 73, 74, 75, 76, 77, 78, 79, 80, 81, 82, 83, 84, 85, 86, 87, 88, 89, 90, 91] .done)))))))))))))))))) (by kernel_rfl) (fun _ _ _ _ _ h => h) is_sched ?_
  rw [hwe]
  clear hwe
  have hHeld := HKS.out we HWE.out
  iterate 5 (
    refine sch_takes_cons ?_
    first
      | (refine sch_take (v := ?_) rfl (by assumption) (by rfl) ?_ ?_; rotate_left; (focus (intro wy hSy; (try dsimp only at hSy); go_simp; (try with_reducible rfl))))
      | (refine sch_pass rfl (by assumption) (by rfl) ?_)
    simp only [Act.put, List.setIfInBounds_toArray, List.set_cons_zero, List.set_cons_succ])
  refine sch_takes_nil ?_
  refine sch_run rfl (fun K hK => ?_)
  go_simp
  with_reducible refine (HL.out we HWE.out).mono ?_
  rintro e wx1 ⟨rfl, hb1⟩
  have HW1 := Lib.hid hb1
  have hHeld := HKS.out wx1 HW1.out
  clear hb1
  try dsimp only
  refine hK.out _ _ (fun _ => hHeld) ?_
  clear hK K
  try simp only [Act.put, List.setIfInBounds_toArray, List.set_cons_zero, List.set_cons_succ]
  iterate 7 (
    refine sch_takes_cons ?_
    first
      | (refine sch_take (v := ?_) rfl (by assumption) (by rfl) ?_ ?_; rotate_left; (focus (intro wy hSy; (try dsimp only at hSy); go_simp; (try with_reducible rfl))))
      | (refine sch_pass rfl (by assumption) (by rfl) ?_)
    simp only [Act.put, List.setIfInBounds_toArray, List.set_cons_zero, List.set_cons_succ])
  refine sch_takes_nil ?_
  refine sch_run rfl (fun K hK => ?_)
  go_simp
  with_reducible refine (HST.out wx1 HW1.out).mono ?_
  rintro e wx2 ⟨rfl, hb2⟩
  have HW2 := Lib.hid hb2
  have hHeld := HKS.out wx2 HW2.out
  clear hb2
  try dsimp only
  refine hK.out _ _ (fun _ => hHeld) ?_
  clear hK K
  try simp only [Act.put, List.setIfInBounds_toArray, List.set_cons_zero, List.set_cons_succ]
  iterate 5 (
    refine sch_takes_cons ?_
    first
      | (refine sch_take (v := ?_) rfl (by assumption) (by rfl) ?_ ?_; rotate_left; (focus (intro wy hSy; (try dsimp only at hSy); go_simp; (try with_reducible rfl))))
      | (refine sch_pass rfl (by assumption) (by rfl) ?_)
    simp only [Act.put, List.setIfInBounds_toArray, List.set_cons_zero, List.set_cons_succ])
  refine sch_takes_nil ?_
  refine sch_run rfl (fun K hK => ?_)
  go_simp
  with_reducible refine (HFI.out wx2 HW2.out).mono ?_
  rintro e wx3 ⟨rfl, hb3⟩
  have HW3 := Lib.hid hb3
  have hHeld := HKS.out wx3 HW3.out
  clear hb3
  try dsimp only
  refine hK.out _ _ (fun _ => hHeld) ?_
  clear hK K
  try simp only [Act.put, List.setIfInBounds_toArray, List.set_cons_zero, List.set_cons_succ]
  refine sch_run rfl (fun K hK => ?_)
  go_simp
  with_reducible refine (HDF.out wx3 HW3.out).mono ?_
  rintro e wx4 ⟨rfl, hb4⟩
  have HW4 := Lib.hid hb4
  have hHeld := HKS.out wx4 HW4.out
  clear hb4
  try dsimp only
  refine hK.out _ _ (fun _ => hHeld) ?_
  clear hK K
  try simp only [Act.put, List.setIfInBounds_toArray, List.set_cons_zero, List.set_cons_succ]
  iterate 8 (
    refine sch_takes_cons ?_
    first
      | (refine sch_take (v := ?_) rfl (by assumption) (by rfl) ?_ ?_; rotate_left; (focus (intro wy hSy; (try dsimp only at hSy); go_simp; (try with_reducible rfl))))
      | (refine sch_pass rfl (by assumption) (by rfl) ?_)
    simp only [Act.put, List.setIfInBounds_toArray, List.set_cons_zero, List.set_cons_succ])
  refine sch_takes_nil ?_
  refine sch_run rfl (fun K hK => ?_)
  go_simp
  with_reducible refine (HRO.out wx4 HW4.out).mono ?_
  rintro e wx5 ⟨rfl, hb5⟩
  have HW5 := Lib.hid hb5
  have hHeld := HKS.out wx5 HW5.out
  clear hb5
  try dsimp only
  refine hK.out _ _ (fun _ => hHeld) ?_
  clear hK K
  try simp only [Act.put, List.setIfInBounds_toArray, List.set_cons_zero, List.set_cons_succ]
  refine sch_run rfl (fun K hK => ?_)
  go_simp
  with_reducible refine (HDR.out wx5 HW5.out).mono ?_
  rintro e wx6 ⟨rfl, hb6⟩
  have HW6 := Lib.hid hb6
  have hHeld := HKS.out wx6 HW6.out
  clear hb6
  try dsimp only
  refine hK.out _ _ (fun _ => hHeld) ?_
  clear hK K
  try simp only [Act.put, List.setIfInBounds_toArray, List.set_cons_zero, List.set_cons_succ]
  iterate 8 (
    refine sch_takes_cons ?_
    first
      | (refine sch_take (v := ?_) rfl (by assumption) (by rfl) ?_ ?_; rotate_left; (focus (intro wy hSy; (try dsimp only at hSy); go_simp; (try with_reducible rfl))))
      | (refine sch_pass rfl (by assumption) (by rfl) ?_)
    simp only [Act.put, List.setIfInBounds_toArray, List.set_cons_zero, List.set_cons_succ])
  refine sch_takes_nil ?_
  refine sch_run rfl (fun K hK => ?_)
  go_simp
  with_reducible refine (HFR.out wx6 HW6.out).mono ?_
  rintro e wx7 ⟨⟨A1, c1, rfl, he1⟩, hb7⟩
  have HW7 := Lib.hid hb7
  have HE1 := Lib.hid he1
  clear he1
  have hHeld := HKS.out wx7 HW7.out
  clear hb7
  try dsimp only
  refine hK.out _ _ (fun _ => hHeld) ?_
  clear hK K
  try simp only [Act.put, List.setIfInBounds_toArray, List.set_cons_zero, List.set_cons_succ]
  refine sch_run rfl (fun K hK => ?_)
  go_simp
  with_reducible refine (HSA.out A1 c1 wx7 HW7.out HE1.out).mono ?_
  rintro e wx8 ⟨rfl, hb8⟩
  have HW8 := Lib.hid hb8
  have hHeld := HKS.out wx8 HW8.out
  clear hb8
  try dsimp only
  refine hK.out _ _ (fun _ => hHeld) ?_
  clear hK K
  try simp only [Act.put, List.setIfInBounds_toArray, List.set_cons_zero, List.set_cons_succ]
  iterate 15 (
    refine sch_takes_cons ?_
    first
      | (refine sch_take (v := ?_) rfl (by assumption) (by rfl) ?_ ?_; rotate_left; (focus (intro wy hSy; (try dsimp only at hSy); go_simp; (try with_reducible rfl))))
      | (refine sch_pass rfl (by assumption) (by rfl) ?_)
    simp only [Act.put, List.setIfInBounds_toArray, List.set_cons_zero, List.set_cons_succ])
  refine sch_takes_nil ?_
  refine sch_run rfl (fun K hK => ?_)
  go_simp
  with_reducible refine (HB.out wx8 HW8.out).mono ?_
  rintro e wx9 ⟨rfl, hb9⟩
  have HW9 := Lib.hid hb9
  have hHeld := HKS.out wx9 HW9.out
  clear hb9
  try dsimp only
  refine hK.out _ _ (fun _ => hHeld) ?_
  clear hK K
  try simp only [Act.put, List.setIfInBounds_toArray, List.set_cons_zero, List.set_cons_succ]
  iterate 12 (
    refine sch_takes_cons ?_
    first
      | (refine sch_take (v := ?_) rfl (by assumption) (by rfl) ?_ ?_; rotate_left; (focus (intro wy hSy; (try dsimp only at hSy); go_simp; (try with_reducible rfl))))
      | (refine sch_pass rfl (by assumption) (by rfl) ?_)
    simp only [Act.put, List.setIfInBounds_toArray, List.set_cons_zero, List.set_cons_succ])
  refine sch_takes_nil ?_
  refine sch_run rfl (fun K hK => ?_)
  go_simp
  with_reducible refine (HS.out wx9 HW9.out).mono ?_
  rintro e wx10 ⟨rfl, hb10⟩
  have HW10 := Lib.hid hb10
  have hHeld := HKS.out wx10 HW10.out
  clear hb10
  try dsimp only
  refine hK.out _ _ (fun _ => hHeld) ?_
  clear hK K
  try simp only [Act.put, List.setIfInBounds_toArray, List.set_cons_zero, List.set_cons_succ]
  iterate 22 (
    refine sch_takes_cons ?_
    first
      | (refine sch_take (v := ?_) rfl (by assumption) (by rfl) ?_ ?_; rotate_left; (focus (intro wy hSy; (try dsimp only at hSy); go_simp; (try with_reducible rfl))))
      | (refine sch_pass rfl (by assumption) (by rfl) ?_)
    simp only [Act.put, List.setIfInBounds_toArray, List.set_cons_zero, List.set_cons_succ])
  refine sch_takes_nil ?_
  refine sch_done ?_
  refine NoPanic.normal ?_
  go_wp2
  go_ret
  exact ⟨rfl, HW10.out⟩
end Go.Proofs.YtjahkaockjhibaaDoor
