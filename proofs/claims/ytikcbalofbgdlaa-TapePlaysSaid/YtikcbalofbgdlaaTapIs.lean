/-
  Whether a tape is the document's (is); two that share nothing.
-/
import Derived.Test.YtikcbalofbgdlaaTapPair
import Derived.Deep.RegionHeld
namespace Go.Proofs.Ytikcbalofbgdlaa
open Go.RowKit

set_option maxRecDepth 100000 in
set_option maxHeartbeats 4000000 in
theorem is_any (d : TV) (B : Nat) (r : RT) (w : World) (hd : d.In w) (hr : RIn B r w) (he : d.s = r.st) : Calls Try.prog 10 #[d.ptr, rptr B] w fun e w' => e = .returned (.bool true) ∧ Below w.heap.size w w' := by
  have hfin : d.s.fin = r.all.size := by rw [he]; exact hr.ok.fin
  have hbase : d.s.base = r.base := by rw [he]; rfl
  have hsure : d.s.sure = r.sure := by rw [he]; rfl
  have hba := hr.ok.ba
  have hsm := hr.ok.small
  have hsf : r.sure ≤ r.all.size := by have := hd.ok.sf; omega
  have hrd : d.s.reads r.base r.all.size := ⟨by omega, hba, by omega⟩
  have hX : d.s.read r.base r.all.size = r.all.extract r.base r.all.size := by
    rw [ST.read, if_pos hrd]
    apply txt_inj
    rw [txt_mk, txt_extract, he]
    show (((txt r.all).drop r.base).take (r.all.size - r.base)).drop (r.base - r.base) = _
    rw [← List.drop_take, List.drop_drop]
    congr 1; omega
  have hroom : ((d.s.room - d.s.l.length : Nat) : Int) = ((r.st.room - r.st.l.length : Nat) : Int) := by rw [he]
  have HRD := Lib.hid (show ∀ wx, Below w.heap.size w wx → Calls Try.prog 19 #[d.ptr, .int .u64 (r.base : Int), .int .u64 (r.all.size : Int)] wx fun e w' => e = .returned (.tuple #[.string (r.all.extract r.base r.all.size), .int .i64 0]) ∧ Below w.heap.size w w' from fun wx hb => by
    have := read_any d r.base r.all.size wx (hd.keeps hb)
    rw [if_pos hrd, hX] at this
    exact this.mono fun e w' hh => ⟨hh.1, hb.trans (hh.2.mono hb.size)⟩)
  have HB := Lib.hid (show ∀ wx, Below w.heap.size w wx → Calls Try.prog 22 #[d.ptr] wx fun e w' => e = .returned (.int .u64 (r.base : Int)) ∧ Below w.heap.size w w' from fun wx hb => by
    rw [← hbase]; exact (base_any d wx (hd.keeps hb)).mono fun e w' hh => ⟨hh.1, hh.2 ▸ hb⟩)
  have HS := Lib.hid (show ∀ wx, Below w.heap.size w wx → Calls Try.prog 21 #[d.ptr] wx fun e w' => e = .returned (.int .u64 (r.sure : Int)) ∧ Below w.heap.size w w' from fun wx hb => by
    rw [← hsure]; exact (sure_any d wx (hd.keeps hb)).mono fun e w' hh => ⟨hh.1, hh.2 ▸ hb⟩)
  have HE := Lib.hid (show ∀ wx, Below w.heap.size w wx → Calls Try.prog 20 #[d.ptr] wx fun e w' => e = .returned (.int .u64 (r.all.size : Int)) ∧ Below w.heap.size w w' from fun wx hb => by
    rw [← hfin]; exact (End_any d wx (hd.keeps hb)).mono fun e w' hh => ⟨hh.1, hh.2 ▸ hb.drew⟩)
  obtain ⟨z, hz⟩ : ∃ z : Int, ((r.st.room - r.st.l.length : Nat) : Int) = z := ⟨_, rfl⟩
  have HO := Lib.hid (show ∀ wx, Below w.heap.size w wx → Calls Try.prog 23 #[d.ptr] wx fun e w' => e = .returned (.int .i64 z) ∧ Below w.heap.size w w' from fun wx hb => by
    rw [← hz, ← hroom]; exact (room_any d wx (hd.keeps hb)).mono fun e w' ⟨h1, n, h2⟩ => ⟨h1, h2 ▸ ⟨hb.os, hb.tape, hb.output, hb.size, hb.block⟩⟩)
  have HQ := Lib.hid (show ∀ wx, Below w.heap.size w wx → Calls Try.prog 26 #[rptr B] wx fun e w' => e = .returned (.int .i64 z) ∧ Below w.heap.size w w' from fun wx hb => by
    rw [← hz]; exact (rroom_any B r wx (hr.keeps hb)).mono fun e w' ⟨h1, n, h2⟩ => ⟨h1, h2 ▸ ⟨hb.os, hb.tape, hb.output, hb.size, hb.block⟩⟩)
  have HC := Lib.hid (show ∀ wx, Below w.heap.size w wx → Below w.heap.size w wx ∧ wx.cell? ⟨B, 1, none⟩ = some (.string r.all) ∧ wx.cell? ⟨B, 2, none⟩ = some (.int .i64 (r.base : Int)) ∧ wx.cell? ⟨B, 3, none⟩ = some (.int .i64 (r.sure : Int)) from fun wx hb => ⟨hb, (hr.keeps hb).c1, (hr.keeps hb).c2, (hr.keeps hb).c3⟩)
  have hk0 : Below w.heap.size w w.drew := (Below.refl _ w).drew
  obtain ⟨a, ha⟩ : ∃ a, r.all = a := ⟨_, rfl⟩
  rw [ha] at HRD HE HC hsm hba hsf
  obtain ⟨X, hXX⟩ : ∃ X, a.extract r.base a.size = X := ⟨_, rfl⟩
  rw [hXX] at HRD
  have g1 : (r.base : Int) ≤ a.size := by omega
  have g2 : (a.size : Int) ≤ 100000000 := by omega
  have g3 : (r.sure : Int) ≤ a.size := by omega
  generalize r.base = b at *
  generalize r.sure = u at *
  have q0 : (b : Int) ≤ 100000000 := by omega
  have q1 : (u : Int) ≤ 100000000 := by omega
  have w0 : IntKind.u64.wrap (b : Int) = b := IntWalk.u64_in _ (by omega)
  have w1 : IntKind.u64.wrap (u : Int) = u := IntWalk.u64_in _ (by omega)
  have w2 : IntKind.u64.wrap (a.size : Int) = a.size := IntWalk.u64_in _ (by omega)
  clear hd hr he hfin hbase hsure hba hsm hsf hrd hX hroom hz ha
  unfold rptr
  generalize d.ptr = p at *
  unfold rptr at HQ
  go_enter Try.func10, Try.ntmps10
  go_wp2_with fail
  go_region_held3 (fun wx => Below w.heap.size w wx ∧ wx.cell? ⟨B, 1, none⟩ = some (.string a) ∧ wx.cell? ⟨B, 2, none⟩ = some (.int .i64 (b : Int)) ∧ wx.cell? ⟨B, 3, none⟩ = some (.int .i64 (u : Int))) (first | exact HC.out _ (by assumption) | go_keep)
    (first
      | ((with_reducible refine (HRD.out _ (by assumption)).mono ?_); rintro e wa ⟨rfl, hka⟩)
      | fail "none")
  have hkb := hka.drew
  go_wp2_with fail
  go_region_held3 (fun wx => Below w.heap.size w wx ∧ wx.cell? ⟨B, 1, none⟩ = some (.string a) ∧ wx.cell? ⟨B, 2, none⟩ = some (.int .i64 (b : Int)) ∧ wx.cell? ⟨B, 3, none⟩ = some (.int .i64 (u : Int))) (first | exact HC.out _ (by assumption) | go_keep)
    (first
      | ((with_reducible refine (HB.out _ (by assumption)).mono ?_); rintro e wb ⟨rfl, hkc⟩)
      | ((with_reducible refine (HS.out _ (by assumption)).mono ?_); rintro e wc ⟨rfl, hkd⟩)
      | ((with_reducible refine (HE.out _ (by assumption)).mono ?_); rintro e wd ⟨rfl, hke⟩)
      | ((with_reducible refine (HO.out _ (by assumption)).mono ?_); rintro e we ⟨rfl, hkf⟩)
      | ((with_reducible refine (HQ.out _ (by assumption)).mono ?_); rintro e wf ⟨rfl, hkg⟩))
  go_wp2
  go_ret
  exact ⟨rfl, hkg⟩
end Go.Proofs.Ytikcbalofbgdlaa
