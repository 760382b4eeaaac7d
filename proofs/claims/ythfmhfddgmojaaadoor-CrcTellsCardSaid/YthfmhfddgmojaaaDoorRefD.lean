/-
  The walks over the document's answer for package crc, part D: Open.
-/
import Derived.Test.YthfmhfddgmojaaaDoorRefC
namespace Go.Proofs.YthfmhfddgmojaaaDoor
open Go.RowKit

theorem seal_iff {z : List UInt8} {k : Nat} (h : z.length = k + 4) : sealL (z.take k) = z ↔ Sealed z := by
  unfold sealL Sealed
  rw [h, Nat.add_sub_cancel]
  constructor
  · intro e
    refine ⟨by omega, ?_⟩
    have h2 : z.drop k = le4 (more_ 0 (z.take k)) := by
      have h3 : (z.take k ++ le4 (more_ 0 (z.take k))).drop k = z.drop k := by rw [e]
      have hk : (z.take k).length = k := by rw [List.length_take]; omega
      rw [← h3, List.drop_left' hk]
    exact h2
  · rintro ⟨_, e⟩
    rw [← e, List.take_append_drop]

set_option maxHeartbeats 400000 in
theorem ropen_short (A : Option Addr) (n c : Nat) (w : World) (hn : n < 4) :
    Calls Tryd.prog 11 #[.slice A n c] w fun e w' => e = .returned (.tuple #[.slice none 0 0, .bool false]) ∧ w = w' := by
  go_enter Tryd.func11, Tryd.ntmps11
  go_wp2
  go_ret2
  exact ⟨rfl, rfl⟩

set_option maxRecDepth 100000 in
set_option maxHeartbeats 2000000 in
theorem ropen_refuses {T : TypeId} (A : Option Addr) (z : List UInt8) (n c : Nat) (w : World) (hn : z.length = n) (hr : Reads T w A z) (h4 : 4 ≤ n) (hl : n ≤ 2000) (hc : n ≤ c) (hno : ¬ Sealed z) :
    Calls Tryd.prog 11 #[.slice A n c] w fun e w' => e = .returned (.tuple #[.slice none 0 0, .bool false]) ∧ Below w.heap.size w w' := by
  obtain ⟨k, rfl⟩ : ∃ k, n = k + 4 := ⟨n - 4, by omega⟩
  have HTL := Lib.hid (show (z.take k).length = k by rw [List.length_take]; omega)
  have HS := Lib.hid (rseal_any A (z.take k) k c w.drew HTL.out (hr.take k) (fun e => by
    subst e
    have := reads_none hr
    rw [this] at hn
    simp at hn) (by omega))
  have hcv := text_n A z (k + 4) c w.drew hn hr
  have HCB := Lib.hid (show ∀ w' : World, Below w.drew.heap.size w.drew w' → (convert 22 9 (.slice A (k + 4) c)).run Tryd.prog w' = .ok (.string ⟨z.toArray⟩) w' from fun w' hb => text_n A z (k + 4) c w' hn (hr.below (show Below w.heap.size w w' from (Below.refl _ w).drew.trans hb) (Nat.le_refl _)))
  have hse : ((⟨(sealL (z.take k)).toArray⟩ : ByteArray).toList == (⟨z.toArray⟩ : ByteArray).toList) = false := by
    rw [beq_eq_false_iff_ne, ByteArray.toList_eq, ByteArray.toList_eq]
    exact fun e => hno ((seal_iff hn).1 e)
  have HSE := Lib.hid hse
  clear hse hr hn hno
  generalize sealL (z.take k) = y at *
  generalize (⟨z.toArray⟩ : ByteArray) = sz at *
  have hk0 : (0 : Int) ≤ (k : Int) := by omega
  have hkc : (k : Int) ≤ (c : Int) := by omega
  go_enter Tryd.func11, Tryd.ntmps11
  go_upto_region 4 with fail
  go_cut [17] (fun s wx => s = .bool true ∧ Below w.heap.size w wx)
  case first =>
    go_region_with ((go_at_call 14; refine HS.out.mono ?_; rintro e w6 ⟨g6, c6, rfl, hl6, hc6, hr6, hb6⟩; have hcvb := HCB.out w6 hb6; have hcv6 := text_n (some ⟨g6, 0, none⟩) y (k + 4) c6 w6 hl6 hr6; generalize (⟨y.toArray⟩ : ByteArray) = sy at *; have hse6 := HSE.out))
    all_goals
      go_wp2_with fail
      try go_frame
      go_meet
      exact ⟨rfl, (Below.refl _ w).drew.trans hb6⟩
  case rest =>
    obtain ⟨rfl, hb⟩ := hcut
    clear hcv
    go_wp2
    go_ret2
    exact ⟨rfl, hb⟩

set_option maxRecDepth 100000 in
set_option maxHeartbeats 2000000 in
theorem ropen_takes {T : TypeId} (A : Option Addr) (z : List UInt8) (n c : Nat) (w : World) (hn : z.length = n) (hr : Reads T w A z) (h4 : 4 ≤ n) (hl : n ≤ 2000) (hc : n ≤ c) (hyes : Sealed z) :
    Calls Tryd.prog 11 #[.slice A n c] w (NewT w (n - 4) (z.take (n - 4))) := by
  obtain ⟨k, rfl⟩ : ∃ k, n = k + 4 := ⟨n - 4, by omega⟩
  have HTL := Lib.hid (show (z.take k).length = k by rw [List.length_take]; omega)
  have HS := Lib.hid (rseal_any A (z.take k) k c w.drew HTL.out (hr.take k) (fun e => by
    subst e
    have := reads_none hr
    rw [this] at hn
    simp at hn) (by omega))
  have hcv := text_n A z (k + 4) c w.drew hn hr
  have HCB := Lib.hid (show ∀ w' : World, Below w.drew.heap.size w.drew w' → (convert 22 9 (.slice A (k + 4) c)).run Tryd.prog w' = .ok (.string ⟨z.toArray⟩) w' from fun w' hb => text_n A z (k + 4) c w' hn (hr.below (show Below w.heap.size w w' from (Below.refl _ w).drew.trans hb) (Nat.le_refl _)))
  have HR := Lib.hid (hr.take k)
  have HNA := Lib.hid (show A = none → c = 0 from fun e => by
    subst e
    have := reads_none hr
    rw [this] at hn
    simp at hn)
  obtain ⟨i0, hi0, hz0, hz1, hz2⟩ := info_parts Tryd.info_u8
  rw [Nat.add_sub_cancel]
  rw [(seal_iff hn).2 hyes] at HS
  clear hr hyes
  generalize z.take k = y at *
  generalize hsz : (⟨z.toArray⟩ : ByteArray) = sz at *
  have HSZ := Lib.hid hsz
  clear hsz hn
  have hk0 : (0 : Int) ≤ (k : Int) := by omega
  have hkc : (k : Int) ≤ (c : Int) := by omega
  go_enter Tryd.func11, Tryd.ntmps11
  go_upto_region 4 with fail
  go_cut [17] (fun s wx => s = .bool false ∧ Below w.heap.size w wx)
  case first =>
    go_region_with ((go_at_call 14; refine HS.out.mono ?_; rintro e w6 ⟨g6, c6, rfl, hl6, hc6, hr6, hb6⟩; have hcvb := HCB.out w6 hb6; have hcv6 := text_n (some ⟨g6, 0, none⟩) z (k + 4) c6 w6 hl6 hr6; rw [HSZ.out] at hcv6))
    all_goals
      go_wp2_with fail
      try go_frame
      go_meet
      exact ⟨rfl, (Below.refl _ w).drew.trans hb6⟩
  case rest =>
    obtain ⟨rfl, hb⟩ := hcut
    have HB := Lib.hid hb
    clear hcv hb
    go_wp2_with (at_builtin; refine wpList_own_src rfl (.tmp 18) (.tmp 21) 22 rfl w.heap.size 5 i0 Tryd.underlying22 hi0 hz0 hz1 hz2 wc.heap.size 0 0 [] rfl (World.ownsRow_made wc #[] 0 HB.out.size (by simp [maxLen]) rfl) A y k c rfl HTL.out (HR.out.below (HB.out.alloc HB.out.size _) (Nat.le_refl _)) HNA.out (by omega) ?hba ?_)
    case hba => rw [size_new]; have := HB.out.size; omega
    intro g cap w2 hown hgr
    have HO := Lib.hid (owns_src (n := k) hown HB.out hgr)
    clear hown hgr
    obtain ⟨g1, c1, hv, hl1, hc1, hr1, hb1⟩ := HO.out.new
    injection hv with hv _ hv2
    obtain rfl : g = g1 := by simpa using hv
    subst hv2
    have HRD := Lib.hid hr1
    have HBB := Lib.hid hb1
    clear hr1 hb1 HO hv
    go_wp2_with fail
    go_ret2
    exact ⟨g, cap, rfl, HTL.out, hc1, HRD.out, HBB.out⟩

end Go.Proofs.YthfmhfddgmojaaaDoor
