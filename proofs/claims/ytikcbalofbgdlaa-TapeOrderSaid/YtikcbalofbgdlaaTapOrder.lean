/-
  TapeOrder: the walk.
-/
import Derived.Test.YtikcbalofbgdlaaTapPair
namespace Go.Proofs.Ytikcbalofbgdlaa
open Go.RowKit

set_option maxRecDepth 100000 in
set_option maxHeartbeats 1600000 in
theorem order_any (room : Int) (A : Option Addr) (ca : Nat) (l : List ActV) (w : World) (ha : Acts w A l) (hl : l.length ≤ 9223372036854775807) (hr : room ≤ 9223372036854775807) (hr0 : -9223372036854775808 ≤ room) :
    Calls Try.prog 5 #[.int .i64 room, .slice A l.length ca] w fun e w' => e = .returned (.bool true) ∧ Below w.heap.size w w' := by
  have HA := Lib.hid ha
  clear ha
  have l1 : (l.length : Int) ≤ 9223372036854775807 := by omega
  obtain ⟨R, hR⟩ : ∃ R : Nat, room.toNat = R := ⟨_, rfl⟩
  have hRm : max room 0 = (R : Int) := by omega
  have hRb : (R : Int) ≤ 9223372036854775807 := by omega
  have HN := Lib.hid (show ∀ w1 A0, Tape w (.pointer (some ⟨A0, 0, none⟩)) ⟨room.toNat, 0, 0, []⟩ w1 → ∀ w2, RIn w1.heap.size ⟨(0 : Int).toNat, ⟨#[]⟩, 0, 0⟩ w2 → Below w1.heap.size w1 w2 → ∃ s u, s.room = R ∧ Pair w (.pointer (some ⟨A0, 0, none⟩)) w1.heap.size (300 * 0) s u w2 from fun w1 A0 ht w2 hr2 hb2 => by
    obtain ⟨d, h1, h2, h3, h4, h5⟩ := ht
    refine ⟨_, _, ?_, d, _, h1, rfl, rfl, h3.keeps hb2, hr2, h4.trans (hb2.mono h4.size), h5, h4.size, ?_, ?_⟩
    · rw [h2]; exact hR
    · rw [h2]; exact Nat.le_refl _
    · exact Nat.le_refl _)
  clear hR
  go_enter Try.func5, Try.ntmps5
  go_wp2_with fail
  refine (new_tape (W := w) room hr (Below.refl _ _)).mono ?_
  rintro e w1 ⟨A0, rfl, h1⟩
  go_wp2_with fail
  refine (rnew_any 0 w1 (by omega)).mono ?_
  rintro e w2 ⟨rfl, h2, h3, -⟩
  have H0 := Lib.hid (HN.out w1 A0 h1 w2 h2 h3)
  clear h1 h2 h3 HN
  generalize (Value.pointer (some ⟨A0, 0, none⟩)) = p at *
  generalize w1.heap.size = B at *
  go_wp2_with fail
  go_loopw [7] (fun i wr => ∃ k : Nat, k ≤ l.length ∧ k ≤ 60 ∧ i = .int .i64 k ∧ Hid (∃ s u, s.room = R ∧ Pair w p B (300 * k) s u wr)) (fun i _ => 60 - (intOf i).toNat)
  case atStart => exact ⟨0, by omega, by omega, rfl, H0⟩
  case round =>
    clear H0
    obtain ⟨k, hk, hk60, rfl, HP⟩ := hrel
    obtain ⟨s, u, hsr, hp⟩ := HP.out
    have HP1 := Lib.hid hp
    clear hp HP
    have HH := Lib.hid (fun wx (hb : Below w.heap.size w wx) => (head_any wx).mono fun e w' (hh : _ ∧ _) => show e = .returned (.bool true) ∧ Below w.heap.size w w' from ⟨hh.1, hb.trans (hh.2.mono hb.size)⟩)
    by_cases hend : k < l.length ∧ k < 60
    · have g1 : (k : Int) < l.length := by omega
      have g2 : (k : Int) < 60 := by omega
      obtain ⟨g, off, x, hAg, hx, HCL⟩ := HA.out.cells hend.1
      obtain ⟨c0, c1, c2, c3⟩ := HCL.out _ HP1.out.since
      subst hAg
      have hk1 : k + 1 ≤ l.length := by omega
      have hk2 : k + 1 ≤ 60 := by omega
      have HG := Lib.hid (great_any x wr hx.s)
      have HX := Lib.hid hx
      unfold ActV.val at HG
      clear hend hk hk60 hx
      go_wp2_with fail
      refine HG.out.mono ?_
      rintro e w3 ⟨rfl, hb3⟩
      have HP2 := Lib.hid (HP1.out.keeps hb3)
      clear HP1 hb3 HG c0 c1 c2 c3
      obtain ⟨c0, c1, c2, c3⟩ := HCL.out _ HP2.out.since
      by_cases h3 : 300 < x.s.size
      · have hd : decide (300 < x.s.size) = true := by simpa using h3
        rw [hd]
        go_wp2_with fail
        refine (HH.out _ HP2.out.since).mono ?_
        rintro e w4 ⟨rfl, hb⟩
        have HB1 := Lib.hid hb
        clear hb HP2
        go_wp2
        go_ret
        exact ⟨rfl, HB1.out⟩
      · have hd : decide (300 < x.s.size) = false := by simpa using h3
        rw [hd]
        have HD := Lib.hid (HP2.out.does x HX.out (by omega) (by omega))
        unfold ActV.val at HD
        clear h3 HH
        go_wp2_with fail
        refine HD.out.mono ?_
        rintro e w4 ⟨b, rfl, -, hp4⟩
        have HP4 := Lib.hid (show Pair w p B (300 * (k + 1)) (s.act x) (u.act x) w4 from hp4)
        have hsr4 : (s.act x).room = R := by rw [ST.act_room]; exact hsr
        clear hp4 HP2 HD c0 c1 c2 c3
        have hok := HP4.out.ok
        generalize s.act x = s4 at *
        generalize u.act x = u4 at *
        have o1 : (s4.base : Int) ≤ s4.sure := by have := hok.bs; omega
        have o2 : (s4.sure : Int) ≤ s4.fin := by have := hok.sf; omega
        have o3 : (s4.fin : Int) - (s4.base : Int) ≤ R := by have := hok.lr; unfold ST.fin; omega
        have o4 : (s4.fin : Int) ≤ 100000000 := by have := hok.small; omega
        have o5 : (s4.base : Int) ≤ s4.fin := by omega
        have o6 : (0 : Int) ≤ ((s4.room - s4.l.length : Nat) : Int) := by omega
        clear hok
        go_wp2_with fail
        refine HP4.out.base.mono ?_
        rintro e w5 ⟨rfl, rfl⟩
        go_wp2_with fail
        refine HP4.out.sure.mono ?_
        rintro e w5 ⟨rfl, rfl⟩
        go_wp2_with fail
        refine HP4.out.sure.mono ?_
        rintro e w5 ⟨rfl, rfl⟩
        go_wp2_with fail
        refine HP4.out.End.mono ?_
        rintro e w5 ⟨rfl, hp5⟩
        have HP5 := Lib.hid hp5
        clear hp5 HP4
        go_wp2_with fail
        refine HP5.out.room.mono ?_
        rintro e w6 ⟨rfl, hp6⟩
        have HP6 := Lib.hid hp6
        clear hp6 HP5
        generalize ((s4.room - s4.l.length : Nat) : Int) = z at *
        go_wp2_with fail
        refine HP6.out.End.mono ?_
        rintro e w5 ⟨rfl, hp5⟩
        have HP5 := Lib.hid hp5
        clear hp5 HP6
        go_wp2_with fail
        refine HP5.out.base.mono ?_
        rintro e w6 ⟨rfl, rfl⟩
        go_wp2_with fail
        go_roundw
        case rel => exact ⟨k + 1, hk1, hk2, by go_num, Lib.hid ⟨_, _, hsr4, HP5.out⟩⟩
        case measure => simp [intOf]; omega
    · have hcase : (l.length : Int) ≤ k ∨ ((k : Int) < l.length ∧ (60 : Int) ≤ k) := by omega
      have HB := Lib.hid (HP1.out.since)
      clear hend HP1
      rcases hcase with h4 | ⟨h4, h5⟩
      · go_wp2_with fail
        refine (HH.out _ HB.out).mono ?_
        rintro e w4 ⟨rfl, hb⟩
        have HB1 := Lib.hid hb
        clear hb
        go_wp2
        go_ret
        exact ⟨rfl, HB1.out⟩
      · go_wp2_with fail
        refine (HH.out _ HB.out).mono ?_
        rintro e w4 ⟨rfl, hb⟩
        have HB1 := Lib.hid hb
        clear hb
        go_wp2
        go_ret
        exact ⟨rfl, HB1.out⟩
end Go.Proofs.Ytikcbalofbgdlaa
