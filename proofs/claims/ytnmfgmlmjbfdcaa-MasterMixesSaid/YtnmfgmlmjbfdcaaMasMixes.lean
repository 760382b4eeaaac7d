/-
  The statement MasterMixes walked.
-/
import Derived.Test.YtnmfgmlmjbfdcaaMasHead
import Derived.Test.YtnmfgmlmjbfdcaaMasMix
import Derived.Laws.Bits64b
namespace Go.Proofs.Ytnmfgmlmjbfdcaa
open Go.RowKit

theorem pack_ok (v : Nat) (s : ByteArray) (k : Nat) (w : World) (hf : Fits v (txt s) k) (hs : s.size ≤ 1000000) : Calls Try.prog 10 #[.int .u64 (v : Int), .string s, .int .i64 ((k : Int) * 64)] w fun e w' => e = .returned (.tuple #[.string (tb (packed v (txt s) k)), .int .i64 0]) ∧ Below w.heap.size w w' := by
  have := pack_any v s ((k : Int) * 64) w hf.v1 (by omega) (by omega) (by have := hf.k1; omega)
  rw [show packE v s.size ((k : Int) * 64) = 0 from packE_of hf, show packT v (txt s) ((k : Int) * 64) = packed v (txt s) k from packT_of hf] at this
  exact this
theorem mix_next (P Q : List UInt8) (m j : Nat) : tb (mixS P Q m j) ++ (if m / 2 ^ j % 2 = 1 then tb P else tb Q).extract (64 * j) (64 * j + 64) = tb (mixS P Q m (j + 1)) := by
  have e : (if m / 2 ^ j % 2 = 1 then tb P else tb Q).extract (64 * j) (64 * j + 64) = tb (seg (if m / 2 ^ j % 2 = 1 then P else Q) (j * 64) 64) := by
    split
    · rw [tb_cut, show 64 * j + 64 - 64 * j = 64 by omega, Nat.mul_comm 64 j]
    · rw [tb_cut, show 64 * j + 64 - 64 * j = 64 by omega, Nat.mul_comm 64 j]
  rw [e, tb_app]
  rfl

theorem bits8 : ∀ (m : Fin 256) (j : Fin 8), (bits BinOp.and IntKind.u8 ((m.val : Int) / 2 ^ j.val) 1 == 1) = decide (m.val / 2 ^ j.val % 2 = 1) := by decide +kernel
theorem bit8 (m j : Nat) (hm : m < 256) (hj : j < 8) : (bits BinOp.and IntKind.u8 ((m : Int) / 2 ^ j) 1 == 1) = decide (m / 2 ^ j % 2 = 1) := bits8 ⟨m, hm⟩ ⟨j, hj⟩

set_option maxRecDepth 100000 in
set_option maxHeartbeats 4000000 in
theorem mixes_law (a b : ByteArray) (m : Nat) (w : World) (hm : m < 256) (ha0 : a.size ≤ 9223372036854775807) (hb0 : b.size ≤ 9223372036854775807) : Calls Try.prog 4 #[.string a, .string b, .int .u8 (m : Int)] w fun e w' => e = .returned (.bool true) ∧ Below w.heap.size w w' := by
  have HH := Lib.hid (fun wx => head_any wx)
  by_cases ha : a.size ≤ 400
  · by_cases hb : b.size ≤ 400
    · have hP := Lib.hid (show ∀ wx, Calls Try.prog 10 #[.int .u64 5, .string a, .int .i64 512] wx _ from fun wx => pack_ok 5 a 8 wx ⟨by decide, by decide, by decide, by decide, by show a.size + 4 ≤ _; omega⟩ (by omega))
      have hQ := Lib.hid (show ∀ wx, Calls Try.prog 10 #[.int .u64 6, .string b, .int .i64 512] wx _ from fun wx => pack_ok 6 b 8 wx ⟨by decide, by decide, by decide, by decide, by show b.size + 4 ≤ _; omega⟩ (by omega))
      have hPl : (packed 5 (txt a) 8).length = 512 := packed_length _ _ _
      have hQl : (packed 6 (txt b) 8).length = 512 := packed_length _ _ _
      have HM := Lib.hid (mixed (a := txt a) (b := txt b) (m := m) ha hb hm)
      have HL := Lib.hid (mixS_length (m := m) (K := 8) hPl hQl 8 (by decide))
      have HLJ := Lib.hid (fun j hj => mixS_length (m := m) (K := 8) hPl hQl j hj)
      have hzP : (tb (packed 5 (txt a) 8)).size = 512 := by rw [tb_size, hPl]
      have hzQ : (tb (packed 6 (txt b) 8)).size = 512 := by rw [tb_size, hQl]
      have e1 : tb (txt a) = a := tb_of a
      have e2 : tb (txt b) = b := tb_of b
      have HE1 := Lib.hid (fun _ : Unit => e1)
      have HE2 := Lib.hid (fun _ : Unit => e2)
      have h1 : (a.size : Int) ≤ 400 := by omega
      have h2 : (b.size : Int) ≤ 400 := by omega
      obtain ⟨P, hPP⟩ : ∃ P, packed 5 (txt a) 8 = P := ⟨_, rfl⟩
      obtain ⟨Q, hQQ⟩ : ∃ Q, packed 6 (txt b) 8 = Q := ⟨_, rfl⟩
      rw [hPP] at hP hPl hzP HM HL HLJ
      rw [hQQ] at hQ hQl hzQ HM HL HLJ
      have HX := Lib.hid (fun j => mix_next P Q m j)
      have hmI : (m : Int) < 256 := by omega
      have HHM := Lib.hid (fun _ : Unit => hm)
      clear e1 e2 hPP hQQ hPl hQl ha hb ha0 hb0 hm
      go_enter Try.func4, Try.ntmps4
      go_wp2_with fail
      refine (hP.out w).mono ?_
      rintro e w1 ⟨rfl, hb1⟩
      have HB1 := Lib.hid hb1
      clear hb1
      go_wp2_with fail
      refine (hQ.out w1).mono ?_
      rintro e w2 ⟨rfl, hb2⟩
      have HB2 := Lib.hid (HB1.out.trans (hb2.mono HB1.out.size))
      clear hb2 hP hQ HB1
      go_wp2_with fail
      go_loopw [11, 12] (fun s i wr => ∃ j : Nat, j ≤ 8 ∧ i = .int .i64 j ∧ s = .string (tb (mixS P Q m j)) ∧ wr = w2) (fun _ i _ => 8 - (intOf i).toNat)
      case atStart => exact ⟨0, by decide, rfl, rfl, rfl⟩
      case round =>
        obtain ⟨j, hj, rfl, rfl, rfl⟩ := hrel
        by_cases hlt : j < 8
        · have hjI : (j : Int) < 8 := by omega
          have hsj : (tb (mixS P Q m j)).size = j * 64 := by rw [tb_size]; exact HLJ.out j (by omega)
          have hsI : ((tb (mixS P Q m j)).size : Int) ≤ 512 := by omega
          by_cases hbit : m / 2 ^ j % 2 = 1
          · have hb8 : (bits BinOp.and IntKind.u8 ((m : Int) / 2 ^ j) 1 == 1) = true := by rw [bit8 m j (HHM.out ()) hlt]; exact decide_eq_true hbit
            have hnx := HX.out j
            rw [if_pos hbit] at hnx
            have HNX := Lib.hid hnx
            clear hnx hbit hsj
            go_wp2_with fail
            go_roundw
            case rel => exact ⟨j + 1, by omega, by go_num, by rw [← HNX.out], trivial⟩
            case measure => simp [intOf]; omega
          · have hb8 : (bits BinOp.and IntKind.u8 ((m : Int) / 2 ^ j) 1 == 1) = false := by rw [bit8 m j (HHM.out ()) hlt]; exact decide_eq_false hbit
            have hnx := HX.out j
            rw [if_neg hbit] at hnx
            have HNX := Lib.hid hnx
            clear hnx hbit hsj
            go_wp2_with fail
            go_roundw
            case rel => exact ⟨j + 1, by omega, by go_num, by rw [← HNX.out], trivial⟩
            case measure => simp [intOf]; omega
        · obtain rfl : j = 8 := by omega
          obtain ⟨k1, k2, k3⟩ := HM.out
          have hlen := HL.out
          by_cases hm0 : m = 0
          · have HU := Lib.hid (unpack_any (mixS P Q m 8) wr (by rw [hlen]; decide))
            rw [unpV_some (k1 hm0), HE2.out ()] at HU
            have hmi : (m : Int) = 0 := by omega
            clear k1 k2 k3 hlen hm0
            go_wp2_with fail
            refine HU.out.mono ?_
            rintro e w3 ⟨rfl, hb3⟩
            have HB3 := Lib.hid (HB2.out.trans (hb3.mono HB2.out.size))
            clear hb3 HU
            go_wp2_with fail
            refine (HH.out w3).mono ?_
            rintro e w4 ⟨rfl, hb4⟩
            have HB4 := Lib.hid (HB3.out.trans (hb4.mono HB3.out.size))
            clear hb4
            go_wp2
            go_ret
            exact ⟨rfl, HB4.out⟩
          · by_cases hm5 : m = 255
            · have HU := Lib.hid (unpack_any (mixS P Q m 8) wr (by rw [hlen]; decide))
              rw [unpV_some (k2 hm5), HE1.out ()] at HU
              have hmi : (m : Int) = 255 := by omega
              clear k1 k2 k3 hlen hm0 hm5
              go_wp2_with fail
              refine HU.out.mono ?_
              rintro e w3 ⟨rfl, hb3⟩
              have HB3 := Lib.hid (HB2.out.trans (hb3.mono HB2.out.size))
              clear hb3 HU
              go_wp2_with fail
              refine (HH.out w3).mono ?_
              rintro e w4 ⟨rfl, hb4⟩
              have HB4 := Lib.hid (HB3.out.trans (hb4.mono HB3.out.size))
              clear hb4
              go_wp2
              go_ret
              exact ⟨rfl, HB4.out⟩
            · have HU := Lib.hid (unpack_any (mixS P Q m 8) wr (by rw [hlen]; decide))
              obtain ⟨q1, q2⟩ := k3 hm0 hm5
              rw [unpV_none q1] at HU
              have HT := Lib.hid (fun wx => top_any (mixS P Q m 8) wx (by rw [hlen]; decide))
              rw [q2] at HT
              have hmi : ¬ (m : Int) = 0 := by omega
              have hmj : ¬ (m : Int) = 255 := by omega
              clear k1 k2 k3 hlen hm0 hm5 q1 q2
              go_wp2_with fail
              refine HU.out.mono ?_
              rintro e w3 ⟨rfl, hb3⟩
              have HB3 := Lib.hid (HB2.out.trans (hb3.mono HB2.out.size))
              clear hb3 HU
              go_wp2_with fail
              refine (HT.out w3).mono ?_
              rintro e w4 ⟨rfl, hb4⟩
              have HB4 := Lib.hid (HB3.out.trans (hb4.mono HB3.out.size))
              clear hb4 HT
              go_wp2_with fail
              refine (HH.out w4).mono ?_
              rintro e w5 ⟨rfl, hb5⟩
              have HB5 := Lib.hid (HB4.out.trans (hb5.mono HB4.out.size))
              clear hb5
              go_wp2
              go_ret
              exact ⟨rfl, HB5.out⟩
    · have h1 : (a.size : Int) ≤ 400 := by omega
      have h2 : (400 : Int) < (b.size : Int) := by omega
      go_enter Try.func4, Try.ntmps4
      go_wp2_with fail
      refine (HH.out w).mono ?_
      rintro e w1 ⟨rfl, hb1⟩
      have HB1 := Lib.hid hb1
      clear hb1
      go_wp2
      go_ret
      exact ⟨rfl, HB1.out⟩
  · have h1 : (400 : Int) < (a.size : Int) := by omega
    go_enter Try.func4, Try.ntmps4
    go_wp2_with fail
    refine (HH.out w).mono ?_
    rintro e w1 ⟨rfl, hb1⟩
    have HB1 := Lib.hid hb1
    clear hb1
    go_wp2
    go_ret
    exact ⟨rfl, HB1.out⟩
end Go.Proofs.Ytnmfgmlmjbfdcaa
