/-
  TapePlaces: the walk.
-/
import Derived.Test.YtikcbalofbgdlaaTapStrs
namespace Go.Proofs.Ytikcbalofbgdlaa
open Go.RowKit

theorem places_math (s : ByteArray) (d : Nat) (hd : d ≤ s.size) : (⟨20000, 0, s.size, txt s⟩ : ST).drops d ∧ (⟨20000, 0, s.size, txt s⟩ : ST).drop d = ⟨20000, d, s.size, (txt s).drop d⟩ := by
  have h : (⟨20000, 0, s.size, txt s⟩ : ST).drops d := ⟨Nat.zero_le _, hd⟩
  exact ⟨h, by unfold ST.drop; rw [if_pos h]; simp⟩
theorem places_reads (s : ByteArray) (d a b : Nat) (hd : d ≤ s.size) (hb : b ≤ s.size) : (⟨20000, d, s.size, (txt s).drop d⟩ : ST).reads a b ↔ d ≤ a ∧ a ≤ b := by
  unfold ST.reads ST.fin
  show d ≤ a ∧ a ≤ b ∧ b ≤ d + ((txt s).drop d).length ↔ _
  rw [List.length_drop, txt_length]; omega
theorem places_read (s : ByteArray) (d a b : Nat) (hd : d ≤ s.size) (hb : b ≤ s.size) (h1 : d ≤ a) (h2 : a ≤ b) : (⟨20000, d, s.size, (txt s).drop d⟩ : ST).read a b = s.extract a b := by
  rw [ST.read, if_pos ((places_reads s d a b hd hb).2 ⟨h1, h2⟩)]
  apply txt_inj
  rw [txt_mk, txt_extract]
  show (((txt s).drop d).take (b - d)).drop (a - d) = _
  rw [← List.drop_take, List.drop_drop]
  congr 1; omega
theorem rem_nat (x n : Nat) (hn : n ≤ 6000) : ∃ d : Nat, (x : Int) % ((n : Int) + 1) = (d : Int) ∧ d ≤ n := by
  refine ⟨x % (n + 1), by simp, ?_⟩
  have := Nat.mod_lt x (show n + 1 > 0 by omega)
  omega

set_option maxRecDepth 100000 in
set_option maxHeartbeats 1600000 in
theorem places_any (A : Option Addr) (ca : Nat) (la : List ByteArray) (x0 x1 x2 : Nat) (w : World) (ha : Strs w A la) (hla : la.length ≤ 9223372036854775807) (b0 : x0 < 65536) (b1 : x1 < 65536) (b2 : x2 < 65536)
    (hsa : ∀ t ∈ la, t.size ≤ 9223372036854775807) :
    Calls Try.prog 7 #[.agg #[.slice A la.length ca, .int .u16 (x0 : Int), .int .u16 (x1 : Int), .int .u16 (x2 : Int)]] w fun e w' => e = .returned (.bool true) ∧ Below w.heap.size w w' := by
  have HA := Lib.hid ha
  have HSA := Lib.hid hsa
  clear ha hsa
  have la1 : (la.length : Int) ≤ 9223372036854775807 := by omega
  have i0 : (x0 : Int) ≤ 65535 := by omega
  have i1 : (x1 : Int) ≤ 65535 := by omega
  have i2 : (x2 : Int) ≤ 65535 := by omega
  have HR := Lib.hid (show ∀ w1, w1 = w.alloc (.cells #[.slice A la.length ca, .int .u16 (x0 : Int), .int .u16 (x1 : Int), .int .u16 (x2 : Int)] 55) → Row w1 w.heap.size 55 [.slice A la.length ca, .int .u16 (x0 : Int), .int .u16 (x1 : Int), .int .u16 (x2 : Int)] (0, 0) ∧ Below w.heap.size w w1 from fun w1 h1 => by
    subst h1; exact ⟨Row.new w _ _ _, (Below.refl _ _).alloc (Nat.le_refl _) _⟩)
  have HD := Lib.hid (show ∀ n w1, w1 = (w.alloc (.cells #[.slice A la.length ca, .int .u16 (x0 : Int), .int .u16 (x1 : Int), .int .u16 (x2 : Int)] 55)).drewN n → Below w.heap.size w w1 from fun n w1 h1 => by
    subst h1
    have hb : Below w.heap.size w (w.alloc (.cells #[.slice A la.length ca, .int .u16 (x0 : Int), .int .u16 (x1 : Int), .int .u16 (x2 : Int)] 55)) := (Below.refl _ _).alloc (Nat.le_refl _) _
    exact ⟨hb.os, hb.tape, hb.output, hb.size, hb.block⟩)
  go_enter Try.func7, Try.ntmps7
  go_wp2_with fail
  obtain ⟨hX, hb0⟩ := HR.out _ rfl
  have k0 := hX.cell 0
  have k1 := hX.cell 1
  have k2 := hX.cell 2
  have k3 := hX.cell 3
  go_quiet (fail)
  clear k0 k1 k2 k3
  by_cases hA20 : 20 < la.length
  · have hA20' : (20 : Int) < la.length := by omega
    have hcond : decide ((20 : Int) < la.length) = true := by simpa using hA20'
    go_wp2_with fail
    refine (head_any _).mono ?_
    rintro e w2 ⟨rfl, hb⟩
    have HB1 := Lib.hid (show Below w.heap.size w w2 from (HD.out _ _ rfl).trans (hb.mono (HD.out _ _ rfl).size))
    clear hb
    go_wp2
    go_ret
    exact ⟨rfl, HB1.out⟩
  have hA20' : (la.length : Int) ≤ 20 := by omega
  go_wp2_with fail
  refine (new_tape (W := w) 20000 (by omega) (HD.out _ _ rfl)).mono ?_
  rintro e w1 ⟨A0, rfl, h1⟩
  generalize (Value.pointer (some ⟨A0, 0, none⟩)) = p at *
  have H1 := Lib.hid (show Tape w p ⟨20000, 0, 0, txt ⟨#[]⟩⟩ w1 from h1)
  clear h1 hX hb0
  go_wp2_with fail
  go_loopw [8, 9] (fun x i wr => ∃ (k : Nat) (s : ByteArray), k ≤ la.length ∧ i = .int .i64 k ∧ x = .string s ∧ s.size ≤ 300 * k ∧ Hid (Tape w p ⟨20000, 0, s.size, txt s⟩ wr)) (fun _ i _ => la.length - (intOf i).toNat)
  case atStart => exact ⟨0, ⟨#[]⟩, by omega, rfl, rfl, Nat.zero_le _, H1⟩
  case round =>
    clear H1
    obtain ⟨k, s, hk, rfl, rfl, hs, HT⟩ := hrel
    by_cases hkl : k = la.length
    · have hkl2 : ¬ (k : Int) < la.length := by omega
      have hs6 : s.size ≤ 6000 := by omega
      have hs6' : (s.size : Int) ≤ 6000 := by omega
      clear hs hk hkl
      obtain ⟨d, e0, hd⟩ := rem_nat x0 s.size hs6
      obtain ⟨a, e1, ha⟩ := rem_nat x1 s.size hs6
      obtain ⟨b, e2, hb⟩ := rem_nat x2 s.size hs6
      have hd' : (d : Int) ≤ 6000 := by omega
      have ha' : (a : Int) ≤ 6000 := by omega
      have hb' : (b : Int) ≤ 6000 := by omega
      have hds : (d : Int) ≤ s.size := by omega
      have has : (a : Int) ≤ s.size := by omega
      have hbs : (b : Int) ≤ s.size := by omega
      have hn0 : ¬ (s.size : Int) + 1 = 0 := by omega
      have HRD := Lib.hid (places_reads s d a b hd hb)
      have HRE := Lib.hid (places_read s d a b hd hb)
      obtain ⟨m1, m2⟩ := places_math s d hd
      have HDT := Lib.hid (show ∀ wx, Tape w p ⟨20000, 0, s.size, txt s⟩ wx → Calls Try.prog 24 #[p, .int .u64 (d : Int)] wx fun e w' => e = .returned (.int .i64 0) ∧ Tape w p ⟨20000, d, s.size, (txt s).drop d⟩ w' from fun wx h => by
        have := drop_tape h d _ rfl
        rw [if_pos m1, m2] at this
        exact this)
      have HN := Lib.hid (show ((20000 - ((txt s).drop d).length : Nat) : Int) = 20000 - ((s.size : Int) - (d : Int)) from by rw [List.length_drop, txt_length]; omega)
      clear m1 m2
      go_wp2_with fail
      go_quiet (fail)
      go_wp2_with fail
      refine (HDT.out _ (HT.out.drewN _)).mono ?_
      rintro e w2 ⟨rfl, h2⟩
      have H2 := Lib.hid h2
      clear h2 HDT HT
      go_wp2_with fail
      refine (read_tape H2.out a b _ _ rfl rfl).mono ?_
      rintro e w3 ⟨rfl, h3⟩
      have H3 := Lib.hid h3
      clear h3 H2
      have hhead := (head_any w3).mono fun e w' (hh : _ ∧ _) => show e = .returned (.bool true) ∧ Below w.heap.size w w' from ⟨hh.1, H3.out.since.trans (hh.2.mono H3.out.since.size)⟩
      have HH := Lib.hid hhead
      clear hhead
      by_cases h4 : d ≤ a ∧ a ≤ b
      · have h5 : (d : Int) ≤ a := by omega
        have h6 : (a : Int) ≤ b := by omega
        rw [if_pos (HRD.out.2 h4), HRE.out h4.1 h4.2]
        clear h4
        go_wp2_with fail
        refine (room_tape H3.out).mono ?_
        rintro e w4 ⟨rfl, h4⟩
        have HH2 := Lib.hid ((head_any w4).mono fun e w' (hh : _ ∧ _) => show e = .returned (.bool true) ∧ Below w.heap.size w w' from ⟨hh.1, h4.since.trans (hh.2.mono h4.since.size)⟩)
        rw [HN.out]
        clear h4 HH
        go_wp2_with fail
        refine HH2.out.mono ?_
        rintro e w5 ⟨rfl, hb⟩
        have HB1 := Lib.hid hb
        clear hb HH2
        go_wp2
        go_ret
        exact ⟨rfl, HB1.out⟩
      · have hrd : ¬ (⟨20000, d, s.size, (txt s).drop d⟩ : ST).reads a b := fun h => h4 (HRD.out.1 h)
        rw [if_neg hrd, show (⟨20000, d, s.size, (txt s).drop d⟩ : ST).read a b = ⟨#[]⟩ from if_neg hrd]
        clear hrd
        by_cases h5 : a < d
        · have h6 : (a : Int) < d := by omega
          go_wp2_with fail
          refine HH.out.mono ?_
          rintro e w5 ⟨rfl, hb⟩
          have HB1 := Lib.hid hb
          clear hb HH
          go_wp2
          go_ret
          exact ⟨rfl, HB1.out⟩
        · have h6 : (b : Int) < a := by omega
          have h7 : (d : Int) ≤ a := by omega
          go_wp2_with fail
          refine HH.out.mono ?_
          rintro e w5 ⟨rfl, hb⟩
          have HB1 := Lib.hid hb
          clear hb HH
          go_wp2
          go_ret
          exact ⟨rfl, HB1.out⟩
    · have hkl2 : (k : Int) < la.length := by omega
      have hkN : k < la.length := by omega
      have hk19 : k < 20 := by omega
      obtain ⟨g, off, t, hBg, htm, HCL⟩ := HA.out.at_ hkN
      have hts := HSA.out t htm
      have hcell := HCL.out _ HT.out.since
      subst hBg
      have hts1 : (t.size : Int) ≤ 9223372036854775807 := by omega
      by_cases h3 : 300 < t.size
      · have h3' : (300 : Int) < t.size := by omega
        clear hs hk hkl hkN hk19
        go_wp2_with fail
        refine (head_any wr).mono ?_
        rintro e w7 ⟨rfl, hb⟩
        have HB1 := Lib.hid (HT.out.since.trans (hb.mono HT.out.since.size))
        clear hb HT
        go_wp2
        go_ret
        exact ⟨rfl, HB1.out⟩
      · have h3' : (t.size : Int) ≤ 300 := by omega
        have HAP := Lib.hid (append_more HT.out t (by rw [txt_length]; omega) (by rw [txt_length]; omega))
        have HRT := Lib.hid (show (s ++ t).size ≤ 300 * (k + 1) by rw [size_append]; omega)
        have hrt : (s.size : Int) + (t.size : Int) ≤ 6300 := by omega
        have hk1' : k + 1 ≤ la.length := by omega
        have hkk : (k : Int) < 20 := by omega
        clear hs hk hkl hkN hk19 HT
        go_wp2_with fail
        refine HAP.out.mono ?_
        rintro e w7 ⟨rfl, h7⟩
        have H7 := Lib.hid h7
        clear h7 HAP hcell
        go_wp2_with fail
        refine (force_tape H7.out).mono ?_
        rintro e w8 ⟨rfl, h8⟩
        have hcell2 := HCL.out _ h8.since
        have H8 := Lib.hid (show Tape w p ⟨20000, 0, (s ++ t).size, txt (s ++ t)⟩ w8 by
          have e : (⟨20000, 0, s.size, txt s ++ txt t⟩ : ST).force = ⟨20000, 0, (s ++ t).size, txt (s ++ t)⟩ := by
            unfold ST.force ST.fin; rw [txt_append, size_append]; simp [txt_length]
          rw [← e]; exact h8)
        clear h8 H7
        go_wp2_with fail
        go_roundw
        case rel => exact ⟨k + 1, _, hk1', by go_num, rfl, HRT.out, H8⟩
        case measure => simp [intOf]; omega
end Go.Proofs.Ytikcbalofbgdlaa
