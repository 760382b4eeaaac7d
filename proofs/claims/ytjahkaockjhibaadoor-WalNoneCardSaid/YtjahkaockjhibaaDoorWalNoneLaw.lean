/-
  WalNone: the walk.
-/
import Derived.Test.YtjahkaockjhibaaDoorMWHeld
namespace Go.Proofs.YtjahkaockjhibaaDoor
open Go.RowKit

/-- A log that nothing made. -/
def zeroWal : List Value := [.pointer none, .slice none 0 0, .int .u64 0, .int .u64 0]

set_option maxRecDepth 100000 in
set_option maxHeartbeats 4000000 in
theorem nonelaw_any (n : Int) (s : ByteArray) (w : World) (hT : Tab w) : Calls Tryd.prog 7 #[.int .u64 n, .string s] w fun e w' => e = .returned (.bool true) ∧ Below w.heap.size w w' := by
  have HT := Lib.hid hT
  clear hT
  go_enter Tryd.func7, Tryd.ntmps7
  go_wp2_with fail
  refine (wopen_none n w).mono ?_
  rintro e w1 ⟨rfl, hb1⟩
  have HB1 := Lib.hid hb1
  clear hb1
  have HR := Lib.hid (show ∀ w2, w2 = (w1.alloc (.cells zeroWal.toArray 74)).alloc (.cells #[.pointer none, .pointer (some ⟨w1.heap.size, 0, none⟩)] 28) →
    Row w2 w1.heap.size 74 zeroWal (0, 0) ∧ Row w2 (w1.heap.size + 1) 28 [.pointer none, .pointer (some ⟨w1.heap.size, 0, none⟩)] (0, 0) ∧ Below w.heap.size w w2 from fun w2 h1 => by
      subst h1
      have e1 : (w1.alloc (.cells zeroWal.toArray 74)).heap.size = w1.heap.size + 1 := by simp
      refine ⟨(Row.new w1 74 zeroWal (0, 0)).alloc _, ?_, (HB1.out.alloc HB1.out.size _).alloc (by rw [e1]; have := HB1.out.size; omega) _⟩
      have := Row.new (w1.alloc (.cells zeroWal.toArray 74)) 28 [.pointer none, .pointer (some ⟨w1.heap.size, 0, none⟩)] (0, 0)
      rwa [e1] at this)
  go_wp2_with fail
  obtain ⟨hT1, hL, hb⟩ := HR.out _ rfl
  go_loopw [9] (fun i wr => ∃ k : Nat, k ≤ 2 ∧ i = .int .i64 k ∧ Hid (Row wr w1.heap.size 74 zeroWal (0, 0) ∧ Row wr (w1.heap.size + 1) 28 [.pointer none, .pointer (some ⟨w1.heap.size, 0, none⟩)] (0, 0) ∧ Below w.heap.size w wr)) (fun i _ => 2 - (intOf i).toNat)
  case atStart => exact ⟨0, by omega, rfl, Lib.hid ⟨hT1, hL, hb⟩⟩
  case round =>
    clear hT1 hL hb HR
    obtain ⟨k, hk, rfl, HW⟩ := hrel
    by_cases h2 : k = 2
    · subst h2
      go_wp2_with fail
      refine (whead_any wr (HT.out.keeps HW.out.2.2)).mono ?_
      rintro e w2 ⟨rfl, hb⟩
      have HB2 := Lib.hid (HW.out.2.2.trans (hb.mono HW.out.2.2.size))
      clear hb
      go_wp2
      go_ret
      exact ⟨rfl, HB2.out⟩
    · obtain ⟨v, hv, hnd, hold⟩ : ∃ v, wr.cell? ⟨w1.heap.size + 1, k, none⟩ = some v ∧ NoWal wr v ∧ ∀ A, v = .pointer (some ⟨A, 0, .none⟩) → A < wr.heap.size := by
        obtain ⟨hT1, hL, hb⟩ := HW.out
        rcases (show k = 0 ∨ k = 1 by omega) with rfl | rfl
        · exact ⟨_, hL.cell 0, ⟨.inl rfl⟩, fun A h => by cases h⟩
        · refine ⟨_, hL.cell 1, ⟨.inr ⟨_, rfl, hT1.cell 0⟩⟩, fun A h => ?_⟩
          have := hT1.lt
          injection h with h
          injection h with h
          injection h with h _ _
          omega
      have HND := Lib.hid hnd
      have HOLD := Lib.hid hold
      have hkl : (k : Int) < 2 := by omega
      clear hnd hold
      go_wp2_with fail
      refine (wno_append HND.out 1 s).mono ?_
      rintro e w2 ⟨rfl, rfl⟩
      go_wp2_with fail
      refine (wno_get HND.out HOLD.out n).mono ?_
      rintro e w2 ⟨rfl, hb2⟩
      have HND2 := Lib.hid (HND.out.keeps (w' := w2) (fun A hA => hb2.cell (p := ⟨A, 0, .none⟩) (HOLD.out A hA)))
      have HW2 := Lib.hid (show Row w2 w1.heap.size 74 zeroWal (0, 0) ∧ Row w2 (w1.heap.size + 1) 28 [.pointer none, .pointer (some ⟨w1.heap.size, 0, none⟩)] (0, 0) ∧ Below w.heap.size w w2 ∧ ∀ A, v = .pointer (some ⟨A, 0, .none⟩) → A < w2.heap.size from ⟨HW.out.1.below hb2 HW.out.1.lt, HW.out.2.1.below hb2 HW.out.2.1.lt, HW.out.2.2.trans (hb2.mono HW.out.2.2.size), fun A hA => Nat.lt_of_lt_of_le (HOLD.out A hA) hb2.size⟩)
      clear hb2 HW HND HOLD
      obtain ⟨wa, hwa⟩ : ∃ wa, w2.alloc (.cells #[.int .u64 0, .int .u8 0, .string ⟨#[]⟩] 48) = wa := ⟨_, rfl⟩
      have hba : Below w2.heap.size w2 wa := hwa ▸ (Below.refl _ _).alloc (Nat.le_refl _) _
      have HRA := Lib.hid (show Row wa w2.heap.size 48 [.int .u64 0, .int .u8 0, .string ⟨#[]⟩] (0, 0) from hwa ▸ ent_new w2 _)
      have HBA := Lib.hid hba
      have f0 := HRA.out.loose 0
      have f1 := HRA.out.loose 1
      have f2 := HRA.out.loose 2
      have b0 := HRA.out.cell 0
      have b1 := HRA.out.cell 1
      have b2 := HRA.out.cell 2
      simp only [List.getElem?_cons_zero, List.getElem?_cons_succ] at b0 b1 b2
      obtain ⟨ws, hws⟩ : ∃ ws, ((wa.setCell ⟨w2.heap.size, 0, none⟩ (.int .u64 0)).setCell ⟨w2.heap.size, 1, none⟩ (.int .u8 0)).setCell ⟨w2.heap.size, 2, none⟩ (.string ⟨#[]⟩) = ws := ⟨_, rfl⟩
      have HBS := Lib.hid (show Below w2.heap.size w2 ws from hws ▸ ((hba.setCell (Nat.le_refl _) _).setCell (Nat.le_refl _) _).setCell (Nat.le_refl _) _)
      have HND3 := Lib.hid (HND2.out.keeps (w' := ws) (fun A hA => HBS.out.cell (p := ⟨A, 0, .none⟩) (HW2.out.2.2.2 A hA)))
      have HW3 := Lib.hid (show Row ws w1.heap.size 74 zeroWal (0, 0) ∧ Row ws (w1.heap.size + 1) 28 [.pointer none, .pointer (some ⟨w1.heap.size, 0, none⟩)] (0, 0) ∧ Below w.heap.size w ws from ⟨HW2.out.1.below HBS.out HW2.out.1.lt, HW2.out.2.1.below HBS.out HW2.out.2.1.lt, HW2.out.2.2.1.trans (HBS.out.mono HW2.out.2.2.1.size)⟩)
      clear HND2 HW2 hba
      go_wp2_with fail
      try rw [hws]
      clear hwa hws
      refine (wno_force HND3.out).mono ?_
      rintro e w3 ⟨rfl, rfl⟩
      go_wp2_with fail
      refine (wno_trim HND3.out n).mono ?_
      rintro e w3 ⟨rfl, rfl⟩
      go_wp2_with fail
      refine (wno_last HND3.out).mono ?_
      rintro e w3 ⟨rfl, rfl⟩
      go_wp2_with fail
      refine (wno_stable HND3.out).mono ?_
      rintro e w3 ⟨rfl, rfl⟩
      go_wp2_with fail
      refine (wno_first HND3.out).mono ?_
      rintro e w3 ⟨rfl, rfl⟩
      go_wp2_with fail
      refine (wno_from HND3.out n).mono ?_
      rintro e w3 ⟨rfl, rfl⟩
      go_wp2_with fail
      refine (wno_room HND3.out).mono ?_
      rintro e w3 ⟨rfl, rfl⟩
      go_wp2
      go_roundw
      case rel => exact ⟨k + 1, by omega, by go_num, HW3⟩
      case measure => simp [intOf]; omega
end Go.Proofs.YtjahkaockjhibaaDoor
