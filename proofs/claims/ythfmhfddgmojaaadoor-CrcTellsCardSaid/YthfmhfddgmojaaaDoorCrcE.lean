/-
  The statements' head over package crc.
-/
import Derived.Test.YthfmhfddgmojaaaDoorCrcD
import Derived.Lib.SlBytesConst
namespace Go.Proofs.YthfmhfddgmojaaaDoor
open Go.RowKit

theorem more_n {T : TypeId} (A : Option Addr) (l : List UInt8) (n c s m : Nat) (w : World) (hn : l.length = n) (hT : Tab w) (hr : Reads T w A l) (hs : s < 4294967296) (hl : n ≤ 140737488355328) (hm : more_ s l = m) :
    Calls Tryd.prog 8 #[.int .u32 (s : Int), .slice A n c] w fun e w' => e = .returned (.int .u32 (m : Int)) ∧ Below w.heap.size w w' := by
  subst hn; subst hm
  exact more_any A l c s w hT hr hs hl

theorem sum_n {T : TypeId} (A : Option Addr) (l : List UInt8) (n c m : Nat) (w : World) (hn : l.length = n) (hT : Tab w) (hr : Reads T w A l) (hl : n ≤ 140737488355328) (hm : more_ 0 l = m) :
    Calls Tryd.prog 13 #[.slice A n c] w fun e w' => e = .returned (.int .u32 (m : Int)) ∧ Below w.heap.size w w' := by
  subst hn; subst hm
  exact sum_any A l c w hT hr hl

def nine : List UInt8 := [49, 50, 51, 52, 53, 54, 55, 56, 57]
theorem sum_nine : more_ 0 nine = 3808858755 := by decide +kernel
theorem sum_part : more_ (more_ 0 [49, 50, 51, 52]) [53, 54, 55, 56, 57] = 3808858755 := by rw [← more_app]; exact sum_nine
theorem zeros_sealed : Sealed [0, 0, 0, 0] := ⟨by decide, by decide +kernel⟩

set_option maxHeartbeats 2000000 in
theorem head_any (w : World) (hT : Tab w) :
    Calls Tryd.prog 7 #[] w fun e w' => e = .returned (.bool true) ∧ Below w.heap.size w w' := by
  have HT := Lib.hid hT
  have hm4 := make_bytes 4 (by omega) 4 rfl
  have hcv := fun (w : World) (C : Array Value) (n c : Nat) => Lib.run_convert_bytes_const (P := Tryd.prog) w 22 5 C n c Tryd.underlying22 Tryd.underlying5
  have hm3 := make_bytes 3 (by omega) 3 rfl
  clear hT
  go_enter Tryd.func7, Tryd.ntmps7
  go_wp2_with fail
  refine (show Calls Tryd.prog 10 #[.slice (some ⟨w.heap.size, 0, none⟩) 4 4] (w.alloc (.cells (byt [0, 0, 0, 0]).toArray 5)) (NewT (w.alloc (.cells (byt [0, 0, 0, 0]).toArray 5)) 0 []) from
    open_takes _ [0, 0, 0, 0] 4 4 _ rfl (HT.out.keeps ((Below.refl _ _).alloc (Nat.le_refl _) _)) (row_reads (Row.new w 5 _ (0, 0))) (by omega) (by omega) (by omega) zeros_sealed).mono ?_
  rintro e w1 ⟨g, cap, rfl, _, _, _, hb1⟩
  have HB1 := Lib.hid (((Below.refl w.heap.size w).alloc (Nat.le_refl _) (.cells (byt [0, 0, 0, 0]).toArray 5)).trans (hb1.mono (by simp)))
  clear hb1
  go_wp2_with fail
  refine (open_short _ 3 3 _ (by omega)).mono ?_
  rintro e w2 ⟨rfl, rfl⟩
  go_wp2_with fail
  refine (sum_n none [] 0 0 0 _ rfl (HT.out.keeps (HB1.out.alloc HB1.out.size _)) (Reads.nil (T := 5)) (by omega) (by decide)).mono ?_
  rintro e w3 ⟨rfl, hb3⟩
  have HB3 := Lib.hid ((HB1.out.alloc HB1.out.size (.cells (byt [0, 0, 0]).toArray 5)).trans (hb3.mono (by have := HB1.out.size; simp; omega)))
  clear hb3
  go_wp2_with fail
  refine (sum_n _ nine 9 9 3808858755 _ rfl (HT.out.keeps (HB3.out.alloc HB3.out.size _)) (row_reads (Row.new w3 5 (byt nine) (9, 10))) (by omega) sum_nine).mono ?_
  rintro e w4 ⟨rfl, hb4⟩
  have HB4 := Lib.hid ((HB3.out.alloc HB3.out.size (.cells (byt nine).toArray 5 (9, 10))).trans (hb4.mono (by have := HB3.out.size; simp; omega)))
  clear hb4
  go_wp2_with fail
  refine (sum_n _ [49, 50, 51, 52] 4 4 (more_ 0 [49, 50, 51, 52]) _ rfl (HT.out.keeps (HB4.out.alloc HB4.out.size _)) (row_reads (Row.new w4 5 (byt [49, 50, 51, 52]) (4, 5))) (by omega) rfl).mono ?_
  rintro e w5 ⟨rfl, hb5⟩
  have HB5 := Lib.hid ((HB4.out.alloc HB4.out.size (.cells (byt [49, 50, 51, 52]).toArray 5 (4, 5))).trans (hb5.mono (by have := HB4.out.size; simp; omega)))
  clear hb5
  have HP := Lib.hid sum_part
  have HPL := Lib.hid (more_lt 0 [49, 50, 51, 52] (by decide))
  generalize more_ 0 [49, 50, 51, 52] = p at *
  go_wp2_with fail
  refine (more_n _ [53, 54, 55, 56, 57] 5 5 p 3808858755 _ rfl (HT.out.keeps (HB5.out.alloc HB5.out.size _)) (row_reads (Row.new w5 5 (byt [53, 54, 55, 56, 57]) (5, 6))) HPL.out (by omega) HP.out).mono ?_
  rintro e w6 ⟨rfl, hb6⟩
  have HB6 := Lib.hid ((HB5.out.alloc HB5.out.size (.cells (byt [53, 54, 55, 56, 57]).toArray 5 (5, 6))).trans (hb6.mono (by have := HB5.out.size; simp; omega)))
  clear hb6
  go_wp2_with fail
  go_ret
  exact ⟨rfl, HB6.out⟩

end Go.Proofs.YthfmhfddgmojaaaDoor
