/-
  slices.Sort of numbers of 64 bits, first part: a row that is turned in place; less; insertion.
-/
import Derived.Test.YtbkhojopiimbdaaWaiBase
import Derived.Sort.LotD3
import Derived.Sort.LotD1
import Derived.Sort.LotA
import Derived.Sort.LotB
import Derived.Sort.LotC
import Derived.BigRegion
import Derived.Deep.QuietTactic
namespace Go.Proofs.Ytbkhojopiimbdaa
open Go.RowKit

def ltN (x y : Nat) : Bool := decide (x < y)
theorem swo_ltN : Sort.SWO ltN where
  irrefl x := by simp [ltN]
  trans x y z := by simp only [ltN, decide_eq_true_eq]; omega
  ntrans x y z := by simp only [ltN, decide_eq_false_iff_not]; omega

/-- A row of numbers that is turned in place: the rest of its block, and all else, stays (but for new blocks). -/
structure SD (w0 : World) (g : Nat) (rest : List Value) (d : Array Nat) (wr : World) : Prop where
  row : Row wr g 23 (nv d.toList ++ rest) (0, 0)
  grow : w0.grownBy wr (some g)

section
variable {w0 wr w' : World} {g : Nat} {rest : List Value} {d : Array Nat}
theorem nv_at (d : Array Nat) (rest : List Value) (j : Nat) (hj : j < d.size) : (nv d.toList ++ rest)[j]? = some (.int .u64 (d[j]! : Int)) := by
  rw [List.getElem?_append_left (by rw [nv_length]; simpa using hj), nv_get _ j (by simpa using hj), Array.getElem_toList, getElem!_pos d j hj]
theorem SD.cell (h : SD w0 g rest d wr) {j : Nat} (hj : j < d.size) : wr.cell? ⟨g, j, none⟩ = some (.int .u64 (d[j]! : Int)) := by rw [h.row.cell, nv_at d rest j hj]
theorem SD.free (h : SD w0 g rest d wr) (j : Nat) : wr.frozen? ⟨g, j, none⟩ = false := h.row.loose j
theorem SD.drewN (h : SD w0 g rest d wr) (n : Nat) : SD w0 g rest d (wr.drewN n) := ⟨h.row.drewN n, only_trans h.grow (only_drawn wr n _)⟩
theorem SD.drew (h : SD w0 g rest d wr) : SD w0 g rest d wr.drew := h.drewN 1
theorem SD.keep (h : SD w0 g rest d wr) (hb : Below wr.heap.size wr w') : SD w0 g rest d w' := ⟨h.row.below hb h.row.lt, only_trans h.grow (only_below hb _)⟩
theorem nv_set (d : Array Nat) (rest : List Value) (j x : Nat) (hj : j < d.size) : (nv d.toList ++ rest).set j (.int .u64 (x : Int)) = nv (d.setIfInBounds j x).toList ++ rest := by
  rw [List.set_append_left _ _ (by rw [nv_length]; simpa using hj), Array.toList_setIfInBounds]
  simp [nv, List.map_set]
theorem SD.set (h : SD w0 g rest d wr) {j : Nat} (hj : j < d.size) (x : Nat) : SD w0 g rest (d.setIfInBounds j x) (wr.setCell ⟨g, j, none⟩ (.int .u64 (x : Int))) := by
  refine ⟨?_, only_put h.grow j _⟩
  have := h.row.put j (.int .u64 (x : Int))
  rwa [nv_set d rest j x hj] at this
theorem SD.swp (h : SD w0 g rest d wr) {i j : Nat} (hi : i < d.size) (hj : j < d.size) : SD w0 g rest (Sort.swp d i j) ((wr.setCell ⟨g, i, none⟩ (.int .u64 (d[j]! : Int))).setCell ⟨g, j, none⟩ (.int .u64 (d[i]! : Int))) :=
  (h.set hi _).set (by simpa using hj) _
end

set_option maxRecDepth 100000 in
set_option maxHeartbeats 400000 in
theorem nan_any (x : Nat) (w : World) : Calls Try.prog 35 #[.int .u64 (x : Int)] w fun e w' => e = .returned (.bool false) ∧ w' = w := by
  go_enter Try.func35, Try.ntmps35
  go_wp2
  go_ret
  exact ⟨by simp, rfl⟩

set_option maxRecDepth 100000 in
set_option maxHeartbeats 400000 in
theorem less_any (x y : Nat) (w : World) : Calls Try.prog 25 #[.int .u64 (x : Int), .int .u64 (y : Int)] w fun e w' => e = .returned (.bool (ltN x y)) ∧ w' = w := by
  have HD := Lib.hid (show decide (x < y) = ltN x y from rfl)
  go_enter Try.func25, Try.ntmps25
  go_wp2_with (go_at_call 35; refine (nan_any _ _).mono ?_; rintro e w' ⟨rfl, rfl⟩)
  go_ret
  exact ⟨by rw [← HD.out]; first | rfl | simp, rfl⟩

/-- less, where it is known. -/
theorem less_is {x y : Nat} {b : Bool} (h : ltN x y = b) (w : World) : Calls Try.prog 25 #[.int .u64 (x : Int), .int .u64 (y : Int)] w fun e w' => e = .returned (.bool b) ∧ w' = w := by
  rw [← h]; exact less_any x y w

theorem insInner_go {a j : Nat} {d : Array Nat} (h : a < j + 1) (h2 : ltN d[j + 1]! d[j]! = true) : Sort.insInner ltN a (j + 1) d = Sort.insInner ltN a j (Sort.swp d (j + 1) j) := by
  rw [Sort.insInner, if_pos (by rw [decide_eq_true h, h2]; rfl)]
theorem insInner_no {a j : Nat} {d : Array Nat} (h : ltN d[j + 1]! d[j]! = false) : Sort.insInner ltN a (j + 1) d = d := by
  rw [Sort.insInner, if_neg (by rw [h]; simp)]
theorem insInner_end {a j : Nat} {d : Array Nat} (h : j ≤ a) : Sort.insInner ltN a j d = d := by
  cases j with
  | zero => rfl
  | succ j => rw [Sort.insInner, if_neg (by rw [decide_eq_false (by omega)]; simp)]
theorem insOuter_go {a b i : Nat} {d : Array Nat} (h : i < b) : Sort.insOuter ltN a b i d = Sort.insOuter ltN a b (i + 1) (Sort.insInner ltN a i d) := by
  rw [Sort.insOuter, if_pos h]
theorem insOuter_end {a b i : Nat} {d : Array Nat} (h : ¬ i < b) : Sort.insOuter ltN a b i d = d := by
  rw [Sort.insOuter, if_neg h]

set_option maxRecDepth 100000 in
set_option maxHeartbeats 4000000 in
theorem insertion_any (w0 : World) (g n c a b : Nat) (rest : List Value) (d : Array Nat) (w : World) (h : SD w0 g rest d w) (hd : d.size = n) (hb : b ≤ n) (hn : n ≤ 100000) (ha : a ≤ b) :
    Calls Try.prog 19 #[.slice (some ⟨g, 0, none⟩) n c, .int .i64 (a : Int), .int .i64 (b : Int)] w fun e w' => e = .returned (.tuple #[]) ∧ SD w0 g rest (Sort.insertionSort ltN d a b) w' := by
  have HS := Lib.hid h
  have HD := Lib.hid hd
  have HRR := Lib.hid (show Sort.insOuter ltN a b (a + 1) d = Sort.insertionSort ltN d a b from rfl)
  obtain ⟨R, hR⟩ : ∃ R, Sort.insertionSort ltN d a b = R := ⟨_, rfl⟩
  rw [hR] at HRR ⊢
  clear hR h hd
  go_enter Try.func19, Try.ntmps19
  go_wp2
  go_loopw [6] (fun s wr => ∃ (i : Nat) (d : Array Nat), a + 1 ≤ i ∧ i ≤ n + 1 ∧ s = .int .i64 i ∧ Hid (d.size = n) ∧ Hid (SD w0 g rest d wr) ∧ Hid (Sort.insOuter ltN a b i d = R)) (fun s _ => n + 1 - (intOf s).toNat)
  case atStart => exact ⟨a + 1, d, by omega, by omega, by go_num, HD, HS, HRR⟩
  case round =>
    obtain ⟨i, d, hi, hin, rfl, HD, HS, HR⟩ := hrel
    by_cases hib : i < b
    · obtain ⟨D1, hD1⟩ : ∃ D1, Sort.insInner ltN a i d = D1 := ⟨_, rfl⟩
      have HR1 := Lib.hid (show Sort.insOuter ltN a b (i + 1) D1 = R by rw [← hD1, ← insOuter_go hib]; exact HR.out)
      have HI := Lib.hid hD1
      clear hD1
      obtain ⟨wo, hwo⟩ : ∃ wo : World, wo = wr := ⟨_, rfl⟩
      rw [← hwo] at HS ⊢
      clear hwo
      go_wp2_with fail
      go_loopw [7] (fun s wr => ∃ (j : Nat) (d : Array Nat), j ≤ i ∧ s = .int .i64 j ∧ Hid (d.size = n) ∧ Hid (SD w0 g rest d wr) ∧ Hid (Sort.insInner ltN a j d = D1)) (fun s _ => (intOf s).toNat)
      case atStart => exact ⟨i, d, Nat.le_refl _, rfl, HD, HS, HI⟩
      case round =>
        obtain ⟨j, d, hji, rfl, HD, HS, HI⟩ := hrel
        by_cases hja : a < j
        · obtain ⟨k, rfl⟩ : ∃ k, j = k + 1 := ⟨j - 1, by omega⟩
          have g1 := HS.out.cell (j := k + 1) (by rw [HD.out]; omega)
          have g2 := HS.out.cell (j := k) (by rw [HD.out]; omega)
          have f1 := HS.out.free (k + 1)
          have f2 := HS.out.free k
          have HGO := Lib.hid (fun (h2 : ltN d[k + 1]! d[k]! = true) => insInner_go (d := d) hja h2)
          have HNO := Lib.hid (fun (h2 : ltN d[k + 1]! d[k]! = false) => insInner_no (a := a) (d := d) h2)
          have HSW := Lib.hid (fun wx (hx : SD w0 g rest d wx) => hx.swp (i := k + 1) (j := k) (by rw [HD.out]; omega) (by rw [HD.out]; omega))
          obtain ⟨x, hx⟩ : ∃ x, d[k + 1]! = x := ⟨_, rfl⟩
          obtain ⟨y, hy⟩ : ∃ y, d[k]! = y := ⟨_, rfl⟩
          simp only [hx, hy] at g1 g2 HGO HNO HSW
          have HX := Lib.hid hx
          have HY := Lib.hid hy
          clear hx hy
          have i1 : (0 : Int) ≤ (k : Int) := by omega
          have i2 : (k : Int) + 1 < (n : Int) := by omega
          have i3 : (k : Int) < (n : Int) := by omega
          have t1 : ((k : Int) + 1).toNat = k + 1 := by omega
          have gj : (a : Int) < (k : Int) + 1 := by omega
          cases hl : ltN x y
          · have HL := Lib.hid (fun w => less_is hl w)
            have hD : d = D1 := by rw [← HI.out, HNO.out hl]
            subst hD
            clear hl
            go_wp2_with (go_quiet ((go_at_call 25; exact Calls.quiet_of_same (HL.out _))))
            go_wp2
            go_roundw
            case rel => exact ⟨i + 1, d, by omega, by omega, by go_num, HD, Lib.hid (HS.out.drewN _), HR1⟩
            case measure => simp [intOf]; omega
          · have HL := Lib.hid (fun w => less_is hl w)
            have HI2 := Lib.hid (show Sort.insInner ltN a k (Sort.swp d (k + 1) k) = D1 by rw [← HI.out, HGO.out hl])
            clear hl
            go_wp2_with (go_quiet ((go_at_call 25; exact Calls.quiet_of_same (HL.out _))))
            go_wp2_with fail
            obtain ⟨wq, hwq⟩ : ∃ wq, wr.drewN nq = wq := ⟨_, rfl⟩
            have HSQ := Lib.hid (show SD w0 g rest d wq by rw [← hwq]; exact HS.out.drewN nq)
            rw [hwq]
            clear g1 g2 f1 f2 hwq
            have HG := Lib.hid (HSW.out _ HSQ.out.drew)
            have g1 := HSQ.out.cell (j := k + 1) (by rw [HD.out]; omega)
            have g2 := HSQ.out.cell (j := k) (by rw [HD.out]; omega)
            rw [HX.out] at g1
            rw [HY.out] at g2
            have f1 := HSQ.out.free (k + 1)
            have f2 := HSQ.out.free k
            go_region
            all_goals
              go_wp2
              go_roundw
              case rel => exact ⟨k, _, by omega, by go_num, Lib.hid (by rw [Sort.size_swp]; exact HD.out), Lib.hid HG.out, HI2⟩
              case measure => simp [intOf]
        · have hja2 : decide ((a : Int) < (j : Int)) = false := decide_eq_false (by omega)
          have hD : d = D1 := by rw [← HI.out, insInner_end (by omega)]
          subst hD
          go_wp2_with (go_quiet (fail))
          go_wp2
          go_roundw
          case rel => exact ⟨i + 1, d, by omega, by omega, by go_num, HD, Lib.hid (HS.out.drewN _), HR1⟩
          case measure => simp [intOf]; omega
    · have HE := Lib.hid (show d = R by rw [← HR.out, insOuter_end hib])
      go_wp2
      go_end0
      exact ⟨rfl, by rw [← HE.out]; exact HS.out⟩

end Go.Proofs.Ytbkhojopiimbdaa
