/-
  An act's text.
-/
import Derived.Test.YtbinfinfoobhaaaBlkC
import Derived.Laws.BitsAllLaws
namespace Go.Proofs.Ytbinfinfoobhaaa
open Go.RowKit

/-- How many bytes an act's text has. -/
def many (N : Int) : Nat := if N < 0 ∨ 300 < N then 300 else N.toNat
theorem many_le (N : Int) : many N ≤ 300 := by unfold many; split <;> omega
/-- A byte of it. -/
def byteOf (c i : Nat) : UInt8 := UInt8.ofNat (c + i / 64)
/-- The text. -/
def textOf (N : Int) (c : Nat) : ByteArray := ⟨((List.range (many N)).map (byteOf c)).toArray⟩
theorem textOf_size (N : Int) (c : Nat) : (textOf N c).size = many N := by
  show (((List.range (many N)).map (byteOf c)).toArray).size = _
  simp
/-- The bytes when k of n are there. -/
def told (c n k : Nat) : List UInt8 := (List.range k).map (byteOf c) ++ List.replicate (n - k) 0
theorem told_length (c n k : Nat) (h : k ≤ n) : (told c n k).length = n := by simp [told]; omega
theorem told_set (c n k : Nat) (h : k < n) : (byt (told c n k)).set k (.int .u8 ((byteOf c k).toNat : Int)) = byt (told c n (k + 1)) := by
  have e : (.int .u8 ((byteOf c k).toNat : Int) : Value) = (fun c : UInt8 => Value.int .u8 (c.toNat : Int)) (byteOf c k) := rfl
  unfold byt
  rw [e, ← List.map_set]
  congr 1
  unfold told
  rw [List.set_append_right _ _ (by simp), List.length_map, List.length_range, Nat.sub_self, List.range_succ, List.map_append, List.append_assoc]
  congr 1
  obtain ⟨m, hm⟩ : ∃ m, n - k = m + 1 := ⟨n - k - 1, by omega⟩
  rw [hm, show n - (k + 1) = m by omega, List.replicate_succ]
  rfl
theorem wrap_byte (c k : Nat) : IntKind.u8.wrap ((c : Int) + (k : Int) / 64) = ((byteOf c k).toNat : Int) := by
  unfold byteOf
  rw [UInt8.toNat_ofNat', IntKind.wrap_u8']
  omega

/-- An act in cells. -/
def actCells (what : Nat) (B N : Int) (c : Nat) (A : Option Addr) (n cap : Nat) : List Value := [.int .u8 (what : Int), .int .i64 B, .int .i64 N, .int .u8 (c : Int), .slice A n cap]

set_option maxRecDepth 100000 in
set_option maxHeartbeats 1000000 in
theorem text_any (what : Nat) (B N : Int) (c : Nat) (A : Option Addr) (n cap : Nat) (w : World) :
    Calls Try.prog 18 #[.agg (actCells what B N c A n cap).toArray] w fun e w' => e = .returned (.string (textOf N c)) ∧ Below w.heap.size w w' := by
  have HMK := Lib.hid (fun (i : Int) (hi : i = (many N : Int)) (w : World) => makeZeros (many N) (by have := many_le N; omega) i hi w)
  have HML := Lib.hid (many_le N)
  have hr0 := Row.new w 34 (actCells what B N c A n cap) (0, 0)
  have hb0 : Below w.heap.size w (w.alloc (.cells (actCells what B N c A n cap).toArray 34)) := (Below.refl _ _).alloc (Nat.le_refl _) _
  have hz0 : (w.alloc (.cells (actCells what B N c A n cap).toArray 34)).heap.size = w.heap.size + 1 := by simp
  have h2 : (w.alloc (.cells (actCells what B N c A n cap).toArray 34)).cell? ⟨w.heap.size, 2, none⟩ = some (.int .i64 N) := hr0.cell 2
  have HN := Lib.hid (show many N = if N < 0 ∨ 300 < N then 300 else N.toNat from rfl)
  have HTX := Lib.hid (show (⟨(told c (many N) (many N)).toArray⟩ : ByteArray) = textOf N c by simp [told, textOf])
  obtain ⟨X, hX⟩ : ∃ X, textOf N c = X := ⟨_, rfl⟩
  rw [hX] at HTX ⊢
  clear hX
  generalize many N = M at *
  show Calls Try.prog _ #[.agg #[.int .u8 (what : Int), .int .i64 B, .int .i64 N, .int .u8 (c : Int), .slice A n cap]] w _
  have hE : (actCells what B N c A n cap).toArray = #[.int .u8 (what : Int), .int .i64 B, .int .i64 N, .int .u8 (c : Int), .slice A n cap] := rfl
  rw [hE] at hr0 hb0 hz0 h2
  have HR0 := Lib.hid hr0
  have HB0 := Lib.hid hb0
  have HZ0 := Lib.hid hz0
  clear hr0 hb0 hz0 hE
  by_cases hN : N < 0 ∨ 300 < N
  · rcases hN with hN | hN
    · have hM3 : M = 300 := by have := HN.out; rw [if_pos (by omega)] at this; exact this
      have m3a : (300 : Int) ≤ (M : Int) := by omega
      clear HN
      have hmk := HMK.out 300 (by omega)
      clear hM3
      have m300 : (M : Int) ≤ 300 := by have := HML.out; omega
      go_enter Try.func18, Try.ntmps18
      go_wp2_with fail
      obtain ⟨w0, hw0⟩ : ∃ w0, w.alloc (.cells #[.int .u8 (what : Int), .int .i64 B, .int .i64 N, .int .u8 (c : Int), .slice A n cap] 34) = w0 := ⟨_, rfl⟩
      rw [hw0] at HR0 HB0 HZ0 ⊢
      clear hw0 hmk h2
      have HR1 := Lib.hid (HR0.out.alloc (.cells (byt (List.replicate M 0)).toArray 5))
      have HB1 := Lib.hid (HB0.out.alloc HB0.out.size (.cells (byt (List.replicate M 0)).toArray 5))
      have HG1 := Lib.hid (Row.new w0 5 (byt (List.replicate M 0)) (0, 0))
      rw [HZ0.out] at HG1
      go_loopw [5] (fun i wr => ∃ k : Nat, k ≤ M ∧ i = .int .i64 k ∧ Hid (Row wr (w.heap.size + 1) 5 (byt (told c M k)) (0, 0)) ∧ Hid (Row wr w.heap.size 34 [.int .u8 (what : Int), .int .i64 B, .int .i64 N, .int .u8 (c : Int), .slice A n cap] (0, 0)) ∧ Hid (Below w.heap.size w wr)) (fun i _ => M - (intOf i).toNat)
      case atStart => exact ⟨0, by omega, rfl, Lib.hid (by simpa [told] using HG1.out), HR1, HB1⟩
      case round =>
        obtain ⟨k, hk, rfl, HG, HR, HB⟩ := hrel
        by_cases hlt : k < M
        · have c3 : wr.cell? ⟨w.heap.size, 3, none⟩ = some (.int .u8 (c : Int)) := HR.out.cell 3
          have hwr := wrap_byte c k
          obtain ⟨u0, hu0⟩ : ∃ u0, wr.cell? ⟨w.heap.size + 1, k, none⟩ = some u0 := ⟨_, by rw [HG.out.cell]; exact List.getElem?_eq_getElem (by rw [byt_length, told_length _ _ _ hk]; exact hlt)⟩
          have hf := HG.out.loose k
          have HP := Lib.hid (HG.out.put k (.int .u8 ((byteOf c k).toNat : Int)))
          rw [told_set c M k hlt] at HP
          have HRF := Lib.hid (HR.out.far (p := ⟨w.heap.size + 1, k, none⟩) (by show w.heap.size ≠ w.heap.size + 1; omega) (.int .u8 ((byteOf c k).toNat : Int)))
          have HBF := Lib.hid (HB.out.setCell (p := ⟨w.heap.size + 1, k, none⟩) (by show w.heap.size ≤ w.heap.size + 1; omega) (.int .u8 ((byteOf c k).toNat : Int)))
          have hk3 : (k : Int) < 300 := by have := HML.out; omega
          have hw64 : IntKind.u8.wrap ((k : Int) / 64) = (k : Int) / 64 := by rw [IntKind.wrap_u8']; omega
          go_wp2
          go_roundw
          case rel => exact ⟨k + 1, by omega, by go_num, HP, HRF, HBF⟩
          case measure => simp [intOf]; omega
        · obtain rfl : k = M := by omega
          have hcv := text_bytes (T := 5) (some ⟨w.heap.size + 1, 0, none⟩) (told c k k) k k wr (told_length _ _ _ (Nat.le_refl _)) (fun _ => ⟨_, 0, _, _, rfl, HG.out, fun j _ => by rw [Nat.zero_add]⟩)
          rw [HTX.out] at hcv
          go_wp2
          go_ret
          exact ⟨rfl, HB.out⟩
    · have hM3 : M = 300 := by have := HN.out; rw [if_pos (by omega)] at this; exact this
      have m3a : (300 : Int) ≤ (M : Int) := by omega
      clear HN
      have hmk := HMK.out 300 (by omega)
      clear hM3
      have m300 : (M : Int) ≤ 300 := by have := HML.out; omega
      go_enter Try.func18, Try.ntmps18
      go_wp2_with fail
      obtain ⟨w0, hw0⟩ : ∃ w0, w.alloc (.cells #[.int .u8 (what : Int), .int .i64 B, .int .i64 N, .int .u8 (c : Int), .slice A n cap] 34) = w0 := ⟨_, rfl⟩
      rw [hw0] at HR0 HB0 HZ0 ⊢
      clear hw0 hmk h2
      have HR1 := Lib.hid (HR0.out.alloc (.cells (byt (List.replicate M 0)).toArray 5))
      have HB1 := Lib.hid (HB0.out.alloc HB0.out.size (.cells (byt (List.replicate M 0)).toArray 5))
      have HG1 := Lib.hid (Row.new w0 5 (byt (List.replicate M 0)) (0, 0))
      rw [HZ0.out] at HG1
      go_loopw [5] (fun i wr => ∃ k : Nat, k ≤ M ∧ i = .int .i64 k ∧ Hid (Row wr (w.heap.size + 1) 5 (byt (told c M k)) (0, 0)) ∧ Hid (Row wr w.heap.size 34 [.int .u8 (what : Int), .int .i64 B, .int .i64 N, .int .u8 (c : Int), .slice A n cap] (0, 0)) ∧ Hid (Below w.heap.size w wr)) (fun i _ => M - (intOf i).toNat)
      case atStart => exact ⟨0, by omega, rfl, Lib.hid (by simpa [told] using HG1.out), HR1, HB1⟩
      case round =>
        obtain ⟨k, hk, rfl, HG, HR, HB⟩ := hrel
        by_cases hlt : k < M
        · have c3 : wr.cell? ⟨w.heap.size, 3, none⟩ = some (.int .u8 (c : Int)) := HR.out.cell 3
          have hwr := wrap_byte c k
          obtain ⟨u0, hu0⟩ : ∃ u0, wr.cell? ⟨w.heap.size + 1, k, none⟩ = some u0 := ⟨_, by rw [HG.out.cell]; exact List.getElem?_eq_getElem (by rw [byt_length, told_length _ _ _ hk]; exact hlt)⟩
          have hf := HG.out.loose k
          have HP := Lib.hid (HG.out.put k (.int .u8 ((byteOf c k).toNat : Int)))
          rw [told_set c M k hlt] at HP
          have HRF := Lib.hid (HR.out.far (p := ⟨w.heap.size + 1, k, none⟩) (by show w.heap.size ≠ w.heap.size + 1; omega) (.int .u8 ((byteOf c k).toNat : Int)))
          have HBF := Lib.hid (HB.out.setCell (p := ⟨w.heap.size + 1, k, none⟩) (by show w.heap.size ≤ w.heap.size + 1; omega) (.int .u8 ((byteOf c k).toNat : Int)))
          have hk3 : (k : Int) < 300 := by have := HML.out; omega
          have hw64 : IntKind.u8.wrap ((k : Int) / 64) = (k : Int) / 64 := by rw [IntKind.wrap_u8']; omega
          go_wp2
          go_roundw
          case rel => exact ⟨k + 1, by omega, by go_num, HP, HRF, HBF⟩
          case measure => simp [intOf]; omega
        · obtain rfl : k = M := by omega
          have hcv := text_bytes (T := 5) (some ⟨w.heap.size + 1, 0, none⟩) (told c k k) k k wr (told_length _ _ _ (Nat.le_refl _)) (fun _ => ⟨_, 0, _, _, rfl, HG.out, fun j _ => by rw [Nat.zero_add]⟩)
          rw [HTX.out] at hcv
          go_wp2
          go_ret
          exact ⟨rfl, HB.out⟩
  · obtain ⟨m, rfl⟩ : ∃ m : Nat, N = m := ⟨N.toNat, by omega⟩
    have hMm : M = m := by have := HN.out; rw [if_neg hN] at this; omega
    subst hMm
    clear HN
    have hN1 : (M : Int) ≤ 300 := by omega
    clear hN
    have hmk := HMK.out (M : Int) (by omega)
    have m300 : ((M : Int) : Int) ≤ 300 := by have := HML.out; omega
    go_enter Try.func18, Try.ntmps18
    go_wp2_with fail
    obtain ⟨w0, hw0⟩ : ∃ w0, w.alloc (.cells #[.int .u8 (what : Int), .int .i64 B, .int .i64 (M : Int), .int .u8 (c : Int), .slice A n cap] 34) = w0 := ⟨_, rfl⟩
    rw [hw0] at HR0 HB0 HZ0 ⊢
    clear hw0 hmk h2
    have HR1 := Lib.hid (HR0.out.alloc (.cells (byt (List.replicate M 0)).toArray 5))
    have HB1 := Lib.hid (HB0.out.alloc HB0.out.size (.cells (byt (List.replicate M 0)).toArray 5))
    have HG1 := Lib.hid (Row.new w0 5 (byt (List.replicate M 0)) (0, 0))
    rw [HZ0.out] at HG1
    go_loopw [5] (fun i wr => ∃ k : Nat, k ≤ M ∧ i = .int .i64 k ∧ Hid (Row wr (w.heap.size + 1) 5 (byt (told c M k)) (0, 0)) ∧ Hid (Row wr w.heap.size 34 [.int .u8 (what : Int), .int .i64 B, .int .i64 (M : Int), .int .u8 (c : Int), .slice A n cap] (0, 0)) ∧ Hid (Below w.heap.size w wr)) (fun i _ => M - (intOf i).toNat)
    case atStart => exact ⟨0, by omega, rfl, Lib.hid (by simpa [told] using HG1.out), HR1, HB1⟩
    case round =>
      obtain ⟨k, hk, rfl, HG, HR, HB⟩ := hrel
      by_cases hlt : k < M
      · have c3 : wr.cell? ⟨w.heap.size, 3, none⟩ = some (.int .u8 (c : Int)) := HR.out.cell 3
        have hwr := wrap_byte c k
        obtain ⟨u0, hu0⟩ : ∃ u0, wr.cell? ⟨w.heap.size + 1, k, none⟩ = some u0 := ⟨_, by rw [HG.out.cell]; exact List.getElem?_eq_getElem (by rw [byt_length, told_length _ _ _ hk]; exact hlt)⟩
        have hf := HG.out.loose k
        have HP := Lib.hid (HG.out.put k (.int .u8 ((byteOf c k).toNat : Int)))
        rw [told_set c M k hlt] at HP
        have HRF := Lib.hid (HR.out.far (p := ⟨w.heap.size + 1, k, none⟩) (by show w.heap.size ≠ w.heap.size + 1; omega) (.int .u8 ((byteOf c k).toNat : Int)))
        have HBF := Lib.hid (HB.out.setCell (p := ⟨w.heap.size + 1, k, none⟩) (by show w.heap.size ≤ w.heap.size + 1; omega) (.int .u8 ((byteOf c k).toNat : Int)))
        have hk3 : (k : Int) < 300 := by have := HML.out; omega
        have hkl : (k : Int) < (M : Int) := by omega
        have hw64 : IntKind.u8.wrap ((k : Int) / 64) = (k : Int) / 64 := by rw [IntKind.wrap_u8']; omega
        go_wp2
        go_roundw
        case rel => exact ⟨k + 1, by omega, by go_num, HP, HRF, HBF⟩
        case measure => simp [intOf]; omega
      · obtain rfl : k = M := by omega
        have hcv := text_bytes (T := 5) (some ⟨w.heap.size + 1, 0, none⟩) (told c k k) k k wr (told_length _ _ _ (Nat.le_refl _)) (fun _ => ⟨_, 0, _, _, rfl, HG.out, fun j _ => by rw [Nat.zero_add]⟩)
        rw [HTX.out] at hcv
        go_wp2
        go_ret
        exact ⟨rfl, HB.out⟩

end Go.Proofs.Ytbinfinfoobhaaa
