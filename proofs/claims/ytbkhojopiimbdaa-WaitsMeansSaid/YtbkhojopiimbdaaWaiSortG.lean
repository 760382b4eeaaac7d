/-
  slices.Sort of numbers of 64 bits, eighth part: a length in bits, the next power of two, the random numbers, the breaking of patterns.
-/
import Derived.Test.YtbkhojopiimbdaaWaiSortI
import Derived.Lib.BitFns
import Derived.Lib.Tables
import Derived.Laws.Bits64
import Derived.Laws.Bits64b
import Derived.Sort.Row
namespace Go.Proofs.Ytbkhojopiimbdaa
open Go.RowKit

set_option maxRecDepth 100000 in
/-- The table of lengths, as the turned program spells it. -/
theorem fold_table : (⟨((List.append ([0, 1, 2, 2, 3, 3, 3, 3, 4, 4, 4, 4, 4, 4, 4, 4, 5, 5, 5, 5, 5, 5, 5, 5, 5, 5, 5, 5, 5, 5, 5, 5, 6, 6, 6, 6, 6, 6, 6, 6, 6, 6, 6, 6, 6, 6, 6, 6, 6, 6, 6, 6, 6, 6, 6, 6, 6, 6, 6, 6, 6, 6, 6, 6] : List UInt8) [7, 7, 7, 7, 7, 7, 7, 7, 7, 7, 7, 7, 7, 7, 7, 7, 7, 7, 7, 7, 7, 7, 7, 7, 7, 7, 7, 7, 7, 7, 7, 7, 7, 7, 7, 7, 7, 7, 7, 7, 7, 7, 7, 7, 7, 7, 7, 7, 7, 7, 7, 7, 7, 7, 7, 7, 7, 7, 7, 7, 7, 7, 7, 7]).append (([8, 8, 8, 8, 8, 8, 8, 8, 8, 8, 8, 8, 8, 8, 8, 8, 8, 8, 8, 8, 8, 8, 8, 8, 8, 8, 8, 8, 8, 8, 8, 8, 8, 8, 8, 8, 8, 8, 8, 8, 8, 8, 8, 8, 8, 8, 8, 8, 8, 8, 8, 8, 8, 8, 8, 8, 8, 8, 8, 8, 8, 8, 8, 8] : List UInt8).append [8, 8, 8, 8, 8, 8, 8, 8, 8, 8, 8, 8, 8, 8, 8, 8, 8, 8, 8, 8, 8, 8, 8, 8, 8, 8, 8, 8, 8, 8, 8, 8, 8, 8, 8, 8, 8, 8, 8, 8, 8, 8, 8, 8, 8, 8, 8, 8, 8, 8, 8, 8, 8, 8, 8, 8, 8, 8, 8, 8, 8, 8, 8, 8])).toArray⟩ : ByteArray) = Lib.len8tab := rfl

/-- How many bits a small number has. -/
theorem bits_small : ∀ x : Fin 1101, Lib.bitLen x.val ≤ 11 ∧ x.val < 2 ^ Lib.bitLen x.val ∧ (0 < x.val → 2 ^ Lib.bitLen x.val ≤ 2 * x.val) := by decide +kernel

set_option maxRecDepth 100000 in
set_option maxHeartbeats 2000000 in
theorem len64_any (x : Nat) (hx : x ≤ 1100) (w : World) : Calls Try.prog 29 #[.int .u64 (x : Int)] w fun e w' => e = .returned (.int .i64 ((Lib.bitLen x : Nat) : Int)) ∧ w' = w := by
  have h1 : ¬ ((4294967296 : Int) ≤ (x : Int)) := by omega
  have h2 : ¬ ((65536 : Int) ≤ (x : Int)) := by omega
  by_cases h3 : 256 ≤ x
  · have h4 : (256 : Int) ≤ (x : Int) := by omega
    obtain ⟨z, hz⟩ : ∃ z, x / 256 = z := ⟨_, rfl⟩
    have ez : (x : Int) / 256 = (z : Int) := by omega
    have z8 : (z : Int) % 256 = (z : Int) := by omega
    have z9 : (z : Int) ≤ 255 := by omega
    have zw : IntKind.u8.wrap (z : Int) = (z : Int) := by rw [IntKind.wrap_u8]; omega
    have s := Lib.bitLen_shift8 x h3 (by omega)
    rw [hz] at s
    have l := Lib.bitLen_le8' (z : Int) (by omega) (by omega)
    have HE := Lib.len8_of (z : Int) (by omega) (by omega)
    rw [Int.toNat_natCast] at HE l
    obtain ⟨q, hq⟩ : ∃ q, Lib.bitLen z = q := ⟨_, rfl⟩
    rw [hq] at s l HE
    rw [s]
    have hq8 : (q : Int) ≤ 8 := by omega
    obtain ⟨m, hm⟩ : ∃ m, 8 + q = m := ⟨_, rfl⟩
    rw [hm]
    have HQ := Lib.hid (show (8 : Int) + (q : Int) = (m : Int) by omega)
    clear s hq hz hm l
    go_enter Try.func29, Try.ntmps29
    rw [fold_table]
    go_wp2_with fail
    go_ret
    exact ⟨by rw [← HQ.out]; rfl, rfl⟩
  · have h4 : ¬ ((256 : Int) ≤ (x : Int)) := by omega
    have z8 : (x : Int) % 256 = (x : Int) := by omega
    have z9 : (x : Int) ≤ 255 := by omega
    have zw : IntKind.u8.wrap (x : Int) = (x : Int) := by rw [IntKind.wrap_u8]; omega
    have l := Lib.bitLen_le8' (x : Int) (by omega) (by omega)
    have HE := Lib.len8_of (x : Int) (by omega) (by omega)
    rw [Int.toNat_natCast] at HE l
    obtain ⟨q, hq⟩ : ∃ q, Lib.bitLen x = q := ⟨_, rfl⟩
    rw [hq] at l HE ⊢
    clear hq
    go_enter Try.func29, Try.ntmps29
    rw [fold_table]
    go_wp2_with fail
    go_ret
    exact ⟨rfl, rfl⟩

set_option maxRecDepth 100000 in
set_option maxHeartbeats 2000000 in
theorem len_any (x : Nat) (hx : x ≤ 1100) (w : World) : Calls Try.prog 17 #[.int .u64 (x : Int)] w fun e w' => e = .returned (.int .i64 ((Lib.bitLen x : Nat) : Int)) ∧ w' = w := by
  have HL := Lib.hid (fun w => len64_any x hx w)
  clear hx
  go_enter Try.func17, Try.ntmps17
  go_wp2_with (go_at_call 29; refine (HL.out _).mono ?_; rintro e w' ⟨rfl, rfl⟩)
  go_ret
  exact ⟨rfl, rfl⟩

def Pow2 (x : Nat) (w : World) (e : Ending) (wx : World) : Prop := ∃ p : Nat, e = .returned (.int .u64 (p : Int)) ∧ 1 ≤ p ∧ p ≤ 2 * x ∧ wx = w
set_option maxRecDepth 100000 in
set_option maxHeartbeats 2000000 in
theorem next2_any (x : Nat) (h0 : 0 < x) (hx : x ≤ 1100) (w : World) : Calls Try.prog 31 #[.int .i64 (x : Int)] w (Pow2 x w) := by
  have HL := Lib.hid (fun w => len_any x hx w)
  obtain ⟨hb1, hb2, hb3⟩ := bits_small ⟨x, by omega⟩
  simp only [] at hb1 hb2 hb3
  have hb4 := hb3 h0
  clear hb3
  obtain ⟨k, hk⟩ : ∃ k, Lib.bitLen x = k := ⟨_, rfl⟩
  rw [hk] at HL hb1 hb2 hb4
  obtain ⟨p, hp⟩ : ∃ p : Nat, 2 ^ k = p := ⟨_, rfl⟩
  rw [hp] at hb2 hb4
  have hw : IntKind.u64.wrap ((2 : Int) ^ k) = (p : Int) := by
    rw [IntKind.wrap_u64, show ((2 : Int) ^ k) = ((2 ^ k : Nat) : Int) by push_cast; rfl, hp]
    omega
  clear hk hp
  go_enter Try.func31, Try.ntmps31
  go_wp2_with (go_at_call 17; refine (HL.out _).mono ?_; rintro e w' ⟨rfl, rfl⟩)
  go_ret
  exact ⟨p, rfl, by omega, hb4, rfl⟩

theorem only_aside {a w : World} {g s : Nat} (h : a.grownBy w (some g)) (hs : a.heap.size ≤ s) (i : Nat) (u : Value) : a.grownBy (w.setCell ⟨s, i, none⟩ u) (some g) :=
  ⟨h.os, h.tape, h.output, by simpa [World.setCell] using h.size, fun k hk hn => (Below.heap_setCell w ⟨s, i, none⟩ u k (fun e => by have : k = s := e; omega)).trans (h.block k hk hn)⟩

/-- The row beside the random number's cell. -/
structure XS (w0 : World) (g : Nat) (rest : List Value) (d : Array Nat) (s r : Nat) (wx : World) : Prop where
  sd : SD w0 g rest d wx
  row : Row wx s 65 [.int .u64 (r : Int)] (0, 0)
  new : w0.heap.size ≤ s
  far : g ≠ s
  small : r < 18446744073709551616
section
variable {w0 wx : World} {g s r : Nat} {rest : List Value} {d : Array Nat}
theorem XS.drewN (h : XS w0 g rest d s r wx) (n : Nat) : XS w0 g rest d s r (wx.drewN n) := ⟨h.sd.drewN n, h.row.drewN n, h.new, h.far, h.small⟩
theorem XS.cell (h : XS w0 g rest d s r wx) : wx.cell? ⟨s, 0, none⟩ = some (.int .u64 (r : Int)) := by rw [h.row.cell]; rfl
theorem XS.free (h : XS w0 g rest d s r wx) : wx.frozen? ⟨s, 0, none⟩ = false := h.row.loose 0
theorem XS.put (h : XS w0 g rest d s r wx) (q : Nat) (hq : q < 18446744073709551616) : XS w0 g rest d s q (wx.setCell ⟨s, 0, none⟩ (.int .u64 (q : Int))) :=
  ⟨⟨h.sd.row.far h.far _, only_aside h.sd.grow h.new 0 _⟩, h.row.put 0 _, h.new, h.far, hq⟩
theorem XS.swp (h : XS w0 g rest d s r wx) {i j : Nat} (hi : i < d.size) (hj : j < d.size) : XS w0 g rest (Sort.swp d i j) s r ((wx.setCell ⟨g, i, none⟩ (.int .u64 (d[j]! : Int))).setCell ⟨g, j, none⟩ (.int .u64 (d[i]! : Int))) :=
  ⟨h.sd.swp hi hj, (h.row.far (Ne.symm h.far) _).far (Ne.symm h.far) _, h.new, h.far, h.small⟩
end

def NextP (w0 : World) (g : Nat) (rest : List Value) (d : Array Nat) (s p : Nat) (e : Ending) (wx : World) : Prop :=
  ∃ r o : Nat, e = .returned (.int .u64 (r : Int)) ∧ bits .and .u64 (r : Int) ((p : Int) - 1) = (o : Int) ∧ o < p ∧ XS w0 g rest d s r wx

theorem cell_twice (w : World) (s : Nat) (v v' : Value) : (w.setCell ⟨s, 0, none⟩ v).setCell ⟨s, 0, none⟩ v' = w.setCell ⟨s, 0, none⟩ v' := by
  rw [Sort.setCell_eq, Sort.setCell_eq, Sort.mapBlock_mapBlock, Sort.setCell_eq]
  congr 1
  funext c
  simp

set_option maxRecDepth 100000 in
set_option maxHeartbeats 4000000 in
theorem next_any (w0 : World) (g : Nat) (rest : List Value) (d : Array Nat) (s r p : Nat) (w : World) (h : XS w0 g rest d s r w) (hp : 1 ≤ p) (hp2 : p ≤ 2200) :
    Calls Try.prog 32 #[.pointer (some ⟨s, 0, none⟩)] w (NextP w0 g rest d s p) := by
  have HX := Lib.hid h
  have hr := h.small
  obtain ⟨A, hA⟩ : ∃ A : Nat, A = r ^^^ (r * 8192 % 18446744073709551616) := ⟨_, rfl⟩
  obtain ⟨B, hB⟩ : ∃ B : Nat, B = A ^^^ (A / 128) := ⟨_, rfl⟩
  obtain ⟨C, hC⟩ : ∃ C : Nat, C = B ^^^ (B * 131072 % 18446744073709551616) := ⟨_, rfl⟩
  have lA : A < 18446744073709551616 := by rw [hA]; exact Nat.xor_lt_two_pow (n := 64) (by omega) (by omega)
  have lB : B < 18446744073709551616 := by rw [hB]; exact Nat.xor_lt_two_pow (n := 64) (by omega) (by omega)
  have lC : C < 18446744073709551616 := by rw [hC]; exact Nat.xor_lt_two_pow (n := 64) (by omega) (by omega)
  have e1 : bits .xor .u64 (r : Int) (IntKind.u64.wrap ((r : Int) * 8192)) = (A : Int) := by
    rw [IntKind.wrap_u64, show ((r : Int) * 8192 % 18446744073709551616) = ((r * 8192 % 18446744073709551616 : Nat) : Int) by omega, bits_xor_u64_nat _ _ hr (by omega), hA]
  have e2 : bits .xor .u64 (A : Int) ((A : Int) / 128) = (B : Int) := by
    rw [show ((A : Int) / 128) = ((A / 128 : Nat) : Int) by omega, bits_xor_u64_nat _ _ lA (by omega), hB]
  have e3 : bits .xor .u64 (B : Int) (IntKind.u64.wrap ((B : Int) * 131072)) = (C : Int) := by
    rw [IntKind.wrap_u64, show ((B : Int) * 131072 % 18446744073709551616) = ((B * 131072 % 18446744073709551616 : Nat) : Int) by omega, bits_xor_u64_nat _ _ lB (by omega), hC]
  have HF := Lib.hid (show bits .and .u64 (C : Int) ((p : Int) - 1) = ((C &&& (p - 1) : Nat) : Int) ∧ C &&& (p - 1) < p from
    ⟨by rw [show ((p : Int) - 1) = ((p - 1 : Nat) : Int) by omega]; exact bits_and_u64_nat _ _ lC (by omega), by have : C &&& (p - 1) ≤ p - 1 := Nat.and_le_right; omega⟩)
  have HC := Lib.hid (fun n => (h.put C lC).drewN n)
  have hc := h.cell
  have hf := h.free
  have hss := cell_twice w s
  clear hA hB hC h hp hp2
  go_enter Try.func32, Try.ntmps32
  go_wp2_with fail
  go_region
  all_goals go_wp2_with fail
  all_goals go_region
  all_goals go_wp2_with fail
  all_goals go_region
  all_goals go_wp2_with fail
  all_goals go_ret
  all_goals exact ⟨C, _, rfl, HF.out.1, HF.out.2, HC.out 3⟩

end Go.Proofs.Ytbkhojopiimbdaa
