/-
  The walks over the document's answer for package crc, part B: More, bit by bit.
-/
import Derived.Test.YtlhcacancnmhcaaDoorRefA
namespace Go.Proofs.YtlhcacancnmhcaaDoor
open Go.RowKit

/-- The register lies in a row of the call's own; nothing else has turned. -/
def Regd (w : World) (f : Nat → Bool) (wr : World) : Prop := Row wr w.heap.size 83 (rowF f) (0, 0) ∧ Below w.heap.size w wr

theorem Regd.put {w wr : World} {f : Nat → Bool} (h : Regd w f wr) (k : Nat) (b : Bool) : Regd w (fun i => if i = k then b else f i) (wr.setCell ⟨w.heap.size, k, none⟩ (.bool b)) :=
  ⟨by rw [← rowF_set]; exact h.1.put k _, h.2.setCell (Nat.le_refl _) _⟩
theorem Regd.same {w wr : World} {f g : Nat → Bool} (h : Regd w f wr) (e : rowF f = rowF g) : Regd w g wr := ⟨by rw [← e]; exact h.1, h.2⟩
theorem Regd.row {w wr w1 : World} {f g : Nat → Bool} (h : Regd w f wr) (hb : Below wr.heap.size wr w1) : Regd w g (w1.setRow w.heap.size (rowF g).toArray) := by
  have hb1 : Below w.heap.size w w1 := h.2.trans (hb.mono h.2.size)
  exact ⟨setRow_heap w1 _ _ _ _ _ (h.1.below hb h.1.lt), below_setRow hb1 (Nat.le_refl _) _⟩
theorem regd_start (f : Nat → Bool) (w : World) : Regd w (fun i => decide (i < 0) && !f i) (w.alloc (.cells (rowF fun _ => false).toArray 83)) :=
  ⟨by
    have e : rowF (fun i => decide (i < 0) && !f i) = rowF fun _ => false := rowF_same fun i _ => by simp
    rw [e]
    exact Row.new w 83 _ (0, 0), (Below.refl _ _).alloc (Nat.le_refl _) _⟩

theorem half_next (s k : Nat) : ((s / 2 ^ k : Nat) : Int) / 2 = ((s / 2 ^ (k + 1) : Nat) : Int) := by
  rw [Nat.pow_succ, ← Nat.div_div_eq_div_mul]
  simp
theorem half_even (s k : Nat) : (((s / 2 ^ k : Nat) : Int) % 2 == 0) = !s.testBit k := by
  rw [← tb_div]
  generalize s / 2 ^ k = n
  have e : ((n : Nat) : Int) % 2 = ((n % 2 : Nat) : Int) := by omega
  rw [e]
  rcases Nat.mod_two_eq_zero_or_one n with h | h <;> rw [h] <;> rfl
theorem half_odd (s k : Nat) : (((s / 2 ^ k : Nat) : Int) % 2 == 1) = s.testBit k := by
  rw [← tb_div]
  generalize s / 2 ^ k = n
  have e : ((n : Nat) : Int) % 2 = ((n % 2 : Nat) : Int) := by omega
  rw [e]
  rcases Nat.mod_two_eq_zero_or_one n with h | h <;> rw [h] <;> rfl
theorem half_le (s k : Nat) : s / 2 ^ k ≤ s := Nat.div_le_self _ _

theorem rowF_size (f : Nat → Bool) : (Tryd.prog.info? 83).map (·.size) = some (rowF f).toArray.size := by rw [List.size_toArray, rowF_length]; exact Tryd.size_row
theorem rowF_all (f : Nat → Bool) : (rowF f).toArray.all (·.oneCell') = true := by rw [Array.all_eq_true_iff_forall_mem]; intro v hv; exact rowF_one _ v (by simpa using hv)
theorem rowF_sizes (f g : Nat → Bool) : (rowF f).toArray.size = (rowF g).toArray.size := by rw [List.size_toArray, List.size_toArray, rowF_length, rowF_length]

set_option maxRecDepth 100000 in
set_option maxHeartbeats 2000000 in
theorem rmore_any {T : TypeId} (A : Option Addr) (l : List UInt8) (c s : Nat) (w : World) (hr : Reads T w A l) (hs : s < 4294967296) (hl : l.length ≤ 140737488355328) :
    Calls Tryd.prog 31 #[.int .u32 (s : Int), .slice A l.length c] w fun e w' => e = .returned (.int .u32 (more_ s l : Int)) ∧ Below w.heap.size w w' := by
  have HR := Lib.hid hr
  have HST := Lib.hid (regd_start s.testBit w)
  have HGO := Lib.hid (started s)
  have HQ := Lib.hid (show s ^^^ ones < 4294967296 from Nat.xor_lt_two_pow (n := 32) hs (by decide))
  have HM := Lib.hid (show reg (s ^^^ ones) (bits l) ^^^ ones = more_ s l from rfl)
  generalize s ^^^ ones = q at *
  clear hr
  go_enter Tryd.func31, Tryd.ntmps31
  go_wp2_with fail
  go_loopw [0, 6] (fun p i wr => ∃ k : Nat, k ≤ 32 ∧ i = .int .i64 k ∧ p = .int .u32 ((s / 2 ^ k : Nat) : Int) ∧ Regd w (fun i => decide (i < k) && !s.testBit i) wr) (fun _ i _ => 32 - (intOf i).toNat)
  case atStart => exact ⟨0, by omega, rfl, by simp, HST.out⟩
  case round =>
    obtain ⟨k, hk, rfl, rfl, hrg⟩ := hrel
    have HRG := Lib.hid hrg
    clear hrg HST
    by_cases hlt : k < 32
    · have hpn := half_next s k
      have hpb := half_even s k
      have hpl := half_le s k
      obtain ⟨p2, hp2⟩ : ∃ p2, s / 2 ^ (k + 1) = p2 := ⟨_, rfl⟩
      rw [hp2] at hpn
      have HP2 := Lib.hid hp2
      clear hp2
      have hc2 : ∃ u, wr.cell? ⟨w.heap.size, k, none⟩ = some u := ⟨_, by rw [HRG.out.1.cell, rowF_get _ _ (by omega)]⟩
      obtain ⟨u, hc2⟩ := hc2
      have hf2 := HRG.out.1.loose k
      have HN := Lib.hid (HRG.out.put k (!s.testBit k))
      rw [loop0] at HN
      generalize s / 2 ^ k = p at *
      generalize (!s.testBit k) = bk at *
      have hp0 : (0 : Int) ≤ (p : Int) := by omega
      go_wp2_with fail
      go_roundw
      case rel => exact ⟨k + 1, by omega, by go_num, by rw [HP2.out], HN.out⟩
      case measure => simp [intOf]; omega
    · obtain rfl : k = 32 := by omega
      have HRQ := Lib.hid (HRG.out.same HGO.out)
      clear HRG HGO hlt
      generalize s / 2 ^ 32 = s32 at *
      go_wp2_with fail
      obtain ⟨wo, rfl⟩ : ∃ wo : World, wo = wr := ⟨_, rfl⟩
      go_loopw [7, 8, 9] (fun i _ _ wr => ∃ k : Nat, k ≤ l.length ∧ i = .int .i64 k ∧ Regd w (reg q (bits (l.take k))).testBit wr) (fun i _ _ _ => l.length - (intOf i).toNat)
      case atStart => exact ⟨0, by omega, rfl, HRQ.out⟩
      case round =>
        obtain ⟨i, hi, rfl, hrg⟩ := hrel
        have HRG := Lib.hid hrg
        clear hrg HRQ
        by_cases hlt : i < l.length
        · obtain ⟨g, off, rfl, hcell⟩ := (HR.out.below HRG.out.2 (Nat.le_refl _)).cell hlt
          have HBY := Lib.hid (reg_byte q l i hlt)
          have HQR := Lib.hid (reg_lt (bits (l.take i)) q HQ.out)
          have hcl := (l[i]'hlt).toNat_lt
          generalize (l[i]'hlt).toNat = c0 at *
          obtain ⟨R, hR⟩ : ∃ R, reg q (bits (l.take i)) = R := ⟨_, rfl⟩
          rw [hR] at HRG HQR HBY
          have HRR := Lib.hid hR
          clear hR
          go_wp2_with fail
          obtain ⟨wo2, rfl⟩ : ∃ wo2 : World, wo2 = wr := ⟨_, rfl⟩
          go_loopw [8, 9] (fun p j wr => ∃ k : Nat, k ≤ 8 ∧ j = .int .i64 k ∧ p = .int .u8 ((c0 / 2 ^ k : Nat) : Int) ∧ Regd w (reg R (bitsN k c0)).testBit wr) (fun _ j _ => 8 - (intOf j).toNat)
          case atStart => exact ⟨0, by omega, rfl, by simp, HRG.out⟩
          case round =>
            obtain ⟨k, hk, rfl, rfl, hrg⟩ := hrel
            have HRH := Lib.hid hrg
            clear hrg
            by_cases hlt8 : k < 8
            · have hpn := half_next c0 k
              have hpb := half_odd c0 k
              have hpl := half_le c0 k
              obtain ⟨p2, hp2⟩ : ∃ p2, c0 / 2 ^ (k + 1) = p2 := ⟨_, rfl⟩
              rw [hp2] at hpn
              have HP2 := Lib.hid hp2
              clear hp2
              have HSU := Lib.hid (reg_succ R c0 k)
              rw [tb_div] at HSU
              have HRL := Lib.hid (reg_lt (bitsN k c0) R HQR.out)
              generalize reg R (bitsN k c0) = rk at *
              generalize c0.testBit k = bk at *
              generalize c0 / 2 ^ k = p at *
              have hp0 : (0 : Int) ≤ (p : Int) := by omega
              have HCALL := Lib.hid (rstep_any rk bk wr HRL.out)
              go_wp2_with (first
                | (with_reducible refine wpList_load_row rfl 83 (.tmp 5) rfl w.heap.size rfl 83 (rowF rk.testBit).toArray (0, 0) _ ?hg1 Tryd.underlying83 rfl ?hi1 ?_)
                | (go_at_call 41; refine HCALL.out.mono ?_; rintro e w1 ⟨rfl, hb1⟩)
                | (with_reducible refine wpList_store_rowTo rfl 83 (.tmp 5) (.tmp 41) rfl rfl w.heap.size (rowF (stp rk bk).testBit).toArray rfl rfl 83 (rowF rk.testBit).toArray ?hg2 ?hi2 ?ho2 ?h12 ?_))
              case hg1 => exact HRH.out.1
              case hi1 => exact rowF_size _
              case hg2 => exact HRH.out.1.below hb1 HRH.out.1.lt
              case hi2 => exact rowF_size _
              case ho2 => exact rowF_sizes _ _
              case h12 => exact rowF_all _
              have HN := Lib.hid (show Regd w (reg R (bitsN (k + 1) c0)).testBit (w1.setRow w.heap.size (rowF (stp rk bk).testBit).toArray) by rw [HSU.out]; exact HRH.out.row hb1)
              go_wp2_with fail
              go_roundw
              case rel =>
                (repeat apply Exists.intro)
                refine ⟨⟨k + 1, by omega, ?_, ?_, HN.out⟩, rfl⟩
                · go_num
                · rw [HP2.out]
              case measure => simp [intOf]; omega
            · obtain rfl : k = 8 := by omega
              have HN := Lib.hid HRH.out
              rw [← HBY.out] at HN
              generalize c0 / 2 ^ 8 = c8 at *
              go_wp2_with fail
              go_roundw
              case rel => exact ⟨i + 1, by omega, by go_num, HN.out⟩
              case measure => simp [intOf]; omega
        · obtain rfl : i = l.length := by omega
          rw [List.take_length] at HRG
          have HL := Lib.hid HRG.out
          have HB := Lib.hid HRG.out.2
          obtain ⟨x, hx⟩ : ∃ x, reg q (bits l) ^^^ ones = x := ⟨_, rfl⟩
          have HX := Lib.hid hx
          have hxl : x < 4294967296 := by rw [← hx]; exact Nat.xor_lt_two_pow (n := 32) (reg_lt _ _ HQ.out) (by decide)
          have HROW := Lib.hid (show Row wr w.heap.size 83 (rowF fun i => !x.testBit i) (0, 0) by
            have h := HRG.out.1
            rw [rowF_same (g := fun i => !x.testBit i) (fun i hi => by
              rw [← hx, Nat.testBit_xor, show ones = 2 ^ 32 - 1 from rfl, Nat.testBit_two_pow_sub_one]
              simp [hi])] at h
            exact h)
          clear hx HL HRG
          go_wp2_with fail
          obtain ⟨wo2, rfl⟩ : ∃ wo2 : World, wo2 = wr := ⟨_, rfl⟩
          go_loopw [10, 11] (fun n j wr => wo2 = wr ∧ ∃ k : Nat, k ≤ 32 ∧ j = .int .i64 ((k : Int) - 1) ∧ n = .int .u32 ((x / 2 ^ k : Nat) : Int)) (fun _ j _ => (intOf j + 1).toNat)
          case atStart => exact ⟨rfl, 32, by omega, rfl, by rw [Nat.div_eq_of_lt (by omega)]; rfl⟩
          case round =>
            obtain ⟨rfl, k, hk, rfl, rfl⟩ := hrel
            by_cases hpos : 1 ≤ k
            · obtain ⟨j, rfl⟩ : ∃ j, k = j + 1 := ⟨k - 1, by omega⟩
              have ej : (((j + 1 : Nat) : Int) - 1) = (j : Int) := by omega
              rw [ej]
              have htd := top_down x j
              have hle := half_le x j
              have hcell : wo2.cell? ⟨w.heap.size, j, none⟩ = some (.bool (!x.testBit j)) := by rw [HROW.out.cell, rowF_get _ _ (by omega)]
              obtain ⟨y, hy⟩ : ∃ y, x / 2 ^ j = y := ⟨_, rfl⟩
              rw [hy] at htd hle
              have HY := Lib.hid hy
              clear hy ej
              generalize x / 2 ^ (j + 1) = p at *
              have hp0 : (0 : Int) ≤ (p : Int) := by omega
              have hp2 : (p : Int) * 2 + 1 ≤ 4294967295 := by
                have : 2 * p ≤ y := by rw [htd]; omega
                omega
              cases hb : x.testBit j
              · rw [hb] at hcell htd
                have HTD := Lib.hid htd
                clear htd hb
                go_wp2_with fail
                go_roundw
                case rel => exact ⟨trivial, j, by omega, rfl, by rw [HY.out]; have := HTD.out; simp at this; rw [this]; go_num⟩
                case measure => simp [intOf]
              · rw [hb] at hcell htd
                have HTD := Lib.hid htd
                clear htd hb
                go_wp2_with fail
                go_roundw
                case rel => exact ⟨trivial, j, by omega, rfl, by rw [HY.out]; have := HTD.out; simp at this; rw [this]; go_num⟩
                case measure => simp [intOf]
            · obtain rfl : k = 0 := by omega
              rw [show (((0 : Nat) : Int) - 1) = -1 from rfl, show x / 2 ^ 0 = more_ s l by rw [Nat.pow_zero, Nat.div_one, ← HX.out]; exact HM.out]
              obtain ⟨m, hm⟩ : ∃ m, more_ s l = m := ⟨_, rfl⟩
              have HMM := Lib.hid hm
              rw [hm]
              clear hm HM
              go_wp2_with fail
              go_ret
              exact ⟨by rw [HMM.out]; rfl, HB.out⟩

end Go.Proofs.YtlhcacancnmhcaaDoor
