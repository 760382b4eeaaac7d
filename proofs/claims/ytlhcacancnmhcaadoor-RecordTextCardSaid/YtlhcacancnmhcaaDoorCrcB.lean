/-
  The walks over package crc, part B: More, Sum.
-/
import Derived.Test.YtlhcacancnmhcaaDoorCrcA
namespace Go.Proofs.YtlhcacancnmhcaaDoor
open Go.RowKit

theorem zs4_high (h : Nat) : zs 4 (16 * h) = h := by
  rw [zs4, show 16 * h % 16 = 0 by omega, show 16 * h / 16 = h by omega]
  exact Nat.zero_xor h

theorem low_high (c : Nat) : c = (c % 16) ^^^ (16 * (c / 16)) := by
  have hlt : c % 16 < 2 ^ 4 := Nat.mod_lt _ (by decide)
  have := Nat.two_pow_add_eq_or_of_lt (i := 4) (b := c % 16) hlt (c / 16)
  have e : 16 * (c / 16) + c % 16 = (16 * (c / 16)) ||| (c % 16) := this
  have e3 : (c % 16) ^^^ (16 * (c / 16)) = (16 * (c / 16)) ||| (c % 16) := by
    apply Nat.eq_of_testBit_eq
    intro i
    rw [Nat.testBit_xor, Nat.testBit_or, show (16 : Nat) * (c / 16) = 2 ^ 4 * (c / 16) from rfl, Nat.testBit_two_pow_mul]
    by_cases hi : 4 ≤ i
    · have : (c % 16).testBit i = false := Nat.testBit_lt_two_pow (Nat.lt_of_lt_of_le hlt (Nat.pow_le_pow_right (n := 2) (by omega) hi))
      simp [this, hi]
    · simp [hi]
  rw [e3, ← e]
  omega

theorem breg_nib (r : Nat) (c : UInt8) : breg r c = nib (nib r c.toNat) (c.toNat / 16) := by
  have hc := c.toNat_lt
  rw [nib_zs, nib_zs, show c.toNat / 16 % 16 = c.toNat / 16 by omega]
  unfold breg
  rw [show 8 = 4 + 4 from rfl, zs_add]
  congr 1
  have e : zs 4 (r ^^^ c.toNat) = zs 4 ((r ^^^ (c.toNat % 16)) ^^^ (16 * (c.toNat / 16))) := by
    rw [Nat.xor_assoc, ← low_high]
  rw [e, zs_xor, zs4_high]

/-- The register behind so many bytes. -/
def regs (s : Nat) (l : List UInt8) : Nat := l.foldl breg (s ^^^ ones)

theorem regs_lt (s : Nat) (l : List UInt8) (h : s < 4294967296) : regs s l < 4294967296 := by
  unfold regs
  rw [← reg_bits]
  exact reg_lt _ _ (Nat.xor_lt_two_pow (n := 32) h (by decide))
theorem regs_more (s : Nat) (l : List UInt8) : regs s l ^^^ ones = more_ s l := by
  unfold regs more_
  rw [← reg_bits]
theorem regs_succ (s : Nat) (l : List UInt8) (k : Nat) (h : k < l.length) : regs s (l.take (k + 1)) = nib (nib (regs s (l.take k)) l[k].toNat) (l[k].toNat / 16) := by
  rw [List.take_succ_eq_append_getElem h, ← breg_nib]
  unfold regs
  rw [List.foldl_append]
  rfl

/-- What holds at a round's head. -/
def Regs (w : World) (s : Nat) (l : List UInt8) (k : Nat) (wr : World) : Prop :=
  Row wr w.heap.size 44 [.int .u32 (regs s (l.take k) : Int)] (0, 0) ∧ Below w.heap.size w wr

theorem regs_grown {w wr w1 w2 : World} {s : Nat} {l : List UInt8} {k : Nat} (hb : Below w.heap.size w wr) (h1 : wr.grownBy w1 (some w.heap.size)) (h2 : w1.grownBy w2 (some w.heap.size)) (hr : Row w2 w.heap.size 44 [.int .u32 (regs s (l.take k) : Int)] (0, 0)) : Regs w s l k w2 :=
  ⟨hr, (hb.grown h1 (by have := hb.size; omega) (fun k hk => by injection hk; omega)).grown h2 (by have := hb.size; have := h1.size; omega) (fun k hk => by injection hk; omega)⟩

theorem not_u32 (s : Nat) (h : s < 4294967296) : Go.bits .xor .u32 IntKind.u32.max (s : Int) = ((s ^^^ ones : Nat) : Int) := by
  have e : IntKind.u32.max = ((4294967295 : Nat) : Int) := by decide
  rw [e, u32_xor_nat _ _ (by decide) h, Nat.xor_comm]
  rfl

theorem regs_start {w : World} {s q : Nat} {l : List UInt8} (hq : s ^^^ ones = q) : Regs w s l 0 (w.alloc (.cells #[.int .u32 (q : Int)] 44)) := by
  have e : regs s (l.take 0) = q := hq
  refine ⟨?_, (Below.refl _ _).alloc (Nat.le_refl _) _⟩
  rw [e]
  exact Row.new w 44 _ (0, 0)

theorem regs_round {w wr w1 w2 : World} {s r2 : Nat} {l : List UInt8} {k : Nat} (hb : Below w.heap.size w wr) (h1 : wr.grownBy w1 (some w.heap.size)) (h2 : w1.grownBy w2 (some w.heap.size)) (hr : Row w2 w.heap.size 44 [.int .u32 (r2 : Int)] (0, 0)) (e : r2 = regs s (l.take (k + 1))) : Regs w s l (k + 1) w2 := by
  subst e
  exact regs_grown hb h1 h2 hr

set_option maxHeartbeats 400000 in
theorem more_any {T : TypeId} (A : Option Addr) (l : List UInt8) (c s : Nat) (w : World) (hT : Tab w) (hr : Reads T w A l) (hs : s < 4294967296) (hl : l.length ≤ 140737488355328) :
    Calls Tryd.prog 35 #[.int .u32 (s : Int), .slice A l.length c] w fun e w' => e = .returned (.int .u32 (more_ s l : Int)) ∧ Below w.heap.size w w' := by
  have HT := Lib.hid hT
  have HR := Lib.hid hr
  clear hT hr
  have hsg : IntKind.u32.signed = false := rfl
  have hnot := not_u32 s hs
  obtain ⟨q, hq⟩ : ∃ q, s ^^^ ones = q := ⟨_, rfl⟩
  rw [hq] at hnot
  have HS := Lib.hid (regs_start (w := w) (l := l) hq)
  clear hq
  go_enter Tryd.func35, Tryd.ntmps35
  go_wp2_with fail
  clear hnot
  go_loopw [14] (fun i wr => ∃ k : Nat, k ≤ l.length ∧ i = .int .i64 k ∧ Regs w s l k wr) (fun i _ => l.length - (intOf i).toNat)
  case atStart => exact ⟨0, Nat.zero_le _, rfl, HS.out⟩
  case round =>
    obtain ⟨k, hk, rfl, hrow, hb⟩ := hrel
    have HROW := Lib.hid hrow
    have HB := Lib.hid hb
    have HRR := Lib.hid (HR.out.below hb (Nat.le_refl _))
    have HTT := Lib.hid (HT.out.keeps hb)
    have HLT := Lib.hid (regs_lt s (l.take k) hs)
    clear hrow hb
    by_cases hlt : k < l.length
    · obtain ⟨g, off, rfl, hcell⟩ := HRR.out.cell hlt
      have hcl := (l[k]'hlt).toNat_lt
      have HSUC := Lib.hid (regs_succ s l k hlt)
      generalize (l[k]'hlt).toNat = cb at *
      generalize hgr : regs s (l.take k) = r at *
      have HGR := Lib.hid hgr
      clear hgr
      obtain ⟨d, hd⟩ : ∃ d, cb / 16 = d := ⟨_, rfl⟩
      have hd2 : (cb : Int) / 16 = (d : Int) := by rw [← hd]; simp
      have HD := Lib.hid hd
      have hd256 : d < 256 := by omega
      clear hd
      go_wp2_with fail
      refine (step_any w.heap.size r cb wr HTT.out HLT.out hcl HROW.out).mono ?_
      rintro e w1 ⟨rfl, hg1, hrow1⟩
      have HG1 := Lib.hid hg1
      have HROW1 := Lib.hid hrow1
      have HT1 := Lib.hid (show Tab w1 from fun i hi => hg1.cell (HTT.out i hi) (by have := HT.out.lt; simp; omega))
      have HL1 := Lib.hid (nib_lt r cb HLT.out)
      clear hg1 hrow1
      go_wp2_with fail
      refine (step_any w.heap.size (nib r cb) d w1 HT1.out HL1.out hd256 HROW1.out).mono ?_
      rintro e w2 ⟨rfl, hg2, hrow2⟩
      have HN := Lib.hid (regs_round HB.out HG1.out hg2 hrow2 (by rw [HSUC.out, HD.out]))
      clear hg2 hrow2
      go_wp2_with fail
      go_roundw
      case rel => exact ⟨k + 1, by omega, by go_num, HN.out⟩
      case measure => simp [intOf]; omega
    · obtain rfl : k = l.length := by omega
      rw [List.take_length] at HROW HLT
      have HM := Lib.hid (regs_more s l)
      have hnot := not_u32 _ HLT.out
      rw [regs_more] at hnot
      have hcell : wr.cell? ⟨w.heap.size, 0, none⟩ = some (.int .u32 (regs s l : Int)) := by rw [HROW.out.cell]; rfl
      generalize regs s l = r at *
      go_wp2
      go_ret
      exact ⟨rfl, HB.out⟩

end Go.Proofs.YtlhcacancnmhcaaDoor
