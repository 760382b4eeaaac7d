/-
  The walks over package crc, part A: the table, four bits' step.
-/
import Derived.Test.YtjahkaockjhibaaDoorProg
import Derived.Test.YtjahkaockjhibaaDoorMPlain
import Derived.Laws.BitsAllLaws
import Derived.Deep.QuietTactic
import Derived.BigQuiet
import Derived.StillTailTactics
import Derived.RegionTactic
import Derived.Outline
import Derived.Maps.AppendAt
import Derived.Deep.AppendLies
import Derived.Deep.RegionLaw
import Derived.Laws.BytesArg
import Derived.Laws.BytesString
import Derived.Deep.RegionHeld3
import Derived.Laws.StructEq
import Derived.ChangeKeysEq
import Derived.Deep.DeepCutAuto
namespace Go.Proofs.YtjahkaockjhibaaDoor
open Go.RowKit

/-- The table lies as it was written out. -/
def Tab (w : World) : Prop := ∀ i, i < 16 → w.cell? ⟨0, i, none⟩ = some (.int .u32 ((tab4.getD i 0 : Nat) : Int))

theorem Tab.lt {w : World} (h : Tab w) : 0 < w.heap.size := by
  have h0 := h 0 (by decide)
  rcases Nat.lt_or_ge 0 w.heap.size with hh | hh
  · exact hh
  · have e0 : w.heap[0]? = none := Array.getElem?_eq_none hh
    simp only [World.cell?, e0] at h0
    cases h0
theorem Tab.below {B : Nat} {w w' : World} (h : Tab w) (hb : Below B w w') (hB : 0 < B) : Tab w' := fun i hi =>
  (hb.cell (p := ⟨0, i, none⟩) hB).trans (h i hi)
theorem Tab.keeps {w w' : World} (h : Tab w) (hb : Below w.heap.size w w') : Tab w' := h.below hb h.lt
theorem Tab.drewN {w : World} (h : Tab w) (n : Nat) : Tab (w.drewN n) := h

theorem tab_lt : ∀ i : Nat, i < 16 → tab4.getD i 0 < 4294967296 := by decide

/-- The register behind four bits. -/
def nib (r c : Nat) : Nat := (r / 16) ^^^ tab4.getD ((r ^^^ c) % 16) 0

theorem nib_zs (r c : Nat) : nib r c = zs 4 (r ^^^ (c % 16)) := by
  have h16 : (c % 16) / 16 = 0 := by omega
  have e1 : (r ^^^ c % 16) / 16 = r / 16 := by
    have := Nat.xor_div_two_pow (a := r) (b := c % 16) (n := 4)
    rw [show (2 : Nat) ^ 4 = 16 from rfl] at this
    rw [this, h16, Nat.xor_zero]
  have e2 : (r ^^^ c % 16) % 16 = (r ^^^ c) % 16 := by
    have a1 := Nat.xor_mod_two_pow (a := r) (b := c % 16) (n := 4)
    have a2 := Nat.xor_mod_two_pow (a := r) (b := c) (n := 4)
    rw [show (2 : Nat) ^ 4 = 16 from rfl] at a1 a2
    rw [a1, a2, Nat.mod_mod]
  unfold nib
  rw [zs4, e1, e2, Nat.xor_comm]

theorem nib_lt (r c : Nat) (h : r < 4294967296) : nib r c < 4294967296 := by
  rw [nib_zs]
  exact zs_lt 4 _ (Nat.xor_lt_two_pow (n := 32) h (by omega))

theorem idx_eq (r c : Nat) (hr : r < 4294967296) (hc : c < 256) : Go.bits .and .u32 (Go.bits .xor .u32 (r : Int) (c : Int)) 15 = (((r ^^^ c) % 16 : Nat) : Int) := by
  rw [u32_xor_nat r c hr (by omega)]
  have := u32_and_nat (r ^^^ c) 15 (Nat.xor_lt_two_pow (n := 32) hr (by omega)) (by decide)
  rw [show ((15 : Nat) : Int) = 15 from rfl] at this
  rw [this, nat_mask4]

theorem reg_eq (r t : Nat) (hr : r < 4294967296) (ht : t < 4294967296) : Go.bits .xor .u32 ((r : Int) / 16) (t : Int) = ((r / 16 ^^^ t : Nat) : Int) := by
  have e : ((r : Int) / 16) = ((r / 16 : Nat) : Int) := by simp
  rw [e, u32_xor_nat _ _ (by omega) ht]

set_option maxRecDepth 100000 in
set_option maxHeartbeats 400000 in
theorem step_any (b r c : Nat) (w : World) (hT : Tab w) (hr : r < 4294967296) (hc : c < 256) (hrow : Row w b 145 [.int .u32 (r : Int)] (0, 0)) :
    Calls Tryd.prog 106 #[.int .u8 (c : Int), .pointer (some ⟨b, 0, none⟩)] w fun e w' =>
      e = .returned (.tuple #[]) ∧ w.grownBy w' (some b) ∧ Row w' b 145 [.int .u32 (nib r c : Int)] (0, 0) := by
  obtain ⟨k, hk⟩ : ∃ k, (r ^^^ c) % 16 = k := ⟨_, rfl⟩
  have hk16 : k < 16 := by rw [← hk]; exact Nat.mod_lt _ (by decide)
  have ht := hT k hk16
  have hidx := idx_eq r c hr hc
  rw [hk] at hidx
  have hnib : nib r c = (r / 16) ^^^ tab4.getD k 0 := by unfold nib; rw [hk]
  have htl := tab_lt k hk16
  generalize tab4.getD k 0 = t at *
  have hreg := reg_eq r t hr htl
  have hcell : w.cell? ⟨b, 0, none⟩ = some (.int .u32 (r : Int)) := by rw [hrow.cell]; rfl
  have hfree := hrow.loose 0
  have HR := Lib.hid hrow
  have HN := Lib.hid hnib
  have HK := Lib.hid hk
  have hwr : IntKind.u32.wrap (c : Int) = (c : Int) := by rw [IntKind.wrap_u32']; omega
  have hk0 : (0 : Int) ≤ (k : Int) := by omega
  have hki : (k : Int) < 16 := by omega
  clear hrow hnib hk hT
  go_enter Tryd.func106, Tryd.ntmps106
  go_wp2
  go_still_tail 10, (by kernel_rfl)
  change wpList _ _ _ _ _ w.drew
  have hcell2 : w.drew.cell? ⟨b, 0, none⟩ = some (.int .u32 (r : Int)) := hcell
  have hfree2 : w.drew.frozen? ⟨b, 0, none⟩ = false := hfree
  go_wp2
  go_end0
  rw [HN.out]
  exact ⟨rfl, only_put (only_drawn w 1 (some b)) 0 _, (HR.out.drew).put 0 _⟩

end Go.Proofs.YtjahkaockjhibaaDoor

/-
  The walks over package crc, part B: More, Sum.
-/
namespace Go.Proofs.YtjahkaockjhibaaDoor
open Go.RowKit

theorem zs4_high (h : Nat) : zs 4 (16 * h) = h := by
  rw [zs4, show 16 * h % 16 = 0 by omega, show 16 * h / 16 = h by omega]
  exact Nat.zero_xor h

theorem low_high (c : Nat) : c = (c % 16) ^^^ (16 * (c / 16)) := by
  have hlt : c % 16 < 2 ^ 4 := Nat.mod_lt _ (by decide)
  have := Nat.two_pow_add_eq_or_of_lt (i := 4) (b := c % 16) hlt (c / 16)
  have e : 16 * (c / 16) + c % 16 = (16 * (c / 16)) ||| (c % 16) := this
  have e3 : (c % 16) ^^^ (16 * (c / 16)) = (16 * (c / 16)) ||| (c % 16) := by
    apply Nat.eq_of_testBit_eq
    intro i
    rw [Nat.testBit_xor, Nat.testBit_or, show (16 : Nat) * (c / 16) = 2 ^ 4 * (c / 16) from rfl, Nat.testBit_two_pow_mul]
    by_cases hi : 4 ≤ i
    · have : (c % 16).testBit i = false := Nat.testBit_lt_two_pow (Nat.lt_of_lt_of_le hlt (Nat.pow_le_pow_right (n := 2) (by omega) hi))
      simp [this, hi]
    · simp [hi]
  rw [e3, ← e]
  omega

theorem breg_nib (r : Nat) (c : UInt8) : breg r c = nib (nib r c.toNat) (c.toNat / 16) := by
  have hc := c.toNat_lt
  rw [nib_zs, nib_zs, show c.toNat / 16 % 16 = c.toNat / 16 by omega]
  unfold breg
  rw [show 8 = 4 + 4 from rfl, zs_add]
  congr 1
  have e : zs 4 (r ^^^ c.toNat) = zs 4 ((r ^^^ (c.toNat % 16)) ^^^ (16 * (c.toNat / 16))) := by
    rw [Nat.xor_assoc, ← low_high]
  rw [e, zs_xor, zs4_high]

/-- The register behind so many bytes. -/
def regs (s : Nat) (l : List UInt8) : Nat := l.foldl breg (s ^^^ ones)

theorem regs_lt (s : Nat) (l : List UInt8) (h : s < 4294967296) : regs s l < 4294967296 := by
  unfold regs
  rw [← reg_bits]
  exact reg_lt _ _ (Nat.xor_lt_two_pow (n := 32) h (by decide))
theorem regs_more (s : Nat) (l : List UInt8) : regs s l ^^^ ones = more_ s l := by
  unfold regs more_
  rw [← reg_bits]
theorem regs_succ (s : Nat) (l : List UInt8) (k : Nat) (h : k < l.length) : regs s (l.take (k + 1)) = nib (nib (regs s (l.take k)) l[k].toNat) (l[k].toNat / 16) := by
  rw [List.take_succ_eq_append_getElem h, ← breg_nib]
  unfold regs
  rw [List.foldl_append]
  rfl

/-- What holds at a round's head. -/
def Regs (w : World) (s : Nat) (l : List UInt8) (k : Nat) (wr : World) : Prop :=
  Row wr w.heap.size 145 [.int .u32 (regs s (l.take k) : Int)] (0, 0) ∧ Below w.heap.size w wr

theorem regs_grown {w wr w1 w2 : World} {s : Nat} {l : List UInt8} {k : Nat} (hb : Below w.heap.size w wr) (h1 : wr.grownBy w1 (some w.heap.size)) (h2 : w1.grownBy w2 (some w.heap.size)) (hr : Row w2 w.heap.size 145 [.int .u32 (regs s (l.take k) : Int)] (0, 0)) : Regs w s l k w2 :=
  ⟨hr, (hb.grown h1 (by have := hb.size; omega) (fun k hk => by injection hk; omega)).grown h2 (by have := hb.size; have := h1.size; omega) (fun k hk => by injection hk; omega)⟩

theorem not_u32 (s : Nat) (h : s < 4294967296) : Go.bits .xor .u32 IntKind.u32.max (s : Int) = ((s ^^^ ones : Nat) : Int) := by
  have e : IntKind.u32.max = ((4294967295 : Nat) : Int) := by decide
  rw [e, u32_xor_nat _ _ (by decide) h, Nat.xor_comm]
  rfl

theorem regs_start {w : World} {s q : Nat} {l : List UInt8} (hq : s ^^^ ones = q) : Regs w s l 0 (w.alloc (.cells #[.int .u32 (q : Int)] 145)) := by
  have e : regs s (l.take 0) = q := hq
  refine ⟨?_, (Below.refl _ _).alloc (Nat.le_refl _) _⟩
  rw [e]
  exact Row.new w 145 _ (0, 0)

theorem regs_round {w wr w1 w2 : World} {s r2 : Nat} {l : List UInt8} {k : Nat} (hb : Below w.heap.size w wr) (h1 : wr.grownBy w1 (some w.heap.size)) (h2 : w1.grownBy w2 (some w.heap.size)) (hr : Row w2 w.heap.size 145 [.int .u32 (r2 : Int)] (0, 0)) (e : r2 = regs s (l.take (k + 1))) : Regs w s l (k + 1) w2 := by
  subst e
  exact regs_grown hb h1 h2 hr

set_option maxRecDepth 100000 in
set_option maxHeartbeats 400000 in
theorem more_any {T : TypeId} (A : Option Addr) (l : List UInt8) (c s : Nat) (w : World) (hT : Tab w) (hr : Reads T w A l) (hs : s < 4294967296) (hl : l.length ≤ 140737488355328) :
    Calls Tryd.prog 105 #[.int .u32 (s : Int), .slice A l.length c] w fun e w' => e = .returned (.int .u32 (more_ s l : Int)) ∧ Below w.heap.size w w' := by
  have HT := Lib.hid hT
  have HR := Lib.hid hr
  clear hT hr
  have hsg : IntKind.u32.signed = false := rfl
  have hnot := not_u32 s hs
  obtain ⟨q, hq⟩ : ∃ q, s ^^^ ones = q := ⟨_, rfl⟩
  rw [hq] at hnot
  have HS := Lib.hid (regs_start (w := w) (l := l) hq)
  clear hq
  go_enter Tryd.func105, Tryd.ntmps105
  go_wp2_with fail
  clear hnot
  go_loopw [14] (fun i wr => ∃ k : Nat, k ≤ l.length ∧ i = .int .i64 k ∧ Regs w s l k wr) (fun i _ => l.length - (intOf i).toNat)
  case atStart => exact ⟨0, Nat.zero_le _, rfl, HS.out⟩
  case round =>
    obtain ⟨k, hk, rfl, hrow, hb⟩ := hrel
    have HROW := Lib.hid hrow
    have HB := Lib.hid hb
    have HRR := Lib.hid (HR.out.below hb (Nat.le_refl _))
    have HTT := Lib.hid (HT.out.keeps hb)
    have HLT := Lib.hid (regs_lt s (l.take k) hs)
    clear hrow hb
    by_cases hlt : k < l.length
    · obtain ⟨g, off, rfl, hcell⟩ := HRR.out.cell hlt
      have hcl := (l[k]'hlt).toNat_lt
      have HSUC := Lib.hid (regs_succ s l k hlt)
      generalize (l[k]'hlt).toNat = cb at *
      generalize hgr : regs s (l.take k) = r at *
      have HGR := Lib.hid hgr
      clear hgr
      obtain ⟨d, hd⟩ : ∃ d, cb / 16 = d := ⟨_, rfl⟩
      have hd2 : (cb : Int) / 16 = (d : Int) := by rw [← hd]; simp
      have HD := Lib.hid hd
      have hd256 : d < 256 := by omega
      clear hd
      go_wp2_with fail
      refine (step_any w.heap.size r cb wr HTT.out HLT.out hcl HROW.out).mono ?_
      rintro e w1 ⟨rfl, hg1, hrow1⟩
      have HG1 := Lib.hid hg1
      have HROW1 := Lib.hid hrow1
      have HT1 := Lib.hid (show Tab w1 from fun i hi => hg1.cell (HTT.out i hi) (by have := HT.out.lt; simp; omega))
      have HL1 := Lib.hid (nib_lt r cb HLT.out)
      clear hg1 hrow1
      go_wp2_with fail
      refine (step_any w.heap.size (nib r cb) d w1 HT1.out HL1.out hd256 HROW1.out).mono ?_
      rintro e w2 ⟨rfl, hg2, hrow2⟩
      have HN := Lib.hid (regs_round HB.out HG1.out hg2 hrow2 (by rw [HSUC.out, HD.out]))
      clear hg2 hrow2
      go_wp2_with fail
      go_roundw
      case rel => exact ⟨k + 1, by omega, by go_num, HN.out⟩
      case measure => simp [intOf]; omega
    · obtain rfl : k = l.length := by omega
      rw [List.take_length] at HROW HLT
      have HM := Lib.hid (regs_more s l)
      have hnot := not_u32 _ HLT.out
      rw [regs_more] at hnot
      have hcell : wr.cell? ⟨w.heap.size, 0, none⟩ = some (.int .u32 (regs s l : Int)) := by rw [HROW.out.cell]; rfl
      generalize regs s l = r at *
      go_wp2
      go_ret
      exact ⟨rfl, HB.out⟩

end Go.Proofs.YtjahkaockjhibaaDoor

/-
  The walks over package crc, part C: Sum, the four bytes of a sum, Seal.
-/
namespace Go.Proofs.YtjahkaockjhibaaDoor
open Go.RowKit

set_option maxRecDepth 100000 in
set_option maxHeartbeats 400000 in
theorem sum_any {T : TypeId} (A : Option Addr) (l : List UInt8) (c : Nat) (w : World) (hT : Tab w) (hr : Reads T w A l) (hl : l.length ≤ 140737488355328) :
    Calls Tryd.prog 100 #[.slice A l.length c] w fun e w' => e = .returned (.int .u32 (more_ 0 l : Int)) ∧ Below w.heap.size w w' := by
  have HM := Lib.hid (more_any A l c 0 w hT hr (by decide) hl)
  clear hT hr
  generalize more_ 0 l = m at *
  go_enter Tryd.func100, Tryd.ntmps100
  go_wp2_with fail
  refine HM.out.mono ?_
  rintro e w1 ⟨rfl, hb⟩
  go_wp2
  go_ret
  exact ⟨rfl, hb⟩

theorem le4_cells (s : Nat) : byt (le4 s) = [.int .u8 ((s % 256 : Nat) : Int), .int .u8 ((s / 256 % 256 : Nat) : Int), .int .u8 ((s / 256 / 256 % 256 : Nat) : Int), .int .u8 ((s / 256 / 256 / 256 % 256 : Nat) : Int)] := by
  simp [byt, le4, UInt8.toNat_ofNat']

set_option maxRecDepth 100000 in
set_option maxHeartbeats 400000 in
theorem encoded_any (s : Nat) (w : World) (hs : s < 4294967296) :
    Calls Tryd.prog 99 #[.int .u32 (s : Int)] w fun e w' => e = .returned (.agg (byt (le4 s)).toArray) ∧ Below w.heap.size w w' := by
  rw [le4_cells]
  go_enter Tryd.func99, Tryd.ntmps99
  go_wp2
  exact bodyPost_ret (v := .agg #[.int .u8 ((s : Int) % 256), .int .u8 ((s : Int) / 256 % 256), .int .u8 ((s : Int) / 65536 % 256), .int .u8 ((s : Int) / 16777216)]) (by simp [results, Tryd.results99, go_sem]) rfl
    ⟨by rw [show (s : Int) % 256 = ((s % 256 : Nat) : Int) by omega, show (s : Int) / 256 % 256 = ((s / 256 % 256 : Nat) : Int) by omega, show (s : Int) / 65536 % 256 = ((s / 256 / 256 % 256 : Nat) : Int) by omega, show (s : Int) / 16777216 = ((s / 256 / 256 / 256 % 256 : Nat) : Int) by omega],
     (Below.refl _ _).alloc (Nat.le_refl _) _⟩

set_option maxRecDepth 100000 in
theorem Tryd.info_u8 : (Tryd.prog.info? 5).map (fun i => (i.zero, i.size, i.bytes)) = some (some (.int .u8 0), 1, 1) := by kernel_rfl

set_option maxRecDepth 100000 in
theorem Tryd.size_u8 : (Tryd.prog.info? 5).map (fun i => i.size) = some 1 := by kernel_rfl

theorem madeCells_zero (n : Nat) : madeCells (Value.int .u8 0).cells n = (byt (List.replicate n 0)).toArray := by
  apply Array.ext
  · simp [madeCells, byt]
  · intro i h1 h2
    simp [madeCells, byt, Value.cells, Nat.mod_one]

theorem make_bytes (n : Nat) (hn : n ≤ 281474976710656) (i : Int) (hi : i = (n : Int)) (w : World) : (Instr.makeSlice 80 (.int .i64 i) (.int .i64 i)).run Tryd.prog w =
    .ok (.slice (some ⟨w.heap.size, 0, none⟩) n n) (w.alloc (.cells (byt (List.replicate n 0)).toArray 5)) := by
  obtain ⟨i0, hi0, hz0, hz1, hz2⟩ := info_parts Tryd.info_u8
  subst hi
  have h := run_make (P := Tryd.prog) w 80 5 i0 _ Tryd.underlying80 hi0 hz0 .i64 .i64 n n (by omega) (by omega) (by rw [hz2]; omega) (by omega)
  rw [h, hz1, Int.toNat_natCast, Nat.mul_one, madeCells_zero]

theorem splice_head (l : List UInt8) (m : Nat) : splice (byt (List.replicate (l.length + m) 0)) 0 (byt l) = byt (l ++ List.replicate m 0) := by
  simp [splice, byt]

theorem splice_last (l r : List UInt8) (n m : Nat) (hn : n = l.length) (hm : m = r.length) : splice (byt (l ++ List.replicate m 0)) n (byt r) = byt (l ++ r) := by
  subst hn; subst hm
  have e : l.length = (byt l).length := (byt_length l).symm
  unfold splice
  rw [byt_append, e, List.take_left, byt_append]
  rw [byt_length r, List.drop_length_add_append]
  simp [byt]

theorem below_after {w w1 w2 : World} {g : Nat} (hb : Below w.heap.size w w1) (hg : w1.grownBy w2 (some g)) (hB : w.heap.size ≤ g) : Below w.heap.size w w2 :=
  hb.trans ⟨hg.os, hg.tape, hg.output, hg.size, fun k hk => hg.block k (Nat.lt_of_lt_of_le hk hb.size) (fun e => by injection e; omega)⟩

/-- A slice of new bytes. -/
def NewB (w : World) (n : Nat) (r : List UInt8) (e : Ending) (w' : World) : Prop :=
  ∃ g cap, e = .returned (.slice (some ⟨g, 0, none⟩) n cap) ∧ r.length = n ∧ n ≤ cap ∧ Reads 5 w' (some ⟨g, 0, none⟩) r ∧ Below w.heap.size w w'

/-- Bytes, sealed. -/
def sealL (l : List UInt8) : List UInt8 := l ++ le4 (more_ 0 l)
theorem sealL_length (l : List UInt8) : (sealL l).length = l.length + 4 := by unfold sealL; rw [List.length_append]; rfl
theorem sealL_sealed (l : List UInt8) : Sealed (sealL l) := seal_sealed l

theorem row_reads {T : TypeId} {w : World} {g : Nat} {l : List UInt8} {m : Nat × Nat} (h : Row w g T (byt l) m) : Reads T w (some ⟨g, 0, none⟩) l := fun _ =>
  ⟨g, 0, byt l, m, rfl, h, fun j _ => by rw [Nat.zero_add]⟩

theorem encoded_four (s : Nat) (b0 b1 b2 b3 : UInt8) (w : World) (hs : s < 4294967296) (h : le4 s = [b0, b1, b2, b3]) :
    Calls Tryd.prog 99 #[.int .u32 (s : Int)] w fun e w' => e = .returned (.agg #[.int .u8 (b0.toNat : Int), .int .u8 (b1.toNat : Int), .int .u8 (b2.toNat : Int), .int .u8 (b3.toNat : Int)]) ∧ Below w.heap.size w w' := by
  have := encoded_any s w hs
  rw [h] at this
  exact this

theorem row_second (w : World) (o : Obj) (cs : List Value) {T : TypeId} : ((w.alloc o).alloc (.cells cs.toArray T)).heap[w.heap.size + 1]? = some (.cells cs.toArray T (0, 0)) := by
  have := Row.new (w.alloc o) T cs (0, 0)
  have e : (w.alloc o).heap.size = w.heap.size + 1 := by simp
  unfold Row at this
  rw [e] at this
  exact this

/-- The same, the capacity told. -/
def NewS (w : World) (n : Nat) (r : List UInt8) (e : Ending) (w' : World) : Prop :=
  ∃ g, e = .returned (.slice (some ⟨g, 0, none⟩) n n) ∧ r.length = n ∧ Reads 5 w' (some ⟨g, 0, none⟩) r ∧ Below w.heap.size w w'

set_option maxRecDepth 100000 in
set_option maxHeartbeats 1000000 in
theorem seal_new {T : TypeId} (A : Option Addr) (l : List UInt8) (c : Nat) (w : World) (hT : Tab w) (hr : Reads T w A l) (hl : l.length ≤ 1000000) :
    Calls Tryd.prog 89 #[.slice A l.length c] w (NewS w (l.length + 4) (sealL l)) := by
  have HS := Lib.hid (sum_any A l c w hT hr (by omega))
  have HR := Lib.hid hr
  have HL := Lib.hid (more_lt 0 l (by decide))
  obtain ⟨m, hm⟩ : ∃ m, more_ 0 l = m := ⟨_, rfl⟩
  rw [hm] at HS HL
  have HM := Lib.hid hm
  clear hT hr hm
  have hmk := make_bytes (l.length + 4) (by omega) (↑l.length + 4) (by omega)
  go_enter Tryd.func89, Tryd.ntmps89
  go_wp2_with fail
  refine HS.out.mono ?_
  rintro e w1 ⟨rfl, hb1⟩
  have HB1 := Lib.hid hb1
  clear hb1
  go_wp2_with fail
  obtain ⟨b0, b1, b2, b3, hle⟩ : ∃ b0 b1 b2 b3 : UInt8, le4 m = [b0, b1, b2, b3] := ⟨_, _, _, _, rfl⟩
  have HE := Lib.hid (encoded_four m b0 b1 b2 b3 w1 HL.out hle)
  have HLE := Lib.hid hle
  clear hle
  refine HE.out.mono ?_
  rintro e w2 ⟨rfl, hb2⟩
  have HB2 := Lib.hid (HB1.out.trans (hb2.mono HB1.out.size))
  clear hb2
  go_wp2_with (with_reducible refine wpList_copy_splice rfl (.tmp 12) (.tmp 13) 80 80 rfl 5 Tryd.underlying80 Tryd.size_u8 (some ⟨w2.heap.size + 1, 0, none⟩) A (l.length + 4) (l.length + 4) l.length c rfl rfl (w2.heap.size + 1) 0 (byt (List.replicate (l.length + 4) 0)) 5 ?hg (byt l) ?hn ?hpos ?hfit (byt_one l) (w2.heap.size + 1) (w2.alloc (.cells #[.int .u8 (b0.toNat : Int), .int .u8 (b1.toNat : Int), .int .u8 (b2.toNat : Int), .int .u8 (b3.toNat : Int)] 148)) ?hb (Nat.le_refl _) ?_)
  case hg => exact row_second _ _ _
  case hn => rw [byt_length]; exact (Nat.min_eq_left (by omega)).symm
  case hfit => simp [byt]
  case hb => exact (Below.refl _ _).alloc (by simp) _
  case hpos =>
    intro h0
    rw [byt_length] at h0
    obtain ⟨g, off, cs, mk, hA, hrow, hc⟩ := HR.out h0
    refine ⟨_, hA, fun j v hj => ?_⟩
    have hjl : j < l.length := by
      have := (List.getElem?_eq_some_iff.1 hj).1
      rwa [byt_length] at this
    rw [Addr.add_lit, (((hrow.below HB2.out hrow.lt).alloc _).alloc _).cell, hc j hjl, hj]
  intro w4 hg4 hb4
  have HR4 := Lib.hid (show Row w4 (w2.heap.size + 1) 5 (byt (l ++ List.replicate 4 0)) (0, 0) by rw [← splice_head]; exact hg4.out)
  have HA4 := Lib.hid ((Row.new w2 148 [.int .u8 (b0.toNat : Int), .int .u8 (b1.toNat : Int), .int .u8 (b2.toNat : Int), .int .u8 (b3.toNat : Int)] (0, 0)).below hb4 (Nat.lt_succ_self _))
  have HSZ := Lib.hid HB2.out.size
  have HB4 := Lib.hid ((HB2.out.alloc HB2.out.size _).trans (hb4.mono (by have := HB2.out.size; simp; omega)))
  clear hg4 hb4
  go_wp2_with fail
  have hsl : (l.length : Int) ≤ (l.length : Int) + 4 := by omega
  go_still_tail 5, (by kernel_rfl)
  clear hsl
  change wpList _ _ _ _ _ w4.drew
  refine wpList_copy_splice rfl (.tmp 18) (.tmp 19) 80 80 rfl 5 Tryd.underlying80 Tryd.size_u8 (some ⟨w2.heap.size + 1, l.length, none⟩) (some ⟨w2.heap.size, 0, none⟩) 4 4 4 4 rfl rfl (w2.heap.size + 1) l.length (byt (l ++ List.replicate 4 0)) 5 HR4.out.drew (byt [b0, b1, b2, b3]) rfl ?hpos2 ?hfit2 (byt_one _) w.heap.size w HB4.out.drew (by have := HSZ.out; omega) ?_
  case hfit2 => simp [byt]
  case hpos2 => exact fun _ => ⟨rfl, _, rfl, fun j v hj => by rw [Addr.add_lit, HA4.out.drew.cell, Nat.zero_add]; exact hj⟩
  intro w5 hg5 hb5
  have HR5 := Lib.hid (show Row w5 (w2.heap.size + 1) 5 (byt (sealL l)) (0, 0) by
    unfold sealL
    rw [HM.out, HLE.out, ← splice_last l [b0, b1, b2, b3] l.length 4 rfl rfl]
    exact hg5.out)
  clear hg5
  go_wp2
  go_ret
  exact ⟨w2.heap.size + 1, rfl, sealL_length l, row_reads HR5.out, hb5⟩

theorem seal_any {T : TypeId} (A : Option Addr) (l : List UInt8) (c : Nat) (w : World) (hT : Tab w) (hr : Reads T w A l) (hl : l.length ≤ 1000000) :
    Calls Tryd.prog 89 #[.slice A l.length c] w (NewB w (l.length + 4) (sealL l)) :=
  (seal_new A l c w hT hr hl).mono fun _ _ ⟨g, he, hlen, hrd, hb⟩ => ⟨g, l.length + 4, he, hlen, Nat.le_refl _, hrd, hb⟩

end Go.Proofs.YtjahkaockjhibaaDoor

/-
  Words for the walks of CrcTails and CrcTells: append onto a row of the call's own (also of nothing), bytes told as a text, a number's bytes one by one, four bytes in the middle.
-/
namespace Go.Proofs.YtjahkaockjhibaaDoor
open Go.RowKit

theorem run_text {P : Program} {T src : TypeId} {e : TypeId} (hs : P.underlying src = some (.slice e)) (he : P.underlying e = some (.int .u8)) (w : World) (A : Option Addr) (l : List UInt8) (n c : Nat) (hn : l.length = n) (hr : Reads T w A l) :
    ∀ dst, P.underlying dst = some .string → (convert src dst (.slice A n c)).run P w = .ok (.string ⟨l.toArray⟩) w := by
  subst hn
  intro dst hd
  rcases Nat.eq_zero_or_pos l.length with h0 | h0
  · obtain rfl : l = [] := List.eq_nil_of_length_eq_zero h0
    rw [run_convert_bytes_string w src dst e A _ c hs he hd]
    cases A with
    | none => simp [Conv.bytesToString]; rfl
    | some a =>
      have := run_bytesToString (P := P) w a 0 c [] (by simp [loadCells]; rfl)
      exact this
  · obtain ⟨g, off, cs, m, rfl, hrow, hc⟩ := hr h0
    have h := run_convert_bytes_arg (P := P) w src e hs he g off l.length c (l.map fun b => (b.toNat : Int)) (by simp) (fun i hi => by
      rw [hrow.cell, hc i hi, byt_get l i hi]
      simp [List.getD, List.getElem?_eq_getElem hi]) dst hd
    have e : strOfNums (l.map fun b => (b.toNat : Int)) = ⟨l.toArray⟩ := by
      unfold strOfNums
      rw [List.map_map, show ((fun n : Int => UInt8.ofNat n.toNat) ∘ fun b : UInt8 => (b.toNat : Int)) = id from funext fun b => by simp, List.map_id]
    rw [h, e]

/-- Bytes as a text. -/
theorem text_n {T : TypeId} (A : Option Addr) (l : List UInt8) (n c : Nat) (w : World) (hn : l.length = n) (hr : Reads T w A l) : (convert 80 9 (.slice A n c)).run Tryd.prog w = .ok (.string ⟨l.toArray⟩) w :=
  run_text Tryd.underlying80 Tryd.underlying5 w A l n c hn hr _ Tryd.underlying9

/-- What a row of the call's own reads as. -/
theorem owns_reads {w : World} {base n : Nat} {v : Value} {l : List UInt8} (h : w.ownsRow base 5 1 v n (byt l)) (hv : v ≠ .slice none 0 0) :
    ∃ g cap, v = .slice (some ⟨g, 0, none⟩) n cap ∧ base ≤ g ∧ g < w.heap.size ∧ l.length = n ∧ n ≤ cap ∧ Reads 5 w (some ⟨g, 0, none⟩) l := by
  obtain ⟨hl, ⟨rfl, _⟩ | ⟨g, cap, cur, rfl, hb, hg, hc, _, _, ht⟩⟩ := h
  · exact absurd rfl hv
  · rw [byt_length, Nat.mul_one] at hl
    rw [Nat.mul_one] at ht
    have hrow : Row w g 5 cur.toList (0, 0) := hg
    refine ⟨g, cap, rfl, hb, hrow.lt, hl, hc, fun _ => ⟨g, 0, cur.toList, (0, 0), rfl, hrow, fun j hj => ?_⟩⟩
    rw [Nat.zero_add, ← ht, List.getElem?_take, if_pos (by omega)]

/-- Cells to be appended, out of bytes that lie anywhere. -/
theorem reads_news {T : TypeId} {w : World} {ad : Addr} {l : List UInt8} (h : Reads T w (some ad) l) : ∀ j u, (byt l)[j]? = some u → w.cell? (ad.add j) = some u := by
  intro j u hu
  have hj : j < l.length := by
    have := (List.getElem?_eq_some_iff.1 hu).1
    rwa [byt_length] at this
  obtain ⟨g, off, cs, m, hA, hrow, hc⟩ := h (by omega)
  obtain rfl := Option.some.inj hA
  rw [Addr.add_lit, hrow.cell, hc j hj, hu]

section
variable {P : Program} {w : World}

/-- Append onto a row of the call's own that is not nil: the row, or a new one. -/
theorem run_own (t ty : TypeId) (base : Nat) (e : TypeId) (i : TypeInfo) (z : Value) (ht : P.underlying t = some (.slice e)) (hi : P.info? e = some i) (hz : i.zero = some z)
    (hsize : i.size = 1) (hby : i.bytes = 1) (hzs : z.cells.size = 1) (g0 n c0 : Nat) (xs : List Value) (hown : w.ownsRow base e 1 (.slice (some ⟨g0, 0, none⟩) n c0) n xs)
    (ad : Addr) (m c : Nat) (news : List Value) (hl : news.length = m) (hnews : ∀ j u, news[j]? = some u → w.cell? (ad.add j) = some u) (h1 : ∀ u ∈ news, u.oneCell' = true)
    (h63 : n + m ≤ 100000) (hbase : base ≤ w.heap.size) :
    ∃ g cap w', (Builtin.append_ #[t, t] ty #[.slice (some ⟨g0, 0, none⟩) n c0, .slice (some ad) m c]).run P w = .ok (.slice (some ⟨g, 0, none⟩) (n + m) cap) w' ∧
      w'.ownsRow base e 1 (.slice (some ⟨g, 0, none⟩) (n + m) cap) (n + m) (xs ++ news) ∧ w.grownBy w' (some g0) := by
  obtain ⟨v', w', hr, h2, h3, h4, _⟩ := run_append_own_at (P := P) w base t ty e i z 1 1 ht hi hz hsize hby hzs (by decide) _ n xs hown ad m c news (by rw [hl, Nat.mul_one]) hnews h1 (by unfold maxLen; omega) (by omega) hbase
  have hv : v' ≠ .slice none 0 0 := fun h => by
    have := (h4.1 h).1
    cases this
  obtain ⟨g, cap, rfl⟩ : ∃ g cap, v' = .slice (some ⟨g, 0, none⟩) (n + m) cap := by
    rcases h2.2 with ⟨h0, _⟩ | ⟨g, cap, cur, hv', _⟩
    · exact absurd h0 hv
    · exact ⟨g, cap, hv'⟩
  exact ⟨g, cap, w', hr, h2, h3⟩

/-- The same at a step of a region that draws its order. -/
theorem step_own {ops : Array Oper} {o : Oper} {a : Act} {K : Act → World → Prop} {Q : Exit → Act → World → Prop} {E : Prop} (hgd : o.guard = none) (s x : Operand) (t : TypeId)
    (ho : o.op = .call { callee := .builtin .append, args := #[s, x], argTypes := #[t, t] })
    (base : Nat) (e : TypeId) (i : TypeInfo) (z : Value) (ht : P.underlying t = some (.slice e)) (hi : P.info? e = some i) (hz : i.zero = some z)
    (hsize : i.size = 1) (hby : i.bytes = 1) (hzs : z.cells.size = 1) (g0 n c0 : Nat) (xs : List Value) (hs : a.eval s = .slice (some ⟨g0, 0, none⟩) n c0) (hown : w.ownsRow base e 1 (.slice (some ⟨g0, 0, none⟩) n c0) n xs)
    (ad : Addr) (m c : Nat) (news : List Value) (hx : a.eval x = .slice (some ad) m c) (hl : news.length = m) (hnews : ∀ j u, news[j]? = some u → w.cell? (ad.add j) = some u) (h1 : ∀ u ∈ news, u.oneCell' = true)
    (h63 : n + m ≤ 100000) (hbase : base ≤ w.heap.size)
    (h : ∀ g cap w', w'.ownsRow base e 1 (.slice (some ⟨g, 0, none⟩) (n + m) cap) (n + m) (xs ++ news) → w.grownBy w' (some g0) → K (a.put o.dst (.slice (some ⟨g, 0, none⟩) (n + m) cap)) w') :
    if Region.wanted o (yielded ops a.tmps) = true then Oper.wp P o a w K Q else E := by
  have hw : Region.wanted o (yielded ops a.tmps) = true := by simp [Region.wanted, hgd]
  rw [if_pos hw]
  obtain ⟨g, cap, w', hr, h2, h3⟩ := run_own (P := P) (w := w) t o.type base e i z ht hi hz hsize hby hzs g0 n c0 xs hown ad m c news hl hnews h1 h63 hbase
  unfold Oper.wp execOp
  simp only [ho, resolve, invoke, builtin, Sem.run_bind, Sem.run_pure, Result.andThen_ok, List.map_toArray, List.map_cons, List.map_nil, hs, hx, hr]
  exact h g cap w' h2 h3
end

/-- A number's byte. -/
theorem byte_k (n k : Nat) (hk : k < 4) : ((n : Int) / 2 ^ (8 * k) % 256) = (((le4 n)[k]'hk).toNat : Int) := by
  have hc : k = 0 ∨ k = 1 ∨ k = 2 ∨ k = 3 := by omega
  rcases hc with rfl | rfl | rfl | rfl
  all_goals
    simp only [le4, List.getElem_cons_zero, List.getElem_cons_succ, UInt8.toNat_ofNat']
    omega

theorem le4_inj {a b : Nat} (ha : a < 4294967296) (hb : b < 4294967296) (h : le4 a = le4 b) : a = b := by
  rw [← word_le4 a ha, ← word_le4 b hb, h]

/-- Four bytes of sealed ones, others in their place. -/
theorem turned_iff {z x : List UInt8} {k : Nat} (hz : Sealed z) (hk : k + 4 ≤ z.length) (hx : x.length = 4) : Sealed ((z.take k ++ x) ++ z.drop (k + 4)) ↔ (z.drop k).take 4 = x := by
  have e : z = z.take k ++ ((z.drop k).take 4 ++ z.drop (k + 4)) := by
    have h1 : z.drop (k + 4) = (z.drop k).drop 4 := by rw [List.drop_drop]
    rw [h1, List.take_append_drop, List.take_append_drop]
  have hy : ((z.drop k).take 4).length = 4 := by rw [List.length_take, List.length_drop]; omega
  rw [List.append_assoc]
  exact middle_iff hx hy (by rw [← e]; exact hz)

end Go.Proofs.YtjahkaockjhibaaDoor

/-
  The walks over package crc, part D: Open.
-/
namespace Go.Proofs.YtjahkaockjhibaaDoor
open Go.RowKit

@[go_sem] theorem Tryd.eqA4 (a b c d x y z u : Int) (w : World) : (Op.equalIn 10000 148 (.agg #[.int .u8 a, .int .u8 b, .int .u8 c, .int .u8 d]) (.agg #[.int .u8 x, .int .u8 y, .int .u8 z, .int .u8 u])).run Tryd.prog w = .ok (a == x && b == y && c == z && d == u) w := by
  have u3 := Tryd.underlying5
  have a3 := Tryd.isAgg5
  have z3 := Tryd.sizeOf5
  rw [show (10000 : Nat) = 9999 + 1 from rfl, Op.equalIn]
  simp only [Sem.run_bind, run_underlying Tryd.underlying148, Result.andThen_ok]
  simp only [Std.Legacy.Range.forIn_eq_forIn_range', Std.Legacy.Range.size, Nat.sub_zero, Nat.add_sub_cancel, Nat.div_one, List.range'_succ, List.range'_zero, List.forIn_cons, List.forIn_nil]
  go_simp
  by_cases h1 : a = x <;> by_cases h2 : b = y <;> by_cases h3 : c = z <;> by_cases h4 : d = u <;> simp [h1, h2, h3, h4]

set_option maxRecDepth 100000 in
set_option maxHeartbeats 400000 in
theorem open_short (A : Option Addr) (n c : Nat) (w : World) (hn : n < 4) :
    Calls Tryd.prog 91 #[.slice A n c] w fun e w' => e = .returned (.tuple #[.slice none 0 0, .bool false]) ∧ w = w' := by
  go_enter Tryd.func91, Tryd.ntmps91
  go_wp2
  go_ret2
  exact ⟨rfl, rfl⟩

/-- Four bytes of a row of their own. -/
def Four (w : World) (g : Nat) (t0 t1 t2 t3 : UInt8) : Prop :=
  w.cell? ⟨g, 0, none⟩ = some (.int .u8 (t0.toNat : Int)) ∧ w.cell? ⟨g, 1, none⟩ = some (.int .u8 (t1.toNat : Int)) ∧ w.cell? ⟨g, 2, none⟩ = some (.int .u8 (t2.toNat : Int)) ∧ w.cell? ⟨g, 3, none⟩ = some (.int .u8 (t3.toNat : Int))

theorem four_others {t0 t1 t2 t3 b0 b1 b2 b3 : UInt8} (hne : ¬ (t0 = b0 ∧ t1 = b1 ∧ t2 = b2 ∧ t3 = b3)) :
    (!(t0.toNat : Int) == (b0.toNat : Int) || !(t1.toNat : Int) == (b1.toNat : Int) || !(t2.toNat : Int) == (b2.toNat : Int) || !(t3.toNat : Int) == (b3.toNat : Int)) = true := by
  have hcmp : ((t0.toNat : Int) == (b0.toNat : Int) && (t1.toNat : Int) == (b1.toNat : Int) && (t2.toNat : Int) == (b2.toNat : Int) && (t3.toNat : Int) == (b3.toNat : Int)) = false := by
    rw [Bool.eq_false_iff]
    intro h
    simp only [Bool.and_eq_true, beq_iff_eq, Int.natCast_inj, UInt8.toNat_inj] at h
    exact hne ⟨h.1.1.1, h.1.1.2, h.1.2, h.2⟩
  revert hcmp
  cases ((t0.toNat : Int) == (b0.toNat : Int)) <;> cases ((t1.toNat : Int) == (b1.toNat : Int)) <;> cases ((t2.toNat : Int) == (b2.toNat : Int)) <;> cases ((t3.toNat : Int) == (b3.toNat : Int)) <;> simp

theorem four_same (t0 t1 t2 t3 : UInt8) :
    (!(t0.toNat : Int) == (t0.toNat : Int) || !(t1.toNat : Int) == (t1.toNat : Int) || !(t2.toNat : Int) == (t2.toNat : Int) || !(t3.toNat : Int) == (t3.toNat : Int)) = false := by
  simp

theorem Four.keeps {w w' : World} {g : Nat} {t0 t1 t2 t3 : UInt8} (h : Four w g t0 t1 t2 t3) (hb : Below w.heap.size w w') (hg : g < w.heap.size) : Four w' g t0 t1 t2 t3 :=
  ⟨(hb.cell (p := ⟨g, 0, none⟩) hg).trans h.1, (hb.cell (p := ⟨g, 1, none⟩) hg).trans h.2.1, (hb.cell (p := ⟨g, 2, none⟩) hg).trans h.2.2.1, (hb.cell (p := ⟨g, 3, none⟩) hg).trans h.2.2.2⟩
theorem Four.of_row {w : World} {g : Nat} {T : TypeId} {t0 t1 t2 t3 : UInt8} {m : Nat × Nat} (h : Row w g T (byt [t0, t1, t2, t3]) m) : Four w g t0 t1 t2 t3 :=
  ⟨by rw [h.cell]; rfl, by rw [h.cell]; rfl, by rw [h.cell]; rfl, by rw [h.cell]; rfl⟩
theorem Four.lt {w : World} {g : Nat} {t0 t1 t2 t3 : UInt8} (h : Four w g t0 t1 t2 t3) : g < w.heap.size := by
  rcases Nat.lt_or_ge g w.heap.size with hh | hh
  · exact hh
  · have e0 : w.heap[g]? = none := Array.getElem?_eq_none hh
    have h0 := h.1
    simp only [World.cell?, e0] at h0
    cases h0

theorem sum_four {T : TypeId} (A : Option Addr) (l : List UInt8) (n c m g : Nat) (t0 t1 t2 t3 : UInt8) (w : World) (hn : l.length = n) (hT : Tab w) (hr : Reads T w A l) (hl : n ≤ 140737488355328) (hm : more_ 0 l = m) (h4 : Four w g t0 t1 t2 t3) :
    Calls Tryd.prog 100 #[.slice A n c] w fun e w' => e = .returned (.int .u32 (m : Int)) ∧ Below w.heap.size w w' ∧ Four w' g t0 t1 t2 t3 := by
  subst hn; subst hm
  exact (sum_any A l c w hT hr hl).mono fun _ _ ⟨he, hb⟩ => ⟨he, hb, h4.keeps hb h4.lt⟩

theorem encoded_held (s g : Nat) (b0 b1 b2 b3 t0 t1 t2 t3 : UInt8) (w : World) (hs : s < 4294967296) (h : le4 s = [b0, b1, b2, b3]) (h4 : Four w g t0 t1 t2 t3) :
    Calls Tryd.prog 99 #[.int .u32 (s : Int)] w fun e w' => e = .returned (.agg #[.int .u8 (b0.toNat : Int), .int .u8 (b1.toNat : Int), .int .u8 (b2.toNat : Int), .int .u8 (b3.toNat : Int)]) ∧ Below w.heap.size w w' ∧ Four w' g t0 t1 t2 t3 :=
  (encoded_four s b0 b1 b2 b3 w hs h).mono fun _ _ ⟨he, hb⟩ => ⟨he, hb, h4.keeps hb h4.lt⟩

set_option maxRecDepth 100000 in
set_option maxHeartbeats 2000000 in
theorem open_refuses {T : TypeId} (A : Option Addr) (z : List UInt8) (n c : Nat) (w : World) (hn : z.length = n) (hT : Tab w) (hr : Reads T w A z) (h4 : 4 ≤ n) (hl : n ≤ 1000000) (hc : n ≤ c) (hno : ¬ Sealed z) :
    Calls Tryd.prog 91 #[.slice A n c] w fun e w' => e = .returned (.tuple #[.slice none 0 0, .bool false]) ∧ Below w.heap.size w w' := by
  obtain ⟨k, rfl⟩ : ∃ k, n = k + 4 := ⟨n - 4, by omega⟩
  have HT := Lib.hid hT
  have HR := Lib.hid (hr.take k)
  have HR2 := Lib.hid (hr.drop k c (by omega))
  obtain ⟨t0, t1, t2, t3, ht⟩ : ∃ t0 t1 t2 t3, z.drop k = [t0, t1, t2, t3] := by
    have : (z.drop k).length = 4 := by rw [List.length_drop]; omega
    match z.drop k, this with
    | [a, b, c, d], _ => exact ⟨a, b, c, d, rfl⟩
  have HTL := Lib.hid (show (z.take k).length = k by rw [List.length_take]; omega)
  obtain ⟨m, hm⟩ : ∃ m, more_ 0 (z.take k) = m := ⟨_, rfl⟩
  have HM := Lib.hid hm
  have HML := Lib.hid (show m < 4294967296 by rw [← hm]; exact more_lt 0 _ (by decide))
  obtain ⟨b0, b1, b2, b3, hle⟩ : ∃ b0 b1 b2 b3 : UInt8, le4 m = [b0, b1, b2, b3] := ⟨_, _, _, _, rfl⟩
  have HLE := Lib.hid hle
  have hne : ¬ (t0 = b0 ∧ t1 = b1 ∧ t2 = b2 ∧ t3 = b3) := by
    rintro ⟨rfl, rfl, rfl, rfl⟩
    refine hno ⟨by omega, ?_⟩
    rw [hn, Nat.add_sub_cancel, ht, hm, hle]
  have HCMP := Lib.hid (four_others hne)
  rw [ht, if_neg (by omega)] at HR2
  clear hT hr hn hno ht hm hle hne
  generalize z.take k = y at *
  have hk0 : (0 : Int) ≤ (k : Int) := by omega
  have hsl : (k : Int) ≤ (k : Int) + 4 := by omega
  have hck : ¬ c = k := by omega
  have hkc : (k : Int) ≤ (c : Int) := by omega
  go_enter Tryd.func91, Tryd.ntmps91
  go_wp2_with fail
  go_still_tail 4, (by kernel_rfl)
  change wpList _ _ _ _ _ (w.alloc _).drew
  refine wpList_copy_splice rfl (.tmp 12) (.tmp 15) 80 80 rfl 5 Tryd.underlying80 Tryd.size_u8 (some ⟨w.heap.size, 0, none⟩) (A.map (·.add k)) 4 4 4 (c - k) rfl rfl w.heap.size 0 [.int .u8 0, .int .u8 0, .int .u8 0, .int .u8 0] 148 (Row.new w 148 _ (0, 0)).drew (byt [t0, t1, t2, t3]) rfl ?hpos2 (by simp [byt]) (byt_one _) w.heap.size w ((Below.refl _ _).alloc (Nat.le_refl _) _).drew (Nat.le_refl _) ?_
  case hpos2 =>
    intro _
    obtain ⟨g, off, cs, mk, hA, hrow, hcs⟩ := HR2.out (by simp)
    refine ⟨rfl, _, hA, fun j v hj => ?_⟩
    have hjl : j < [t0, t1, t2, t3].length := by
      have := (List.getElem?_eq_some_iff.1 hj).1
      rwa [byt_length] at this
    rw [Addr.add_lit, ((hrow.alloc _).drew).cell, hcs j hjl, hj]
  intro w5 hg5 hb5
  have HF5 := Lib.hid (Four.of_row (show Row w5 w.heap.size 148 (byt [t0, t1, t2, t3]) (0, 0) from hg5.out))
  have HB5 := Lib.hid hb5
  have HS := Lib.hid (sum_four A y k c m w.heap.size t0 t1 t2 t3 w5.drew HTL.out (HT.out.keeps hb5.drew) (HR.out.below hb5.drew (Nat.le_refl _)) (by omega) HM.out HF5.out)
  obtain ⟨f0, f1, f2, f3⟩ := HF5.out
  clear hg5 hb5 HF5
  go_upto_region 6 with fail
  go_frame
  go_cut [23] (fun s wx => s = .bool true ∧ Below w.heap.size w wx)
  case first =>
    go_region_held3 (fun w' => w'.cell? ⟨w.heap.size, 0, none⟩ = some (.int .u8 (t0.toNat : Int)) ∧ w'.cell? ⟨w.heap.size, 1, none⟩ = some (.int .u8 (t1.toNat : Int)) ∧ w'.cell? ⟨w.heap.size, 2, none⟩ = some (.int .u8 (t2.toNat : Int)) ∧ w'.cell? ⟨w.heap.size, 3, none⟩ = some (.int .u8 (t3.toNat : Int))) (go_keep)
      (first
        | (go_at_call 100; refine HS.out.mono ?_; rintro e w6 ⟨rfl, hb6, f0, f1, f2, f3⟩)
        | (go_at_call 99; refine (encoded_held m w.heap.size b0 b1 b2 b3 t0 t1 t2 t3 _ HML.out HLE.out ?_).mono ?_; (exact ⟨by assumption, by assumption, by assumption, by assumption⟩); rintro e w7 ⟨rfl, hb7, f0, f1, f2, f3⟩))
    all_goals
      go_wp2_with fail
      go_meet
      exact ⟨by rw [HCMP.out], (HB5.out.drew.trans (hb6.mono HB5.out.size)).trans (hb7.mono (Nat.le_trans HB5.out.size hb6.size))⟩
  case rest =>
    obtain ⟨rfl, hb⟩ := hcut
    go_wp2
    go_ret2
    exact ⟨rfl, hb⟩

/-- A slice of new bytes, and true. -/
def NewT (w : World) (n : Nat) (r : List UInt8) (e : Ending) (w' : World) : Prop :=
  ∃ g cap, e = .returned (.tuple #[.slice (some ⟨g, 0, none⟩) n cap, .bool true]) ∧ r.length = n ∧ n ≤ cap ∧ Reads 5 w' (some ⟨g, 0, none⟩) r ∧ Below w.heap.size w w'

set_option maxRecDepth 100000 in
set_option maxHeartbeats 2000000 in
theorem open_takes {T : TypeId} (A : Option Addr) (z : List UInt8) (n c : Nat) (w : World) (hn : z.length = n) (hT : Tab w) (hr : Reads T w A z) (h4 : 4 ≤ n) (hl : n ≤ 1000000) (hc : n ≤ c) (hyes : Sealed z) :
    Calls Tryd.prog 91 #[.slice A n c] w (NewT w (n - 4) (z.take (n - 4))) := by
  obtain ⟨k, rfl⟩ : ∃ k, n = k + 4 := ⟨n - 4, by omega⟩
  have HT := Lib.hid hT
  have HR := Lib.hid (hr.take k)
  have HR2 := Lib.hid (hr.drop k c (by omega))
  obtain ⟨t0, t1, t2, t3, ht⟩ : ∃ t0 t1 t2 t3, z.drop k = [t0, t1, t2, t3] := by
    have : (z.drop k).length = 4 := by rw [List.length_drop]; omega
    match z.drop k, this with
    | [a, b, c, d], _ => exact ⟨a, b, c, d, rfl⟩
  have HTL := Lib.hid (show (z.take k).length = k by rw [List.length_take]; omega)
  obtain ⟨m, hm⟩ : ∃ m, more_ 0 (z.take k) = m := ⟨_, rfl⟩
  have HM := Lib.hid hm
  have HML := Lib.hid (show m < 4294967296 by rw [← hm]; exact more_lt 0 _ (by decide))
  obtain ⟨b0, b1, b2, b3, hle⟩ : ∃ b0 b1 b2 b3 : UInt8, le4 m = [b0, b1, b2, b3] := ⟨_, _, _, _, rfl⟩
  have HLE := Lib.hid hle
  have hsame : t0 = b0 ∧ t1 = b1 ∧ t2 = b2 ∧ t3 = b3 := by
    have h := hyes.2
    rw [hn, Nat.add_sub_cancel, ht, hm, hle] at h
    injection h with h0 h
    injection h with h1 h
    injection h with h2 h
    injection h with h3 h
    exact ⟨h0, h1, h2, h3⟩
  obtain ⟨rfl, rfl, rfl, rfl⟩ := hsame
  have HCMP := Lib.hid (four_same t0 t1 t2 t3)
  rw [Nat.add_sub_cancel]
  rw [ht, if_neg (by omega)] at HR2
  clear hT hr hn hyes ht hm hle
  generalize z.take k = y at *
  have hk0 : (0 : Int) ≤ (k : Int) := by omega
  have hsl : (k : Int) ≤ (k : Int) + 4 := by omega
  have hck : ¬ c = k := by omega
  have hkc : (k : Int) ≤ (c : Int) := by omega
  have hmk := make_bytes k (by omega) (k : Int) rfl
  go_enter Tryd.func91, Tryd.ntmps91
  go_wp2_with fail
  go_still_tail 4, (by kernel_rfl)
  change wpList _ _ _ _ _ (w.alloc _).drew
  refine wpList_copy_splice rfl (.tmp 12) (.tmp 15) 80 80 rfl 5 Tryd.underlying80 Tryd.size_u8 (some ⟨w.heap.size, 0, none⟩) (A.map (·.add k)) 4 4 4 (c - k) rfl rfl w.heap.size 0 [.int .u8 0, .int .u8 0, .int .u8 0, .int .u8 0] 148 (Row.new w 148 _ (0, 0)).drew (byt [t0, t1, t2, t3]) rfl ?hpos2 (by simp [byt]) (byt_one _) w.heap.size w ((Below.refl _ _).alloc (Nat.le_refl _) _).drew (Nat.le_refl _) ?_
  case hpos2 =>
    intro _
    obtain ⟨g, off, cs, mk, hA, hrow, hcs⟩ := HR2.out (by simp)
    refine ⟨rfl, _, hA, fun j v hj => ?_⟩
    have hjl : j < [t0, t1, t2, t3].length := by
      have := (List.getElem?_eq_some_iff.1 hj).1
      rwa [byt_length] at this
    rw [Addr.add_lit, ((hrow.alloc _).drew).cell, hcs j hjl, hj]
  intro w5 hg5 hb5
  have HF5 := Lib.hid (Four.of_row (show Row w5 w.heap.size 148 (byt [t0, t1, t2, t3]) (0, 0) from hg5.out))
  have HB5 := Lib.hid hb5
  have HS := Lib.hid (sum_four A y k c m w.heap.size t0 t1 t2 t3 w5.drew HTL.out (HT.out.keeps hb5.drew) (HR.out.below hb5.drew (Nat.le_refl _)) (by omega) HM.out HF5.out)
  obtain ⟨f0, f1, f2, f3⟩ := HF5.out
  clear hg5 hb5 HF5
  go_upto_region 6 with fail
  go_frame
  go_cut [23] (fun s wx => s = .bool false ∧ Below w.heap.size w wx)
  case first =>
    go_region_held3 (fun w' => w'.cell? ⟨w.heap.size, 0, none⟩ = some (.int .u8 (t0.toNat : Int)) ∧ w'.cell? ⟨w.heap.size, 1, none⟩ = some (.int .u8 (t1.toNat : Int)) ∧ w'.cell? ⟨w.heap.size, 2, none⟩ = some (.int .u8 (t2.toNat : Int)) ∧ w'.cell? ⟨w.heap.size, 3, none⟩ = some (.int .u8 (t3.toNat : Int))) (go_keep)
      (first
        | (go_at_call 100; refine HS.out.mono ?_; rintro e w6 ⟨rfl, hb6, f0, f1, f2, f3⟩)
        | (go_at_call 99; refine (encoded_held m w.heap.size t0 t1 t2 t3 t0 t1 t2 t3 _ HML.out HLE.out ?_).mono ?_; (exact ⟨by assumption, by assumption, by assumption, by assumption⟩); rintro e w7 ⟨rfl, hb7, f0, f1, f2, f3⟩))
    all_goals
      go_wp2_with fail
      go_meet
      exact ⟨by first | rfl | rw [HCMP.out], (HB5.out.drew.trans (hb6.mono HB5.out.size)).trans (hb7.mono (Nat.le_trans HB5.out.size hb6.size))⟩
  case rest =>
    obtain ⟨rfl, hb⟩ := hcut
    have HB := Lib.hid hb
    have HRY := Lib.hid (HR.out.below hb (Nat.le_refl _))
    have HRL := Lib.hid (show (byt y).length = k by rw [byt_length, HTL.out])
    have HSZ := Lib.hid hb.size
    clear hb f0 f1 f2 f3 HS HCMP HR2
    go_wp2_with (with_reducible refine wpList_copy_splice rfl (.tmp 26) (.tmp 27) 80 80 rfl 5 Tryd.underlying80 Tryd.size_u8 (some ⟨wc.heap.size, 0, none⟩) A k k (k + 4) c rfl rfl wc.heap.size 0 (byt (List.replicate k 0)) 5 ?hg (byt y) ?hn ?hpos ?hfit (byt_one y) w.heap.size w ?hb ?hB ?_)
    case hg => exact heap_alloc_new _ _
    case hn => rw [HRL.out]; exact (Nat.min_eq_right (by omega)).symm
    case hfit => rw [HRL.out]; simp [byt]
    case hb => exact HB.out.alloc HSZ.out _
    case hB => exact HSZ.out
    case hpos =>
      intro h0
      rw [byt_length] at h0
      obtain ⟨g, off, cs, mk, hA, hrow, hc⟩ := HRY.out h0
      refine ⟨_, hA, fun j v hj => ?_⟩
      have hjl : j < y.length := by
        have := (List.getElem?_eq_some_iff.1 hj).1
        rwa [byt_length] at this
      rw [Addr.add_lit, (hrow.alloc _).cell, hc j hjl, hj]
    intro w8 hg8 hb8
    have HR8 := Lib.hid (show Row w8 wc.heap.size 5 (byt y) (0, 0) by
      have e : splice (byt (List.replicate k 0)) 0 (byt y) = byt y := by
        have := splice_head y 0
        rw [Nat.add_zero, HTL.out] at this
        rw [this]
        simp
      have := hg8.out
      rw [e] at this
      exact this)
    clear hg8
    go_wp2
    go_ret2
    exact ⟨wc.heap.size, k, rfl, HTL.out, Nat.le_refl _, row_reads HR8.out, hb8⟩

end Go.Proofs.YtjahkaockjhibaaDoor
