/-
  The walks over package block: from, Crash and what it hands on, Copy.
-/
import Derived.Test.YtnmfgmlmjbfdcaaBlkD
import Derived.Laws.Bits64b
import Derived.Test.YtnmfgmlmjbfdcaaBlkC
import Derived.Laws.BitsAllLaws
namespace Go.Proofs.Ytnmfgmlmjbfdcaa
open Go.RowKit

/-- A text from a sector on. -/
def tailOf (s : ByteArray) (k : Nat) : ByteArray := ⟨((txt s).drop (k * 64)).toArray⟩
theorem txt_tail (s : ByteArray) (k : Nat) : txt (tailOf s k) = (txt s).drop (k * 64) := by simp [txt, tailOf]
theorem extract_tail (s : ByteArray) (k j : Nat) (hj : j = min (k * 64) s.size) : s.extract j s.size = tailOf s k := by
  subst hj
  apply ByteArray.ext
  rw [ByteArray.data_extract]
  apply Array.ext'
  rw [Array.toList_extract]
  show _ = (txt s).drop (k * 64)
  rw [← drop_min (txt s) (k * 64), txt_length]
  rw [List.extract_eq_take_drop]
  rw [List.take_of_length_le]
  rw [List.length_drop]
  show (txt s).length - _ ≤ _
  rw [txt_length]; omega

set_option maxRecDepth 100000 in
theorem from_any (b : Int) (s : ByteArray) (k : Nat) (w : World) (hk : k ≤ 256) (hs : s.size ≤ 16384) : Calls Try.prog 54 #[.agg #[.int .i64 b, .string s], .int .i64 (k : Int)] w fun e w' => e = .returned (.string (tailOf s k)) ∧ Below w.heap.size w w' := by
  have h1 : (k : Int) ≤ 256 := by omega
  have h2 : (s.size : Int) ≤ 16384 := by omega
  have HE := Lib.hid (extract_tail s k (min ((k : Int) * 64) (s.size : Int)).toNat (by omega))
  go_enter Try.func54, Try.ntmps54
  go_wp2
  go_ret
  refine ⟨?_, (Below.refl _ _).alloc (Nat.le_refl _) _⟩
  rw [← HE.out]; rfl

theorem low_bit (m k : Nat) (hm : m < 18446744073709551616) : (bits BinOp.and IntKind.u64 ((m : Int) / 2 ^ (k % 64)) 1 == 1) = decide (m / 2 ^ (k % 64) % 2 = 1) := by
  have e : (m : Int) / 2 ^ (k % 64) = ((m / 2 ^ (k % 64) : Nat) : Int) := by simp
  have hle : m / 2 ^ (k % 64) ≤ m := Nat.div_le_self _ _
  rw [e, show (1 : Int) = ((1 : Nat) : Int) from rfl, bits_and_u64_nat _ _ (by omega) (by omega), Nat.and_one_is_mod]
  rw [Bool.eq_iff_iff]
  simp
  omega

/-- A row of numbers, read where it lies. -/
def NumAt (w : World) (A : Option Addr) (i m : Nat) : Prop := ∃ g off, A = some ⟨g, off, none⟩ ∧ w.cell? ⟨g, off + i, none⟩ = some (.int .u64 (m : Int))

set_option maxRecDepth 100000 in
theorem sector_any (b : Int) (s : ByteArray) (k i m U o c K I W n cc : Nat) (A : Option Addr) (L : List Value) (T : TypeId) (w : World) (hk : k < 256) (hs : s.size ≤ 16384) (hm : m < 18446744073709551616)
    (hK : Row w K 54 [.slice A n cc] (0, 0)) (hI : Row w I 3 [.int .i64 (i : Int)] (0, 0)) (hW : Row w W 107 [.int .i64 b, .string s] (0, 0)) (hA : NumAt w A i m) (hi : i < n)
    (hr : Row w U T L (0, 0)) (ho : o + 64 ≤ L.length) (hc : 64 ≤ c) :
    Calls Try.prog 52 #[.int .i64 (k : Int), .slice (some ⟨U, o, none⟩) 64 c, .pointer (some ⟨K, 0, none⟩), .pointer (some ⟨I, 0, none⟩), .pointer (some ⟨W, 0, none⟩)] w fun e w' =>
      e = .returned (.tuple #[]) ∧ Row w' U T (if m / 2 ^ (k % 64) % 2 = 1 then splice L o (byt (pad 64 ((txt s).drop (k * 64)))) else L) (0, 0) ∧ Only (· = U) w w' := by
  obtain ⟨g, off, rfl, hcell⟩ := hA
  have cK : w.cell? ⟨K, 0, none⟩ = some (.slice (some ⟨g, off, none⟩) n cc) := hK.cell 0
  have cI : w.cell? ⟨I, 0, none⟩ = some (.int .i64 (i : Int)) := hI.cell 0
  have cW0 : w.cell? ⟨W, 0, none⟩ = some (.int .i64 b) := hW.cell 0
  have cW1 : w.cell? ⟨W, 1, none⟩ = some (.string s) := hW.cell 1
  have HFR := Lib.hid (from_any b s k w (by omega) hs)
  have HFI := Lib.hid (fun wx (hx : Row wx U T L (0, 0)) => fill_any U o 64 c L T (tailOf s k) wx hx ho hc)
  rw [txt_tail] at HFI
  have HR := Lib.hid hr
  have hi1 : (i : Int) < (n : Int) := by omega
  have hk1 : (k : Int) < 256 := by omega
  clear hK hI hW hr ho hc hs
  go_enter Try.func52, Try.ntmps52
  have HL := Lib.hid (low_bit m k hm)
  by_cases hb : m / 2 ^ (k % 64) % 2 = 1
  · have hbit : (bits BinOp.and IntKind.u64 ((m : Int) / 2 ^ (k % 64)) 1 == 1) = true := by rw [HL.out]; exact decide_eq_true hb
    rw [if_pos hb]
    clear hb HL
    go_wp2_with fail
    refine HFR.out.mono ?_
    rintro e w1 ⟨rfl, hb1⟩
    have HB := Lib.hid hb1
    clear hb1
    go_wp2_with fail
    refine (HFI.out w1 (HR.out.below HB.out HR.out.lt)).mono ?_
    rintro e w2 ⟨rfl, h1, h2⟩
    have H1 := Lib.hid h1
    have H2 := Lib.hid ((Only.below HB.out (· = U)).trans h2)
    clear h1 h2
    go_wp2
    go_end0
    exact ⟨rfl, H1.out, H2.out⟩
  · have hbit : (bits BinOp.and IntKind.u64 ((m : Int) / 2 ^ (k % 64)) 1 == 1) = false := by rw [HL.out]; exact decide_eq_false hb
    rw [if_neg hb]
    clear hb HL
    go_wp2_with fail
    go_end0
    exact ⟨rfl, HR.out, Only.refl _ _⟩

/-- What Crash hands on lies in blocks of its own. -/
structure Handed (w : World) (K I W : Nat) (A : Option Addr) (n cc i m : Nat) (b : Int) (s : ByteArray) : Prop where
  hK : Row w K 54 [.slice A n cc] (0, 0)
  hI : Row w I 3 [.int .i64 (i : Int)] (0, 0)
  hW : Row w W 107 [.int .i64 b, .string s] (0, 0)
  hA : NumAt w A i m
theorem NumAt.only {w w' : World} {A : Option Addr} {i m : Nat} {F : Nat → Prop} (h : NumAt w A i m) (ho : Only F w w') (hF : ∀ g off, A = some ⟨g, off, none⟩ → ¬ F g) : NumAt w' A i m := by
  obtain ⟨g, off, rfl, hc⟩ := h
  exact ⟨g, off, rfl, (World.cell?_of_block (w := w) (ho.block g (World.block_lt_of_cell? w _ hc) (hF g off rfl))).trans hc⟩
theorem Handed.only {w w' : World} {K I W : Nat} {A : Option Addr} {n cc i m : Nat} {b : Int} {s : ByteArray} {F : Nat → Prop} (h : Handed w K I W A n cc i m b s) (ho : Only F w w') (hK : ¬ F K) (hI : ¬ F I) (hW : ¬ F W) (hA : ∀ g off, A = some ⟨g, off, none⟩ → ¬ F g) :
    Handed w' K I W A n cc i m b s := ⟨h.hK.only ho hK, h.hI.only ho hI, h.hW.only ho hW, h.hA.only ho hA⟩

set_option maxRecDepth 100000 in
set_option maxHeartbeats 1000000 in
theorem each_any (d : DV) (b : Nat) (s : ByteArray) (i m K I W n cc : Nat) (A : Option Addr) (x : List UInt8) (w : World) (h : d.Top w) (hb : b < d.nb) (hs : s.size ≤ d.sz) (hm : m < 18446744073709551616)
    (hh : Handed w K I W A n cc i m (b : Int) s) (hi : i < n) (hr : Row w d.U 5 (byt x ++ d.Y) (0, 0)) (hx : x.length = d.all) (hAU : ∀ g off, A = some ⟨g, off, none⟩ → g ≠ d.U) :
    Calls Try.prog 51 #[d.ptr, .int .i64 (b : Int), .func (.func 52) #[] #[.pointer (some ⟨K, 0, none⟩), .pointer (some ⟨I, 0, none⟩), .pointer (some ⟨W, 0, none⟩)]] w fun e w' =>
      e = .returned (.tuple #[]) ∧ Row w' d.U 5 (byt (keepOne d.ns x (b, s) m) ++ d.Y) (0, 0) ∧ Only (· = d.U) w w' := by
  have HP := Lib.hid (piece_any d d.U d.cu b w h hb h.cu)
  have c1 := h.c1
  have c3 := h.c3
  have hns := h.ns2
  have hin := Lib.hid (block_in d.sz hb)
  have HS := Lib.hid (fun (k : Nat) (hk : k < d.ns) => sec_in (ns := d.ns) hb hk)
  have HT := Lib.hid h
  have HSL := Lib.hid (fun (k : Nat) (hk : k < d.ns) => slice_between (P := Try.prog) (t := 69) Try.underlying69 (fun w => by kernel_rfl) d.U (b * d.sz) d.sz (d.cu - b * d.sz) (k * 64) (k * 64 + 64) (by omega)
    (by have h1 : b * d.sz + d.sz ≤ d.nb * d.sz := block_in d.sz hb
        have h2 : d.nb * d.sz ≤ d.cu := h.cu
        have h3 : k * 64 + 64 ≤ d.sz := by show k * 64 + 64 ≤ d.ns * 64; omega
        omega)
    (by have h1 : b * d.sz + d.sz ≤ d.nb * d.sz := block_in d.sz hb
        have h2 : d.nb * d.sz ≤ d.cu := h.cu
        have h3 : k * 64 + 64 ≤ d.sz := by show k * 64 + 64 ≤ d.ns * 64; omega
        omega))
  have HCU := Lib.hid (fun (k : Nat) (hk : k < d.ns) => show 64 ≤ d.cu - b * d.sz - k * 64 from by
    have h1 : b * d.sz + d.sz ≤ d.nb * d.sz := block_in d.sz hb
    have h2 : d.nb * d.sz ≤ d.cu := h.cu
    have h3 : k * 64 + 64 ≤ d.sz := by show k * 64 + 64 ≤ d.ns * 64; omega
    omega)
  have HLEN := Lib.hid (fun (k : Nat) (hk : k ≤ d.ns) => (keepFold_spec d.ns d.nb b s m hb x hx k hk).1)
  have HKO := Lib.hid (show (List.range d.ns).foldl (keepSec (d.ns * 64) b s m) x = keepOne d.ns x (b, s) m from rfl)
  have hs16 : s.size ≤ 16384 := Nat.le_trans hs h.szLe
  have HH := Lib.hid hh
  have HR := Lib.hid hr
  have hq : (d.ns : Int) * 64 / 64 = d.ns := by omega
  have n1 : (d.ns : Int) ≤ 256 := by omega
  have HAU := Lib.hid hAU
  have HKU := Lib.hid (hr.ne_ hh.hK (by decide))
  have HIU := Lib.hid (hr.ne_ hh.hI (by decide))
  have HWU := Lib.hid (hr.ne_ hh.hW (by decide))
  have HHS := Lib.hid (show ∀ wx : World, Only (· = d.U) w wx → Handed wx K I W A n cc i m (b : Int) s from fun wx ho => hh.only ho (fun e => hr.ne_ hh.hK (by decide) e.symm) (fun e => hr.ne_ hh.hI (by decide) e.symm) (fun e => hr.ne_ hh.hW (by decide) e.symm) hAU)
  clear h hs hr hh hx hAU hb HKU HIU HWU HAU HH
  have HC1 := Lib.hid (fun (wx : World) (ho : Only (· = d.U) w wx) => show wx.cell? ⟨d.A, 1, none⟩ = some (.int .i64 ((d.ns * 64 : Nat) : Int)) from (HT.out.only ho (HT.out.AB HR.out) fun k hk e => HT.out.pNe HR.out (by decide) (by rw [← e]; exact hk)).c1)
  unfold DV.ptr at HP ⊢
  go_enter Try.func51, Try.ntmps51
  go_wp2_with fail
  refine HP.out.mono ?_
  rintro e w1 ⟨rfl, n1', rfl⟩
  have hcx : (w.drewN n1').cell? ⟨d.A, 1, none⟩ = some (.int .i64 ((d.ns * 64 : Nat) : Int)) := HC1.out _ ((Only.refl _ w).drewN n1')
  go_wp2_with fail
  go_loopw [7, 8, 21] (fun _ _ j wr => ∃ k : Nat, k ≤ d.ns ∧ j = .int .i64 k ∧ Hid (Row wr d.U 5 (byt ((List.range k).foldl (keepSec (d.ns * 64) b s m) x) ++ d.Y) (0, 0)) ∧ Hid (Only (· = d.U) w wr)) (fun _ _ j _ => d.ns - (intOf j).toNat)
  case atStart => exact ⟨0, Nat.zero_le _, rfl, Lib.hid (HR.out.drewN n1'), Lib.hid ((Only.refl _ w).drewN n1')⟩
  case round =>
    obtain ⟨k, hk, rfl, HRK, HOK⟩ := hrel
    clear hcx c1 c3
    by_cases hlt : k < d.ns
    · have hsl := HSL.out k hlt
      rw [show k * 64 + 64 - k * 64 = 64 by omega] at hsl
      have HHK := HHS.out wr HOK.out
      have HSEC := Lib.hid (sector_any (b : Int) s k i m d.U (b * d.sz + k * 64) (d.cu - b * d.sz - k * 64) K I W n cc A _ 5 wr (by omega) hs16 hm HHK.hK HHK.hI HHK.hW HHK.hA hi HRK.out (by
        rw [List.length_append, byt_length, HLEN.out k (by omega)]
        have := HS.out k hlt
        show b * (d.ns * 64) + k * 64 + 64 ≤ _
        omega) (HCU.out k hlt))
      have e64 : (((k * 64 + 64 : Nat) : Nat) : Int) = (k : Int) * 64 + 64 := by omega
      have e0 : (((k * 64 : Nat) : Nat) : Int) = (k : Int) * 64 := by omega
      rw [e64, e0] at hsl
      clear e64 e0 HHK
      go_wp2_with fail
      refine HSEC.out.mono ?_
      rintro e w2 ⟨rfl, h1, h2⟩
      have HR2 := Lib.hid (show Row w2 d.U 5 (byt ((List.range (k + 1)).foldl (keepSec (d.ns * 64) b s m) x) ++ d.Y) (0, 0) from by
        rw [List.range_succ, List.foldl_append]
        show Row w2 d.U 5 (byt (keepSec (d.ns * 64) b s m ((List.range k).foldl (keepSec (d.ns * 64) b s m) x) k) ++ d.Y) (0, 0)
        unfold keepSec
        have hsc := HS.out k hlt
        split
        · rename_i hc
          rw [if_pos hc, byt_splice _ _ _ _ (by rw [pad_length, HLEN.out k (by omega)]; exact hsc)] at h1
          exact h1
        · rename_i hc
          rw [if_neg hc] at h1
          exact h1)
      have HO2 := Lib.hid (HOK.out.trans h2)
      clear h1 h2 hsl
      go_wp2
      go_roundw
      case rel => exact ⟨k + 1, by omega, by go_num, HR2, HO2⟩
      case measure => simp [intOf]; omega
    · obtain rfl : k = d.ns := by omega
      rw [HKO.out] at HRK
      go_wp2
      go_end0
      exact ⟨rfl, HRK.out, HOK.out⟩

/-- A device behind a power loss: all is what was kept. -/
def DV.crashed (d : DV) (keep : List Nat) : DV := { d with p := .slice none 0 0, pend := [], vis := keepAll d.ns d.dur d.pend keep, dur := keepAll d.ns d.dur d.pend keep }
theorem settle_back {d : DV} {w : World} (h : d.In w) (keep : List Nat) : settle d.sz (keepAll d.ns d.dur d.pend keep) d.pend d.vis = keepAll d.ns d.dur d.pend keep := by
  have hp : ∀ q ∈ d.pend, q.1 < d.nb := fun q hq => (h.fits q hq).1
  have hk : (keepAll d.ns d.dur d.pend keep).length = d.nb * d.sz := keepAll_length d.pend keep d.dur hp h.ld
  refine eq_of_segs d.nb d.sz (settle_length d.sz d.nb _ hk _ d.vis h.lv hp) hk fun b hb => ?_
  rw [settle_seg d.sz d.nb _ hk d.pend d.vis h.lv hp b hb]
  split
  · rfl
  · rename_i hn
    rw [h.same b hb hn]
    exact (keepAll_other d.pend keep d.dur hp h.ld b hn).symm

/-- The first k writes' sectors are kept. -/
def keepUpto (d : DV) (keep : List Nat) (k : Nat) : List UInt8 := keepAll d.ns d.dur (d.pend.take k) (keep.take k)
theorem keepUpto_zero (d : DV) (keep : List Nat) : keepUpto d keep 0 = d.dur := by simp [keepUpto, keepAll]
theorem keepUpto_succ (d : DV) (keep : List Nat) (k : Nat) (h1 : k < d.pend.length) (h2 : k < keep.length) : keepUpto d keep (k + 1) = keepOne d.ns (keepUpto d keep k) d.pend[k] keep[k] := by
  unfold keepUpto keepAll
  rw [List.take_succ_eq_append_getElem h1, List.take_succ_eq_append_getElem h2, List.zip_append (by rw [List.length_take, List.length_take]; omega)]
  simp
theorem keepUpto_all (d : DV) (keep : List Nat) : keepUpto d keep (min d.pend.length keep.length) = keepAll d.ns d.dur d.pend keep := by
  unfold keepUpto keepAll
  congr 1
  exact List.zip_eq_zip_take_min.symm

/-- Numbers in memory that is none of the device's. -/
structure Nums (w : World) (A : Option Addr) (keep : List Nat) : Prop where
  at_ : ∀ i (h : i < keep.length), NumAt w A i keep[i]
  lt : ∀ m ∈ keep, m < 18446744073709551616
theorem Nums.only {w w' : World} {A : Option Addr} {keep : List Nat} {F : Nat → Prop} (h : Nums w A keep) (ho : Only F w w') (hF : ∀ g off, A = some ⟨g, off, none⟩ → ¬ F g) : Nums w' A keep :=
  ⟨fun i hi => (h.at_ i hi).only ho hF, h.lt⟩

set_option maxRecDepth 100000 in
set_option maxHeartbeats 2000000 in
theorem crash_any (d : DV) (w : World) (h : d.In w) (A : Option Addr) (n c : Nat) (keep : List Nat) (hn : keep.length = n) (hN : Nums w A keep) (hA : 0 < n → ∀ g off, A = some ⟨g, off, none⟩ → ¬ d.mine g) (hnm : n ≤ 9223372036854775807) :
    Calls Try.prog 26 #[d.ptr, .slice A n c] w fun e w' => e = .returned (.tuple #[]) ∧ (d.crashed keep).In w' ∧ Only d.mine w w' := by
  obtain ⟨w1, hw1⟩ : ∃ w1, w.alloc (.cells #[.slice A n c] 54) = w1 := ⟨_, rfl⟩
  have hk1 : Row w1 w.heap.size 54 [.slice A n c] (0, 0) := by rw [← hw1]; exact Row.new w 54 [.slice A n c] (0, 0)
  have hd1 : d.In w1 := by rw [← hw1]; exact h.alloc _
  have hb1 : Below w.heap.size w w1 := by rw [← hw1]; exact (Below.refl _ _).alloc (Nat.le_refl _) _
  have hn1 : Nums w1 A keep := hN.only (Only.below hb1 fun _ => False) fun _ _ _ hf => hf
  have hMU : 0 < n → ∀ g off, A = some ⟨g, off, none⟩ → ¬ g = d.U := fun h0 g off e e2 => hA h0 g off e (.inr (.inr (.inl e2)))
  have HNO := Lib.hid (isNone_any d w1 hd1.toTop)
  have HK := Lib.hid hk1
  have HD := Lib.hid hd1
  have HNS := Lib.hid hn1
  have HMU := Lib.hid hMU
  have HB := Lib.hid hb1
  obtain ⟨ad, cap, hp, hcap, hcm, hcells⟩ := hd1.slot
  unfold maxLen at hcm
  have c4 := hd1.c4
  rw [hp] at c4
  have ck : w1.cell? ⟨w.heap.size, 0, none⟩ = some (.slice A n c) := hk1.cell 0
  have HSL := Lib.hid hcells
  have HPV := Lib.hid hp
  have HLN := Lib.hid hn
  have hl1 : (d.pend.length : Int) ≤ 9223372036854775807 := by omega
  have hl2 : (n : Int) ≤ 9223372036854775807 := by omega
  clear h hN hA hk1 hd1 hb1 hn1 hMU hp hcap hcm hcells hn
  unfold DV.ptr at HNO ⊢
  go_enter Try.func26, Try.ntmps26
  go_wp2_with fail
  have HSZ := Lib.hid (show w1.heap.size = w.heap.size + 1 by rw [← hw1]; simp)
  clear hw1
  refine HNO.out.mono ?_
  rintro e w2 ⟨rfl, rfl⟩
  go_wp2_with fail
  go_quiet (fail)
  obtain ⟨M, hM⟩ : ∃ M : Nat, M = min d.pend.length n := ⟨_, rfl⟩
  have hMi : min (d.pend.length : Int) (n : Int) = (M : Int) := by omega
  go_wp2_with fail
  clear hMi
  have HM := Lib.hid hM
  clear hM
  have HO0 := Lib.hid ((Only.refl (· = d.U) w1).drewN nq)
  go_loopw [4, 5, 16] (fun _ _ j wr => ∃ k : Nat, k ≤ M ∧ j = .int .i64 k ∧ Hid (Row wr d.U 5 (byt (keepUpto d keep k) ++ d.Y) (0, 0)) ∧ Hid (Only (· = d.U) w1 wr)) (fun _ _ j _ => M - (intOf j).toNat)
  case atStart => exact ⟨0, Nat.zero_le _, rfl, Lib.hid (by rw [keepUpto_zero]; exact HD.out.dur.drewN nq), HO0⟩
  case round =>
    obtain ⟨k, hk, rfl, HRK, HOK⟩ := hrel
    clear c4 ck HO0
    have HT := Lib.hid (HD.out.toTop.only HOK.out (HD.out.AB HD.out.dur) fun g hg e => HD.out.toTop.pNe HD.out.dur (by decide) (by rw [← e]; exact hg))
    by_cases hlt : k < M
    · have hkp : k < d.pend.length := by have := HM.out; omega
      have hkn : k < n := by have := HM.out; omega
      obtain ⟨g, rfl, hg1, hg2⟩ := HSL.out k hkp
      have hgU : ¬ g = d.U := fun e => HD.out.toTop.pNe HD.out.dur (by decide) (by rw [HPV.out, ← e]; rfl)
      have c4 := HT.out.c4
      rw [HPV.out] at c4
      have hw1 := (World.cell?_of_block (w := w1) (a := ⟨g, k * 2, none⟩) (HOK.out.block g (World.block_lt_of_cell? w1 _ hg1) hgU)).trans hg1
      have hw2 := (World.cell?_of_block (w := w1) (a := ⟨g, k * 2 + 1, none⟩) (HOK.out.block g (World.block_lt_of_cell? w1 _ hg1) hgU)).trans hg2
      have HP1 := Lib.hid (show keepUpto d keep (k + 1) = keepOne d.ns (keepUpto d keep k) (d.pend[k].1, d.pend[k].2) (keep[k]'(by have := HLN.out; omega)) from keepUpto_succ d keep k hkp (by have := HLN.out; omega))
      have HFT := Lib.hid (HD.out.fits d.pend[k] (List.getElem_mem _))
      have HNA := Lib.hid (HNS.out.at_ k (by have := HLN.out; omega))
      have HNL := Lib.hid (HNS.out.lt _ (List.getElem_mem (show k < keep.length by have := HLN.out; omega)))
      obtain ⟨m, hm⟩ : ∃ m, keep[k]'(by have := HLN.out; omega) = m := ⟨_, rfl⟩
      obtain ⟨b, hb⟩ : ∃ b, d.pend[k].1 = b := ⟨_, rfl⟩
      obtain ⟨s, hs⟩ : ∃ s, d.pend[k].2 = s := ⟨_, rfl⟩
      rw [hm] at HP1 HNA HNL
      rw [hb] at HP1 HFT hw1
      rw [hs] at HP1 HFT hw2
      clear hm hb hs hg1 hg2
      have l1 : (k : Int) < (M : Int) := by omega
      have l2 : (k : Int) < (d.pend.length : Int) := by omega
      have HI := Lib.hid (Row.new wr 3 [.int .i64 (k : Int)] (0, 0))
      have hb5 : Below wr.heap.size wr (wr.alloc (.cells #[.int .i64 (k : Int)] 3)) := (Below.refl _ _).alloc (Nat.le_refl _) _
      have HB5 := Lib.hid hb5
      have hz5 : (wr.alloc (.cells #[.int .i64 (k : Int)] 3)).heap.size = wr.heap.size + 1 := by simp
      have hA5 : d.A < wr.heap.size := HT.out.dev.lt
      have hg5 : g < wr.heap.size := World.block_lt_of_cell? wr _ hw1
      have x4 := (hb5.cell (p := ⟨d.A, 4, none⟩) hA5).trans c4
      have x1 := (hb5.cell (p := ⟨g, k * 2, none⟩) hg5).trans hw1
      have x2 := (hb5.cell (p := ⟨g, k * 2 + 1, none⟩) hg5).trans hw2
      have xi : (wr.alloc (.cells #[.int .i64 (k : Int)] 3)).cell? ⟨wr.heap.size, 0, none⟩ = some (.int .i64 (k : Int)) := HI.out.cell 0
      clear c4 hw1 hw2 hb5
      go_wp2_with fail
      obtain ⟨w5, hw5⟩ : ∃ w5, wr.alloc (.cells #[.int .i64 (k : Int)] 3) = w5 := ⟨_, rfl⟩
      rw [hw5] at HI HB5 hz5 x4 x1 x2 xi ⊢
      have yA : d.A < w5.heap.size := by omega
      have yg : g < w5.heap.size := by omega
      have yi : wr.heap.size < w5.heap.size := by omega
      have HZ5 := Lib.hid hz5
      clear hw5 hz5 hA5 hg5
      go_region
      all_goals go_wp2_with fail
      have HB6 := Lib.hid (show Below wr.heap.size wr (w5.alloc (.cells #[.int .i64 (b : Int), .string s] 107)).drew from (HB5.out.alloc HB5.out.size _).drew)
      have HW6 := Lib.hid (show Row (w5.alloc (.cells #[.int .i64 (b : Int), .string s] 107)).drew w5.heap.size 107 [.int .i64 (b : Int), .string s] (0, 0) from (Row.new w5 107 [.int .i64 (b : Int), .string s] (0, 0)).drew)
      have HI6 := Lib.hid (show Row (w5.alloc (.cells #[.int .i64 (b : Int), .string s] 107)).drew wr.heap.size 3 [.int .i64 (k : Int)] (0, 0) from (HI.out.alloc _).drew)
      obtain ⟨w6, hw6⟩ : ∃ w6, (w5.alloc (.cells #[.int .i64 (b : Int), .string s] 107)).drew = w6 := ⟨_, rfl⟩
      rw [hw6] at HB6 HW6 HI6 ⊢
      clear hw6 xi x2 x1 x4 yA yg yi HI HB5
      have HO6 := Lib.hid (HOK.out.trans (Only.below HB6.out _))
      have HK6 := Lib.hid (HK.out.only HO6.out fun e => HD.out.dur.ne_ HK.out (by decide) e.symm)
      have HEA := Lib.hid (each_any d b s k m w.heap.size wr.heap.size w5.heap.size n c A (keepUpto d keep k) w6 (HT.out.keeps HB6.out) HFT.out.1 HFT.out.2 HNL.out ⟨HK6.out, HI6.out, HW6.out, HNA.out.only HO6.out (HMU.out (by omega))⟩ hkn (HRK.out.below HB6.out HRK.out.lt)
        (keepAll_length _ _ _ (fun q hq => (HD.out.fits q (List.mem_of_mem_take hq)).1) HD.out.ld) (HMU.out (by omega)))
      refine HEA.out.mono ?_
      rintro e w7 ⟨rfl, h1, h2⟩
      have HR7 := Lib.hid (show Row w7 d.U 5 (byt (keepUpto d keep (k + 1)) ++ d.Y) (0, 0) by rw [HP1.out]; exact h1)
      have HO7 := Lib.hid (HO6.out.trans h2)
      clear h1 h2
      go_wp2
      go_roundw
      case rel => exact ⟨k + 1, by omega, by go_num, HR7, HO7⟩
      case measure => simp [intOf]; omega
    · obtain rfl : k = M := by omega
      have c2 : wr.drew.cell? ⟨d.A, 2, none⟩ = some (.slice (some ⟨d.V, 0, none⟩) d.all d.cv) := HT.out.c2
      have c3 : wr.drew.cell? ⟨d.A, 3, none⟩ = some (.slice (some ⟨d.U, 0, none⟩) d.all d.cu) := HT.out.c3
      have HRA := Lib.hid (show Row wr d.U 5 (byt (keepAll d.ns d.dur d.pend keep) ++ d.Y) (0, 0) by
        have := HRK.out
        rw [HM.out, ← HLN.out, keepUpto_all] at this
        exact this)
      have HKL := Lib.hid (keepAll_length (ns := d.ns) (n := d.nb) d.pend keep d.dur (fun q hq => (HD.out.fits q hq).1) HD.out.ld)
      have HRV := Lib.hid (HD.out.vis.only HOK.out HD.out.ne)
      have HSE := Lib.hid (settle_any d d.V d.cv d.U d.cu d.vis (keepAll d.ns d.dur d.pend keep) d.X d.Y wr.drew (HT.out.drewN 1) HRV.out.drew HRA.out.drew HD.out.ne HD.out.lv HKL.out HD.out.cv HD.out.cu)
      have HF := Lib.hid (fun (w' : World) (hV : Row w' d.V 5 (byt (settle d.sz (keepAll d.ns d.dur d.pend keep) d.pend d.vis) ++ d.X) (0, 0)) (hA : Row w' d.A 94 d.clean.cells (0, 0)) (ho : Only (fun k => k = d.V ∨ k = d.A) wr.drew w') =>
        show (d.crashed keep).In w' ∧ Only d.mine w w' from by
          rw [settle_back HD.out keep] at hV
          refine ⟨In_cleaned HD.out hA hV (HRA.out.drew.only ho ?_) rfl HKL.out, ?_⟩
          · rintro (e | e)
            · exact HD.out.ne e.symm
            · exact HD.out.AB HD.out.dur e.symm
          · have h1 : Only d.mine w w1 := Only.below HB.out _
            have h2 : Only d.mine w1 wr := HOK.out.imp fun k _ e => .inr (.inr (.inl e))
            have h3 : Only d.mine wr.drew w' := ho.imp (by
              rintro k _ (e | e)
              · exact .inr (.inl e)
              · exact .inl e)
            exact (h1.trans h2.drew).trans h3)
      unfold DV.ptr at HSE
      have hmin : min (d.pend.length : Int) (n : Int) ≤ (k : Int) := by have := HM.out; omega
      go_wp2_with fail
      clear hmin
      go_still_tail 9, (by kernel_rfl)
      change wpList _ _ _ _ _ wr.drew
      go_wp2_with fail
      refine HSE.out.mono ?_
      rintro e w9 ⟨rfl, h1, h2, h3⟩
      have HE := Lib.hid (HF.out w9 h1 h2 h3)
      clear h1 h2 h3
      go_wp2
      go_end0
      exact ⟨rfl, HE.out⟩

end Go.Proofs.Ytnmfgmlmjbfdcaa

/-
  A device of the walk's own; the head of the statements; a text of an act.
-/
namespace Go.Proofs.Ytnmfgmlmjbfdcaa
open Go.RowKit

/-- A device that has come since W; what was there is as it was. -/
structure Since (W : World) (d : DV) (w : World) : Prop where
  dev : d.In w
  below : Below W.heap.size W w
  new : ∀ k, d.mine k → W.heap.size ≤ k

section
variable {W w w' : World} {d : DV}
theorem DV.In.notMine {g : Nat} {t : TypeId} {cs : List Value} {m : Nat × Nat} (h : d.In w) (hr : Row w g t cs m) (h1 : 94 ≠ t) (h2 : 5 ≠ t) (h3 : t ≠ 107) : ¬ d.mine g := by
  rintro (e | e | e | e)
  · exact h.dev.ne_ hr h1 e.symm
  · exact h.vis.ne_ hr h2 e.symm
  · exact h.dur.ne_ hr h2 e.symm
  · exact h.toTop.pNe hr h3 e
theorem Since.keeps (h : Since W d w) (hb : Below w.heap.size w w') : Since W d w' := ⟨h.dev.keeps hb, h.below.trans (hb.mono h.below.size), h.new⟩
theorem Since.drewN (h : Since W d w) (n : Nat) : Since W d (w.drewN n) := h.keeps ⟨rfl, rfl, rfl, Nat.le_refl _, fun _ _ => rfl⟩
theorem Since.drew (h : Since W d w) : Since W d w.drew := h.keeps ⟨rfl, rfl, rfl, Nat.le_refl _, fun _ _ => rfl⟩
theorem Since.alloc (h : Since W d w) (o : Obj) : Since W d (w.alloc o) := h.keeps ((Below.refl _ _).alloc (Nat.le_refl _) o)
theorem Only.upTo {F : Nat → Prop} {B : Nat} (ho : Only F w w') (hB : B ≤ w.heap.size) (hF : ∀ k, k < B → ¬ F k) : Below B w w' :=
  ⟨ho.os, ho.tape, ho.output, ho.size, fun k hk => ho.block k (Nat.lt_of_lt_of_le hk hB) (hF k hk)⟩
theorem Since.then (h : Since W d w) (ho : Only d.mine w w') : Below W.heap.size W w' :=
  h.below.trans (ho.upTo h.below.size fun k hk hm => by have := h.new k hm; omega)

theorem since_new {nb ns : Nat} {e : Ending} (h : NewDev nb ns W e w) : ∃ d : DV, e = .returned (.tuple #[d.ptr, .int .i64 0]) ∧ Since W d w ∧ d.nb = nb ∧ d.ns = ns ∧ d.vis = List.replicate (nb * (ns * 64)) 0 ∧ d.dur = List.replicate (nb * (ns * 64)) 0 ∧ d.pend = [] := by
  obtain ⟨d, he, h1, h2, h3, h4⟩ := h
  exact ⟨d, he, ⟨h1, h2, h3⟩, h4⟩
theorem write_since (h : Since W d w) (b : Nat) (s : ByteArray) (hb : b < d.nb) (hs : s.size ≤ d.sz) (hl : d.pend.length ≤ 1000000) :
    Calls Try.prog 28 #[d.ptr, .int .i64 (b : Int), .string s] w fun e w' => ∃ p, e = .returned (.int .i64 0) ∧ Since W (d.wrote b s p) w' ∧ Only d.mine w w' := by
  refine (write_good d b s w h.dev hb hs hl).mono ?_
  rintro e w' ⟨p, he, h1, h2, h3⟩
  refine ⟨p, he, ⟨h1, h.then h2, ?_⟩, h2⟩
  rintro k (e | e | e | e)
  · exact h.new k (.inl e)
  · exact h.new k (.inr (.inl e))
  · exact h.new k (.inr (.inr (.inl e)))
  · rcases h3 k e with e | e
    · exact h.new k (.inr (.inr (.inr e)))
    · exact Nat.le_trans h.below.size e
theorem cleaned_new (h : Since W d w) {k : Nat} (hk : k = d.A ∨ k = d.V ∨ k = d.U ∨ (Value.slice none 0 0).ownBlock = some k) : W.heap.size ≤ k := by
  rcases hk with e | e | e | e
  · exact h.new k (.inl e)
  · exact h.new k (.inr (.inl e))
  · exact h.new k (.inr (.inr (.inl e)))
  · cases e
theorem sync_since (h : Since W d w) : Calls Try.prog 47 #[d.ptr] w fun e w' => e = .returned (.int .i64 0) ∧ Since W d.synced w' ∧ Only d.mine w w' := by
  refine (sync_any d w h.dev).mono ?_
  rintro e w' ⟨he, h1, h2⟩
  exact ⟨he, ⟨h1, h.then h2, fun k hk => cleaned_new h hk⟩, h2⟩
theorem crash_since (h : Since W d w) (A : Option Addr) (n c : Nat) (keep : List Nat) (hn : keep.length = n) (hN : Nums w A keep) (hA : 0 < n → ∀ g off, A = some ⟨g, off, none⟩ → ¬ d.mine g) (hnm : n ≤ 9223372036854775807) :
    Calls Try.prog 26 #[d.ptr, .slice A n c] w fun e w' => e = .returned (.tuple #[]) ∧ Since W (d.crashed keep) w' ∧ Only d.mine w w' := by
  refine (crash_any d w h.dev A n c keep hn hN hA hnm).mono ?_
  rintro e w' ⟨he, h1, h2⟩
  exact ⟨he, ⟨h1, h.then h2, fun k hk => cleaned_new h hk⟩, h2⟩
theorem read_since (h : Since W d w) (b : Int) : Calls Try.prog 32 #[d.ptr, .int .i64 b] w fun e w' => e = .returned (.tuple #[.string (d.read b), .int .i64 (chk d b)]) ∧ ∃ n, w' = w.drewN n := read_any d w h.dev b
end

/-- So many bytes. -/
def rep (c : UInt8) (n : Nat) : ByteArray := ⟨(List.replicate n c).toArray⟩
theorem rep_size (c : UInt8) (n : Nat) : (rep c n).size = n := by
  show (List.replicate n c).toArray.size = n
  simp
theorem rep_push (c : UInt8) (n : Nat) : rep c n ++ ⟨#[c]⟩ = rep c (n + 1) := by
  apply ByteArray.ext
  rw [ByteArray.data_append]
  apply Array.ext'
  simp [rep, List.replicate_succ']

theorem head_one (A V U cv cu : Nat) (p p1 : Value) (X Y : List Value) : (DV.wrote ⟨A, V, U, cv, cu, p, X, Y, 2, 2, List.replicate (2 * (2 * 64)) 0, List.replicate (2 * (2 * 64)) 0, []⟩ 0 ⟨#[97]⟩ p1).read 0 = ⟨#[97]⟩ ++ (rep 0 129).extract 0 127 := by
  show (⟨(seg (splice (List.replicate (2 * (2 * 64)) 0) 0 (pad 128 [97])) 0 128).toArray⟩ : ByteArray) = _
  decide +kernel
theorem head_two (A V U cv cu : Nat) (p p1 : Value) (X Y : List Value) : (DV.crashed (DV.wrote ⟨A, V, U, cv, cu, p, X, Y, 2, 2, List.replicate (2 * (2 * 64)) 0, List.replicate (2 * (2 * 64)) 0, []⟩ 0 ⟨#[97]⟩ p1) []).read 0 = (rep 0 129).extract 0 128 := by
  show (⟨(seg (List.replicate (2 * (2 * 64)) 0) 0 128).toArray⟩ : ByteArray) = _
  decide +kernel
theorem head_three (A V U cv cu : Nat) (p p1 p2 : Value) (X Y : List Value) : (DV.crashed (DV.wrote (DV.crashed (DV.wrote ⟨A, V, U, cv, cu, p, X, Y, 2, 2, List.replicate (2 * (2 * 64)) 0, List.replicate (2 * (2 * 64)) 0, []⟩ 0 ⟨#[97]⟩ p1) []) 1 (rep 120 128) p2) [2]).read 1 = (rep 0 129).extract 0 64 ++ (rep 120 128).extract 0 64 := by
  show (⟨(seg (keepAll 2 (List.replicate (2 * (2 * 64)) 0) [(1, rep 120 128)] [2]) 128 128).toArray⟩ : ByteArray) = _
  decide +kernel

theorem zeros_text (n : Nat) (w : World) : (convert 69 9 (.slice (some ⟨w.heap.size, 0, none⟩) n n)).run Try.prog (w.alloc (.cells (byt (List.replicate n 0)).toArray 5)) = .ok (.string (rep 0 n)) (w.alloc (.cells (byt (List.replicate n 0)).toArray 5)) :=
  text_bytes (T := 5) _ (List.replicate n 0) n n _ (by simp) fun _ => ⟨w.heap.size, 0, _, _, rfl, Row.new w 5 (byt (List.replicate n 0)) (0, 0), fun j _ => by rw [Nat.zero_add]⟩

/-- string(make([]byte, n)): n a number written out. -/
theorem zeros_made (n : Nat) (hn : n ≤ 100000) (i : Int) (hi : i = (n : Int)) : ∃ o : Obj, (∀ w : World, (Instr.makeSlice 69 (.int .i64 i) (.int .i64 i)).run Try.prog w = .ok (.slice (some ⟨w.heap.size, 0, none⟩) n n) (w.alloc o)) ∧
    (∀ w : World, (convert 69 9 (.slice (some ⟨w.heap.size, 0, none⟩) n n)).run Try.prog (w.alloc o) = .ok (.string (rep 0 n)) (w.alloc o)) :=
  ⟨_, fun w => makeZeros n (by omega) i hi w, fun w => zeros_text n w⟩

end Go.Proofs.Ytnmfgmlmjbfdcaa

/-
  An act's text.
-/
namespace Go.Proofs.Ytnmfgmlmjbfdcaa
open Go.RowKit

/-- How many bytes an act's text has. -/
def many (N : Int) : Nat := if N < 0 ∨ 300 < N then 300 else N.toNat
theorem many_le (N : Int) : many N ≤ 300 := by unfold many; split <;> omega
/-- A byte of it. -/
def byteOf (c i : Nat) : UInt8 := UInt8.ofNat (c + i / 64)
/-- The text. -/
def textOf (N : Int) (c : Nat) : ByteArray := ⟨((List.range (many N)).map (byteOf c)).toArray⟩
theorem textOf_size (N : Int) (c : Nat) : (textOf N c).size = many N := by
  show (((List.range (many N)).map (byteOf c)).toArray).size = _
  simp
/-- The bytes when k of n are there. -/
def told (c n k : Nat) : List UInt8 := (List.range k).map (byteOf c) ++ List.replicate (n - k) 0
theorem told_length (c n k : Nat) (h : k ≤ n) : (told c n k).length = n := by simp [told]; omega
theorem told_set (c n k : Nat) (h : k < n) : (byt (told c n k)).set k (.int .u8 ((byteOf c k).toNat : Int)) = byt (told c n (k + 1)) := by
  have e : (.int .u8 ((byteOf c k).toNat : Int) : Value) = (fun c : UInt8 => Value.int .u8 (c.toNat : Int)) (byteOf c k) := rfl
  unfold byt
  rw [e, ← List.map_set]
  congr 1
  unfold told
  rw [List.set_append_right _ _ (by simp), List.length_map, List.length_range, Nat.sub_self, List.range_succ, List.map_append, List.append_assoc]
  congr 1
  obtain ⟨m, hm⟩ : ∃ m, n - k = m + 1 := ⟨n - k - 1, by omega⟩
  rw [hm, show n - (k + 1) = m by omega, List.replicate_succ]
  rfl
theorem wrap_byte (c k : Nat) : IntKind.u8.wrap ((c : Int) + (k : Int) / 64) = ((byteOf c k).toNat : Int) := by
  unfold byteOf
  rw [UInt8.toNat_ofNat', IntKind.wrap_u8']
  omega

/-- An act in cells. -/
def actCells (what : Nat) (B N : Int) (c : Nat) (A : Option Addr) (n cap : Nat) : List Value := [.int .u8 (what : Int), .int .i64 B, .int .i64 N, .int .u8 (c : Int), .slice A n cap]

end Go.Proofs.Ytnmfgmlmjbfdcaa

/-
  Acts of an argument; what a device reads behind a write, a sync, a power loss.
-/
namespace Go.Proofs.Ytnmfgmlmjbfdcaa
open Go.RowKit

/-- An act. -/
structure ActV where
  what : Nat
  B : Int
  N : Int
  c : Nat
  A : Option Addr
  n : Nat
  cap : Nat
  keep : List Nat
instance : Inhabited ActV := ⟨⟨0, 0, 0, 0, none, 0, 0, []⟩⟩
def ActV.cells (x : ActV) : List Value := actCells x.what x.B x.N x.c x.A x.n x.cap

/-- A slice of numbers of an argument. -/
structure Old (W : World) (A : Option Addr) (n : Nat) (keep : List Nat) : Prop where
  len : keep.length = n
  big : n ≤ 9223372036854775807
  nums : Nums W A keep
  old : 0 < n → ∀ g off, A = some ⟨g, off, none⟩ → g < W.heap.size
structure ActV.Ok (W : World) (x : ActV) : Prop where
  c : x.c < 256
  what : x.what < 256
  B1 : -9223372036854775808 ≤ x.B
  B2 : x.B ≤ 9223372036854775807
  keep : Old W x.A x.n x.keep
/-- A slice of acts of an argument. -/
structure Acts (W : World) (A : Option Addr) (l : List ActV) : Prop where
  ok : ∀ x ∈ l, x.Ok W
  at_ : ∀ (i : Nat) (h : i < l.length), ∃ g off, A = some ⟨g, off, none⟩ ∧ g < W.heap.size ∧ ∀ j, j < 5 → W.cell? ⟨g, off + i * 5 + j, none⟩ = (l[i].cells)[j]?
theorem Acts.cells {W w : World} {A : Option Addr} {l : List ActV} (h : Acts W A l) (hb : Below W.heap.size W w) {i : Nat} (hi : i < l.length) : ∃ g off, A = some ⟨g, off, none⟩ ∧
    w.cell? ⟨g, off + i * 5, none⟩ = some (.int .u8 (l[i].what : Int)) ∧ w.cell? ⟨g, off + i * 5 + 1, none⟩ = some (.int .i64 l[i].B) ∧ w.cell? ⟨g, off + i * 5 + 2, none⟩ = some (.int .i64 l[i].N) ∧
    w.cell? ⟨g, off + i * 5 + 3, none⟩ = some (.int .u8 (l[i].c : Int)) ∧ w.cell? ⟨g, off + i * 5 + 4, none⟩ = some (.slice l[i].A l[i].n l[i].cap) := by
  obtain ⟨g, off, hA, hg, hc⟩ := h.at_ i hi
  have key : ∀ j, j < 5 → w.cell? ⟨g, off + i * 5 + j, none⟩ = (l[i].cells)[j]? := fun j hj => (hb.cell (p := ⟨g, off + i * 5 + j, none⟩) hg).trans (hc j hj)
  exact ⟨g, off, hA, key 0 (by omega), key 1 (by omega), key 2 (by omega), key 3 (by omega), key 4 (by omega)⟩
theorem Old.crash {W w : World} {A : Option Addr} {n : Nat} {keep : List Nat} {d : DV} (h : Old W A n keep) (hs : Since W d w) (c : Nat) :
    Calls Try.prog 26 #[d.ptr, .slice A n c] w fun e w' => e = .returned (.tuple #[]) ∧ Since W (d.crashed keep) w' ∧ Only d.mine w w' :=
  crash_since hs A n c keep h.len ⟨fun i hi => by
      obtain ⟨g, off, hA, hc⟩ := h.nums.at_ i hi
      exact ⟨g, off, hA, (hs.below.cell (p := ⟨g, off + i, none⟩) (h.old (by have := h.len; omega) g off hA)).trans hc⟩, h.nums.lt⟩
    (fun h0 g off hA hm => by
      have h1 := h.old h0 g off hA
      have h2 := hs.new g hm
      omega) h.big

section
variable {d : DV} {w : World}
/-- The bytes of block b, as a text. -/
def DV.block (d : DV) (b : Nat) : ByteArray := ⟨(seg d.vis (b * d.sz) d.sz).toArray⟩
theorem read_block (d : DV) (b : Nat) (hb : b < d.nb) : d.read (b : Int) = d.block b := by
  unfold DV.read
  rw [if_pos (show chk d b = 0 from if_pos (by omega))]
  rfl
theorem chk_in (d : DV) (b : Nat) (hb : b < d.nb) : chk d (b : Int) = 0 := if_pos (by omega)
theorem block_wrote (h : d.In w) {b : Nat} (hb : b < d.nb) (s : ByteArray) (p : Value) (k : Nat) : (d.wrote b s p).block k = if k = b then ⟨(pad d.sz (txt s)).toArray⟩ else d.block k := by
  have hlen : (pad d.sz (txt s)).length = d.sz := pad_length _ _
  have hfit : b * d.sz + (pad d.sz (txt s)).length ≤ d.vis.length := by rw [hlen, h.lv]; exact block_in d.sz hb
  show (⟨(seg (splice d.vis (b * d.sz) (pad d.sz (txt s))) (k * d.sz) d.sz).toArray⟩ : ByteArray) = _
  by_cases hk : k = b
  · subst hk
    rw [if_pos rfl, seg_splice_same _ _ _ hfit hlen]
  · rw [if_neg hk, seg_splice_far _ _ _ hfit _ _ (by rw [hlen]; exact blocks_far d.sz hk)]
    rfl
theorem block_synced (d : DV) (k : Nat) : d.synced.block k = d.block k := rfl
theorem crashed_clean (d : DV) (keep : List Nat) (h : d.pend = []) (k : Nat) : (d.crashed keep).block k = ⟨(seg d.dur (k * d.sz) d.sz).toArray⟩ := by
  show (⟨(seg (keepAll d.ns d.dur d.pend keep) (k * d.sz) d.sz).toArray⟩ : ByteArray) = _
  rw [h]; rfl
theorem pad_text (n : Nat) (s : ByteArray) (h : s.size ≤ n) : (⟨(pad n (txt s)).toArray⟩ : ByteArray) = s ++ (rep 0 n).extract s.size n := by
  apply ByteArray.ext
  rw [ByteArray.data_append, ByteArray.data_extract]
  apply Array.ext'
  rw [Array.toList_append, Array.toList_extract]
  unfold pad
  rw [List.take_of_length_le (by rw [txt_length]; exact h)]
  show txt s ++ _ = txt s ++ _
  congr 1
  show _ = (List.replicate n 0).extract s.size n
  rw [List.extract_eq_take_drop, List.drop_replicate, List.take_replicate, Nat.min_self]
  rfl
theorem write_answer (h : d.In w) (b : Int) (s : ByteArray) (hb : ¬ (0 ≤ b ∧ b < d.nb ∧ s.size ≤ d.sz)) :
    ∃ m : Int, m ≠ 0 ∧ Calls Try.prog 28 #[d.ptr, .int .i64 b, .string s] w fun e w' => e = .returned (.int .i64 m) ∧ w = w' := by
  by_cases h1 : 0 ≤ b ∧ b < d.nb
  · obtain ⟨k, rfl⟩ : ∃ k : Nat, b = k := ⟨b.toNat, by omega⟩
    exact ⟨3, by omega, write_long d k s w h (by omega) (by omega)⟩
  · exact ⟨2, by omega, write_bad d b s w h h1⟩
end
end Go.Proofs.Ytnmfgmlmjbfdcaa

/-
  What an act does to a device, told by what stays: its place, its numbers of blocks and sectors; and all of its bytes.
-/
namespace Go.Proofs.Ytnmfgmlmjbfdcaa
open Go.RowKit

/-- One call on. -/
structure Moved (W : World) (d : DV) (w : World) (d' : DV) (w' : World) : Prop where
  since : Since W d' w'
  only : Only d.mine w w'
  A : d'.A = d.A
  nb : d'.nb = d.nb
  ns : d'.ns = d.ns
  pend : d'.pend.length ≤ d.pend.length + 1
  mine : ∀ k, d'.mine k → d.mine k ∨ w.heap.size ≤ k

section
variable {W w : World} {d : DV}
theorem Moved.none {w' : World} (h : Since W d w) (hb : Below w.heap.size w w') : Moved W d w d w' := ⟨h.keeps hb, Only.below hb _, rfl, rfl, rfl, by omega, fun _ hk => .inl hk⟩
theorem Moved.from {w0 w' : World} {d' : DV} (hb : Below w0.heap.size w0 w) (h : Moved W d w d' w') : Moved W d w0 d' w' :=
  ⟨h.since, (Only.below hb _).trans h.only, h.A, h.nb, h.ns, h.pend, fun k hk => (h.mine k hk).imp id fun e => Nat.le_trans hb.size e⟩
theorem write_moved (h : Since W d w) (b : Int) (s : ByteArray) (hl : d.pend.length ≤ 1000000) :
    Calls Try.prog 28 #[d.ptr, .int .i64 b, .string s] w fun e w' => ∃ (m : Int) (d' : DV), e = .returned (.int .i64 m) ∧ Hid (Moved W d w d' w') := by
  by_cases hw : 0 ≤ b ∧ b < d.nb ∧ s.size ≤ d.sz
  · obtain ⟨k, rfl⟩ : ∃ k : Nat, b = k := ⟨b.toNat, by omega⟩
    refine (write_good d k s w h.dev (by omega) hw.2.2 hl).mono ?_
    rintro e w' ⟨p, he, h1, h2, h3⟩
    have hmine : ∀ x, (d.wrote k s p).mine x → d.mine x ∨ w.heap.size ≤ x := by
      rintro x (e | e | e | e)
      · exact .inl (.inl e)
      · exact .inl (.inr (.inl e))
      · exact .inl (.inr (.inr (.inl e)))
      · rcases h3 x e with e | e
        · exact .inl (.inr (.inr (.inr e)))
        · exact .inr e
    refine ⟨0, d.wrote k s p, he, Lib.hid ⟨⟨h1, h.then h2, fun x hx => ?_⟩, h2, rfl, rfl, rfl, ?_, hmine⟩⟩
    · rcases hmine x hx with e | e
      · exact h.new x e
      · exact Nat.le_trans h.below.size e
    · show (d.pend ++ [(k, s)]).length ≤ _
      simp
  · obtain ⟨m, _, hc⟩ := write_answer h.dev b s hw
    refine hc.mono ?_
    rintro e w' ⟨he, rfl⟩
    exact ⟨m, d, he, Lib.hid (Moved.none h (Below.refl _ _))⟩
theorem cleaned_mine {k : Nat} (hk : k = d.A ∨ k = d.V ∨ k = d.U ∨ (Value.slice none 0 0).ownBlock = some k) : d.mine k := by
  rcases hk with e | e | e | e
  · exact .inl e
  · exact .inr (.inl e)
  · exact .inr (.inr (.inl e))
  · cases e
theorem sync_moved (h : Since W d w) : Calls Try.prog 47 #[d.ptr] w fun e w' => e = .returned (.int .i64 0) ∧ Hid (Moved W d w d.synced w') := by
  refine (sync_since h).mono ?_
  rintro e w' ⟨he, h1, h2⟩
  exact ⟨he, Lib.hid ⟨h1, h2, rfl, rfl, rfl, by show 0 ≤ _; omega, fun k hk => .inl (cleaned_mine hk)⟩⟩
theorem crash_moved {A : Option Addr} {n : Nat} {keep : List Nat} (ho : Old W A n keep) (h : Since W d w) (c : Nat) : Calls Try.prog 26 #[d.ptr, .slice A n c] w fun e w' => e = .returned (.tuple #[]) ∧ Hid (Moved W d w (d.crashed keep) w') := by
  refine (ho.crash h c).mono ?_
  rintro e w' ⟨he, h1, h2⟩
  exact ⟨he, Lib.hid ⟨h1, h2, rfl, rfl, rfl, by show 0 ≤ _; omega, fun k hk => .inl (cleaned_mine hk)⟩⟩
end

set_option maxRecDepth 100000 in
theorem enters_write : Enters Try.prog 28 := enters_of Try.func28 (by kernel_rfl) rfl

def Acted (W : World) (d : DV) (w : World) (e : Ending) (w' : World) : Prop := ∃ d', e = .returned (.tuple #[]) ∧ Hid (Moved W d w d' w')

/-- All of a device's bytes. -/
def allOf (d : DV) (k : Nat) : ByteArray := (List.range k).foldl (fun s b => s ++ d.block b) ⟨#[]⟩
theorem allOf_succ (d : DV) (k : Nat) : allOf d (k + 1) = allOf d k ++ d.block k := by simp [allOf, List.range_succ]

theorem block_size {d : DV} {w : World} (h : d.In w) (k : Nat) (hk : k < d.nb) : (d.block k).size = d.sz := by
  show ((seg d.vis (k * d.sz) d.sz).toArray).size = d.sz
  rw [List.size_toArray]
  exact seg_length _ _ _ (by rw [h.lv]; exact block_in d.sz hk)
theorem allOf_size {d : DV} {w : World} (h : d.In w) : ∀ k, k ≤ d.nb → (allOf d k).size = k * d.sz
  | 0, _ => by rw [Nat.zero_mul]; rfl
  | k + 1, hk => by
    rw [allOf_succ, ByteArray.size_append, allOf_size h k (by omega), block_size h k (by omega), Nat.succ_mul]
theorem allOf_le {d : DV} {w : World} (h : d.In w) (k : Nat) (hk : k < d.nb) : (allOf d k).size ≤ 16384000 ∧ (d.block k).size ≤ 16384 := by
  rw [allOf_size h k (by omega), block_size h k hk]
  have h1 := block_in d.sz hk
  have h2 : d.nb * d.sz ≤ 16384000 := h.allLe
  have h3 := h.szLe
  omega

end Go.Proofs.Ytnmfgmlmjbfdcaa
