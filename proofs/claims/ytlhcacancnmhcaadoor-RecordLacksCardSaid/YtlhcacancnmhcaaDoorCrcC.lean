/-
  The walks over package crc, part C: Sum, the four bytes of a sum, Seal.
-/
import Derived.Test.YtlhcacancnmhcaaDoorCrcB
namespace Go.Proofs.YtlhcacancnmhcaaDoor
open Go.RowKit

set_option maxHeartbeats 400000 in
theorem sum_any {T : TypeId} (A : Option Addr) (l : List UInt8) (c : Nat) (w : World) (hT : Tab w) (hr : Reads T w A l) (hl : l.length ≤ 140737488355328) :
    Calls Tryd.prog 26 #[.slice A l.length c] w fun e w' => e = .returned (.int .u32 (more_ 0 l : Int)) ∧ Below w.heap.size w w' := by
  have HM := Lib.hid (more_any A l c 0 w hT hr (by decide) hl)
  clear hT hr
  generalize more_ 0 l = m at *
  go_enter Tryd.func26, Tryd.ntmps26
  go_wp2_with fail
  refine HM.out.mono ?_
  rintro e w1 ⟨rfl, hb⟩
  go_wp2
  go_ret
  exact ⟨rfl, hb⟩

theorem le4_cells (s : Nat) : byt (le4 s) = [.int .u8 ((s % 256 : Nat) : Int), .int .u8 ((s / 256 % 256 : Nat) : Int), .int .u8 ((s / 256 / 256 % 256 : Nat) : Int), .int .u8 ((s / 256 / 256 / 256 % 256 : Nat) : Int)] := by
  simp [byt, le4, UInt8.toNat_ofNat']

set_option maxHeartbeats 400000 in
theorem encoded_any (s : Nat) (w : World) (hs : s < 4294967296) :
    Calls Tryd.prog 25 #[.int .u32 (s : Int)] w fun e w' => e = .returned (.agg (byt (le4 s)).toArray) ∧ Below w.heap.size w w' := by
  rw [le4_cells]
  go_enter Tryd.func25, Tryd.ntmps25
  go_wp2
  exact bodyPost_ret (v := .agg #[.int .u8 ((s : Int) % 256), .int .u8 ((s : Int) / 256 % 256), .int .u8 ((s : Int) / 65536 % 256), .int .u8 ((s : Int) / 16777216)]) (by simp [results, Tryd.results25, go_sem]) rfl
    ⟨by rw [show (s : Int) % 256 = ((s % 256 : Nat) : Int) by omega, show (s : Int) / 256 % 256 = ((s / 256 % 256 : Nat) : Int) by omega, show (s : Int) / 65536 % 256 = ((s / 256 / 256 % 256 : Nat) : Int) by omega, show (s : Int) / 16777216 = ((s / 256 / 256 / 256 % 256 : Nat) : Int) by omega],
     (Below.refl _ _).alloc (Nat.le_refl _) _⟩

theorem Tryd.info_u8 : (Tryd.prog.info? 5).map (fun i => (i.zero, i.size, i.bytes)) = some (some (.int .u8 0), 1, 1) := by kernel_rfl

theorem Tryd.size_u8 : (Tryd.prog.info? 5).map (fun i => i.size) = some 1 := by kernel_rfl

theorem madeCells_zero (n : Nat) : madeCells (Value.int .u8 0).cells n = (byt (List.replicate n 0)).toArray := by
  apply Array.ext
  · simp [madeCells, byt]
  · intro i h1 h2
    simp [madeCells, byt, Value.cells, Nat.mod_one]

theorem make_bytes (n : Nat) (hn : n ≤ 281474976710656) (i : Int) (hi : i = (n : Int)) (w : World) : (Instr.makeSlice 47 (.int .i64 i) (.int .i64 i)).run Tryd.prog w =
    .ok (.slice (some ⟨w.heap.size, 0, none⟩) n n) (w.alloc (.cells (byt (List.replicate n 0)).toArray 5)) := by
  obtain ⟨i0, hi0, hz0, hz1, hz2⟩ := info_parts Tryd.info_u8
  subst hi
  have h := run_make (P := Tryd.prog) w 47 5 i0 _ Tryd.underlying47 hi0 hz0 .i64 .i64 n n (by omega) (by omega) (by rw [hz2]; omega) (by omega)
  rw [h, hz1, Int.toNat_natCast, Nat.mul_one, madeCells_zero]

theorem splice_head (l : List UInt8) (m : Nat) : splice (byt (List.replicate (l.length + m) 0)) 0 (byt l) = byt (l ++ List.replicate m 0) := by
  simp [splice, byt]

theorem splice_last (l r : List UInt8) (n m : Nat) (hn : n = l.length) (hm : m = r.length) : splice (byt (l ++ List.replicate m 0)) n (byt r) = byt (l ++ r) := by
  subst hn; subst hm
  have e : l.length = (byt l).length := (byt_length l).symm
  unfold splice
  rw [byt_append, e, List.take_left, byt_append]
  rw [byt_length r, List.drop_length_add_append]
  simp [byt]

theorem below_after {w w1 w2 : World} {g : Nat} (hb : Below w.heap.size w w1) (hg : w1.grownBy w2 (some g)) (hB : w.heap.size ≤ g) : Below w.heap.size w w2 :=
  hb.trans ⟨hg.os, hg.tape, hg.output, hg.size, fun k hk => hg.block k (Nat.lt_of_lt_of_le hk hb.size) (fun e => by injection e; omega)⟩

/-- A slice of new bytes. -/
def NewB (w : World) (n : Nat) (r : List UInt8) (e : Ending) (w' : World) : Prop :=
  ∃ g cap, e = .returned (.slice (some ⟨g, 0, none⟩) n cap) ∧ r.length = n ∧ n ≤ cap ∧ Reads 5 w' (some ⟨g, 0, none⟩) r ∧ Below w.heap.size w w'

/-- Bytes, sealed. -/
def sealL (l : List UInt8) : List UInt8 := l ++ le4 (more_ 0 l)
theorem sealL_length (l : List UInt8) : (sealL l).length = l.length + 4 := by unfold sealL; rw [List.length_append]; rfl
theorem sealL_sealed (l : List UInt8) : Sealed (sealL l) := seal_sealed l

theorem row_reads {T : TypeId} {w : World} {g : Nat} {l : List UInt8} {m : Nat × Nat} (h : Row w g T (byt l) m) : Reads T w (some ⟨g, 0, none⟩) l := fun _ =>
  ⟨g, 0, byt l, m, rfl, h, fun j _ => by rw [Nat.zero_add]⟩

theorem encoded_four (s : Nat) (b0 b1 b2 b3 : UInt8) (w : World) (hs : s < 4294967296) (h : le4 s = [b0, b1, b2, b3]) :
    Calls Tryd.prog 25 #[.int .u32 (s : Int)] w fun e w' => e = .returned (.agg #[.int .u8 (b0.toNat : Int), .int .u8 (b1.toNat : Int), .int .u8 (b2.toNat : Int), .int .u8 (b3.toNat : Int)]) ∧ Below w.heap.size w w' := by
  have := encoded_any s w hs
  rw [h] at this
  exact this

theorem row_second (w : World) (o : Obj) (cs : List Value) {T : TypeId} : ((w.alloc o).alloc (.cells cs.toArray T)).heap[w.heap.size + 1]? = some (.cells cs.toArray T (0, 0)) := by
  have := Row.new (w.alloc o) T cs (0, 0)
  have e : (w.alloc o).heap.size = w.heap.size + 1 := by simp
  unfold Row at this
  rw [e] at this
  exact this

/-- The same, the capacity told. -/
def NewS (w : World) (n : Nat) (r : List UInt8) (e : Ending) (w' : World) : Prop :=
  ∃ g, e = .returned (.slice (some ⟨g, 0, none⟩) n n) ∧ r.length = n ∧ Reads 5 w' (some ⟨g, 0, none⟩) r ∧ Below w.heap.size w w'

set_option maxHeartbeats 1000000 in
theorem seal_new {T : TypeId} (A : Option Addr) (l : List UInt8) (c : Nat) (w : World) (hT : Tab w) (hr : Reads T w A l) (hl : l.length ≤ 1000000) :
    Calls Tryd.prog 18 #[.slice A l.length c] w (NewS w (l.length + 4) (sealL l)) := by
  have HS := Lib.hid (sum_any A l c w hT hr (by omega))
  have HR := Lib.hid hr
  have HL := Lib.hid (more_lt 0 l (by decide))
  obtain ⟨m, hm⟩ : ∃ m, more_ 0 l = m := ⟨_, rfl⟩
  rw [hm] at HS HL
  have HM := Lib.hid hm
  clear hT hr hm
  have hmk := make_bytes (l.length + 4) (by omega) (↑l.length + 4) (by omega)
  go_enter Tryd.func18, Tryd.ntmps18
  go_wp2_with fail
  refine HS.out.mono ?_
  rintro e w1 ⟨rfl, hb1⟩
  have HB1 := Lib.hid hb1
  clear hb1
  go_wp2_with fail
  obtain ⟨b0, b1, b2, b3, hle⟩ : ∃ b0 b1 b2 b3 : UInt8, le4 m = [b0, b1, b2, b3] := ⟨_, _, _, _, rfl⟩
  have HE := Lib.hid (encoded_four m b0 b1 b2 b3 w1 HL.out hle)
  have HLE := Lib.hid hle
  clear hle
  refine HE.out.mono ?_
  rintro e w2 ⟨rfl, hb2⟩
  have HB2 := Lib.hid (HB1.out.trans (hb2.mono HB1.out.size))
  clear hb2
  go_wp2_with (with_reducible refine wpList_copy_splice rfl (.tmp 12) (.tmp 13) 47 47 rfl 5 Tryd.underlying47 Tryd.size_u8 (some ⟨w2.heap.size + 1, 0, none⟩) A (l.length + 4) (l.length + 4) l.length c rfl rfl (w2.heap.size + 1) 0 (byt (List.replicate (l.length + 4) 0)) 5 ?hg (byt l) ?hn ?hpos ?hfit (byt_one l) (w2.heap.size + 1) (w2.alloc (.cells #[.int .u8 (b0.toNat : Int), .int .u8 (b1.toNat : Int), .int .u8 (b2.toNat : Int), .int .u8 (b3.toNat : Int)] 63)) ?hb (Nat.le_refl _) ?_)
  case hg => exact row_second _ _ _
  case hn => rw [byt_length]; exact (Nat.min_eq_left (by omega)).symm
  case hfit => simp [byt]
  case hb => exact (Below.refl _ _).alloc (by simp) _
  case hpos =>
    intro h0
    rw [byt_length] at h0
    obtain ⟨g, off, cs, mk, hA, hrow, hc⟩ := HR.out h0
    refine ⟨_, hA, fun j v hj => ?_⟩
    have hjl : j < l.length := by
      have := (List.getElem?_eq_some_iff.1 hj).1
      rwa [byt_length] at this
    rw [Addr.add_lit, (((hrow.below HB2.out hrow.lt).alloc _).alloc _).cell, hc j hjl, hj]
  intro w4 hg4 hb4
  have HR4 := Lib.hid (show Row w4 (w2.heap.size + 1) 5 (byt (l ++ List.replicate 4 0)) (0, 0) by rw [← splice_head]; exact hg4.out)
  have HA4 := Lib.hid ((Row.new w2 63 [.int .u8 (b0.toNat : Int), .int .u8 (b1.toNat : Int), .int .u8 (b2.toNat : Int), .int .u8 (b3.toNat : Int)] (0, 0)).below hb4 (Nat.lt_succ_self _))
  have HSZ := Lib.hid HB2.out.size
  have HB4 := Lib.hid ((HB2.out.alloc HB2.out.size _).trans (hb4.mono (by have := HB2.out.size; simp; omega)))
  clear hg4 hb4
  go_wp2_with fail
  have hsl : (l.length : Int) ≤ (l.length : Int) + 4 := by omega
  go_still_tail 5, (by kernel_rfl)
  clear hsl
  change wpList _ _ _ _ _ w4.drew
  refine wpList_copy_splice rfl (.tmp 18) (.tmp 19) 47 47 rfl 5 Tryd.underlying47 Tryd.size_u8 (some ⟨w2.heap.size + 1, l.length, none⟩) (some ⟨w2.heap.size, 0, none⟩) 4 4 4 4 rfl rfl (w2.heap.size + 1) l.length (byt (l ++ List.replicate 4 0)) 5 HR4.out.drew (byt [b0, b1, b2, b3]) rfl ?hpos2 ?hfit2 (byt_one _) w.heap.size w HB4.out.drew (by have := HSZ.out; omega) ?_
  case hfit2 => simp [byt]
  case hpos2 => exact fun _ => ⟨rfl, _, rfl, fun j v hj => by rw [Addr.add_lit, HA4.out.drew.cell, Nat.zero_add]; exact hj⟩
  intro w5 hg5 hb5
  have HR5 := Lib.hid (show Row w5 (w2.heap.size + 1) 5 (byt (sealL l)) (0, 0) by
    unfold sealL
    rw [HM.out, HLE.out, ← splice_last l [b0, b1, b2, b3] l.length 4 rfl rfl]
    exact hg5.out)
  clear hg5
  go_wp2
  go_ret
  exact ⟨w2.heap.size + 1, rfl, sealL_length l, row_reads HR5.out, hb5⟩

theorem seal_any {T : TypeId} (A : Option Addr) (l : List UInt8) (c : Nat) (w : World) (hT : Tab w) (hr : Reads T w A l) (hl : l.length ≤ 1000000) :
    Calls Tryd.prog 18 #[.slice A l.length c] w (NewB w (l.length + 4) (sealL l)) :=
  (seal_new A l c w hT hr hl).mono fun _ _ ⟨g, he, hlen, hrd, hb⟩ => ⟨g, l.length + 4, he, hlen, Nat.le_refl _, hrd, hb⟩

end Go.Proofs.YtlhcacancnmhcaaDoor
