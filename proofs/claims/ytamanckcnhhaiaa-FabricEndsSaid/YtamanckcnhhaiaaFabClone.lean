/-
  strings.Clone: the same text again.
-/
import Derived.Test.YtamanckcnhhaiaaFabBase
import Derived.Lib.UnsafeStr
namespace Go.Proofs.Ytamanckcnhhaiaa
open Go.RowKit

theorem below_setRow {B : Nat} {w w' : World} (h : Below B w w') {g : Nat} (hg : B ≤ g) (cs : Array Value) : Below B w (w'.setRow g cs) := by
  have hs : (w'.setRow g cs).heap.size = w'.heap.size := by simp
  exact ⟨h.os, h.tape, h.output, by rw [hs]; exact h.size, fun i hi => (setRow_other w' g i cs (by omega)).trans (h.block i hi)⟩

theorem Try.u8size : (Try.prog.info? 5).map (·.size) = some 1 := by kernel_rfl
/-- copy(b, s): as many bytes as there is room for. -/
theorem run_copy_str {P : Program} (w : World) (dT sT ty elem : TypeId) (g o n c : Nat) (s : ByteArray) (L : List Value) (t : TypeId)
    (hu : P.underlying dT = some (.slice elem)) (hs : (P.info? elem).map (·.size) = some 1) (hg : Row w g t L (0, 0)) (hfit : o + n ≤ L.length) :
    (Builtin.copy_ #[dT, sT] ty #[.slice (some ⟨g, o, none⟩) n c, .string s]).run P w = .ok (.int .i64 ((min s.size n : Nat) : Int)) (w.setRow g (splice L o (byt ((txt s).take n))).toArray) := by
  have hlen : (byt ((txt s).take n)).length = min s.size n := by rw [byt_length, List.length_take, txt_length]; omega
  have hst := run_storeCells_at P g o t (byt ((txt s).take n)) 0 L.toArray w hg (by rw [hlen]; simp; omega) (byt_one _)
  have htk : List.take (min s.size n) (List.map (fun b : UInt8 => Value.int IntKind.u8 (b.toNat : Int)) s.data.toList) = byt ((txt s).take n) := by
    rw [byt_take]
    show List.take (min s.size n) (byt (txt s)) = _
    rcases Nat.le_total s.size n with h | h
    · rw [Nat.min_eq_left h, List.take_of_length_le (by rw [byt_length, txt_length]; exact Nat.le_refl _), List.take_of_length_le (by rw [byt_length, txt_length]; exact h)]
    · rw [Nat.min_eq_right h]
  simp only [Nat.add_zero, List.append_assoc] at hst
  have hst2 : (storeCells ⟨g, o, none⟩ (byt ((txt s).take n))).run P w = .ok () (w.setRow g (splice L o (byt ((txt s).take n))).toArray) := hst
  cases hq : P.info? elem with
  | none => simp [hq] at hs
  | some i =>
    simp [Builtin.copy_, run_underlying hu, Builtin.lenOf, Builtin.firstCells, sizeOf, typeInfo, hq]
    rw [show Nat.min s.size n = min s.size n from rfl, htk, hst2]
    simp [Result.andThen, goInt]

theorem madeZero (n : Nat) : madeCells (Value.int .u8 0).cells n = (byt (List.replicate n 0)).toArray := by
  apply Array.ext
  · simp [madeCells, byt, Value.cells]
  · intro i h1 h2
    simp [madeCells, byt, Value.cells, Nat.mod_one]
theorem makeZeros (n : Nat) (hn : n ≤ 281474976710656) (i : Int) (hi : i = (n : Int)) (w : World) : (Instr.makeSlice 31 (.int .i64 i) (.int .i64 i)).run Try.prog w =
    .ok (.slice (some ⟨w.heap.size, 0, none⟩) n n) (w.alloc (.cells (byt (List.replicate n 0)).toArray 5)) := by
  obtain ⟨i0, hi0, hz0, hz1, hz2⟩ := info_parts Try.infoU8
  subst hi
  have h := run_make (P := Try.prog) w 31 5 i0 _ Try.underlying31 hi0 hz0 .i64 .i64 n n (by omega) (by omega) (by rw [hz2]; omega) (by omega)
  rw [h, hz1, Int.toNat_natCast, Nat.mul_one, madeZero]

theorem Try.u8cells : Try.prog.cellsOf 5 = 1 := by kernel_rfl

set_option maxRecDepth 100000 in
set_option maxHeartbeats 1000000 in
/-- The same text again. -/
theorem sclone_any (s : ByteArray) (w : World) (hs : s.size ≤ 281474976710656) : Calls Try.prog 25 #[.string s] w fun e w' => e = .returned (.string s) ∧ Below w.heap.size w w' := by
  rcases Nat.eq_zero_or_pos s.size with h0 | h0
  · have e : s = ⟨#[]⟩ := ByteArray.ext (Array.eq_empty_of_size_eq_zero h0)
    subst e
    go_enter Try.func25, Try.ntmps25
    go_wp2
    go_ret
    exact ⟨rfl, Below.refl _ _⟩
  · have hmk := makeZeros s.size hs (s.size : Int) rfl w
    have hr1 := Row.new w 5 (byt (List.replicate s.size 0)) (0, 0)
    have hb1 : Below w.heap.size w (w.alloc (.cells (byt (List.replicate s.size 0)).toArray 5)) := (Below.refl _ w).alloc (Nat.le_refl _) _
    obtain ⟨w1, hw1⟩ : ∃ w1, w.alloc (.cells (byt (List.replicate s.size 0)).toArray 5) = w1 := ⟨_, rfl⟩
    rw [hw1] at hmk hr1 hb1
    have hcp : ∀ ty, (Builtin.copy_ #[31, 9] ty #[.slice (some ⟨w.heap.size, 0, none⟩) s.size s.size, .string s]).run Try.prog w1 = _ := fun ty =>
      run_copy_str w1 31 9 ty 5 w.heap.size 0 s.size s.size s _ 5 Try.underlying31 Try.u8size hr1 (by simp [byt_length])
    have hsp : splice (byt (List.replicate s.size 0)) 0 (byt ((txt s).take s.size)) = byt (txt s) := by
      rw [List.take_of_length_le (by rw [txt_length]; exact Nat.le_refl _)]
      unfold splice
      rw [List.drop_of_length_le (by simp [byt_length, txt_length])]
      simp
    rw [hsp, Nat.min_self] at hcp
    have hr2 := hr1.setRow_ (cs := byt (txt s))
    have hb2 : Below w.heap.size w (w1.setRow w.heap.size (byt (txt s)).toArray) := below_setRow hb1 (Nat.le_refl _) _
    obtain ⟨w2, hw2⟩ : ∃ w2, w1.setRow w.heap.size (byt (txt s)).toArray = w2 := ⟨_, rfl⟩
    rw [hw2] at hr2 hb2
    simp only [hw2] at hcp
    have hus : ∀ ty, (Builtin.unsafeString_ #[65, 3] ty #[.pointer (some ⟨w.heap.size, 0, none⟩), .int .i64 (s.size : Int)]).run Try.prog w2 = _ := fun ty =>
      Lib.run_unsafeString_row (P := Try.prog) w2 65 3 ty 5 Try.underlying65 Try.u8cells w.heap.size s.size (by unfold World.shape?; rw [show w2.heap[w.heap.size]? = _ from hr2]; simp [byt_length, txt_length]) (txt s)
        (fun e => by have : (txt s).length = 0 := by { rw [e]; rfl }
                     rw [txt_length] at this; omega) (by rw [txt_length]; exact Nat.le_refl _) (by rw [txt_length]; omega)
        (fun j x hx => by
          rw [Addr.add_lit, hr2.cell, Nat.zero_add]
          unfold byt
          rw [List.getElem?_map, hx]; rfl)
    have hb3 := Lib.below_freeze hb2 (p := ⟨w.heap.size, 0, none⟩) (Nat.le_refl _) (txt s).length
    have es : (⟨(txt s).toArray⟩ : ByteArray) = s := by cases s; simp [txt]
    rw [es] at hus
    obtain ⟨w3, hw3⟩ : ∃ w3, w2.freeze ⟨w.heap.size, 0, none⟩ (txt s).length = w3 := ⟨_, rfl⟩
    rw [hw3] at hb3
    simp only [hw3] at hus
    have HB := Lib.hid hb3
    have hn : (s.size : Int) ≤ 281474976710656 := by omega
    clear hb1 hb2 hb3 hr1 hr2 hw1 hw2 hw3 hsp es hs
    go_enter Try.func25, Try.ntmps25
    go_wp2_with fail
    go_ret
    exact ⟨rfl, HB.out⟩

set_option maxRecDepth 100000 in
theorem clone_str (s : ByteArray) (w : World) (hs : s.size ≤ 281474976710656) : Calls Try.prog 14 #[.string s] w fun e w' => e = .returned (.string s) ∧ Below w.heap.size w w' := by
  have HS := Lib.hid (sclone_any s w hs)
  clear hs
  go_enter Try.func14, Try.ntmps14
  go_wp2_with fail
  refine HS.out.mono ?_
  rintro e w1 ⟨rfl, hb⟩
  have HB := Lib.hid hb
  clear hb
  go_wp2
  go_ret
  exact ⟨rfl, HB.out⟩

end Go.Proofs.Ytamanckcnhhaiaa
