/-
  The walk of OctetWalk.
-/
import Derived.Test.YtfdfoijpkikfbaaDo
import Derived.Lib.ConvBytes
namespace Go.Proofs.Ytfdfoijpkikfbaa
open Go.RowKit

/-- One step, as it lies in memory. -/
structure Stp where
  a : Int
  n : Int
  m : Int

/-- The steps' cells. -/
def Stps (w : World) (b off n : Nat) (F : Nat → Stp) : Prop :=
  b < w.heap.size ∧ ∀ i, i < n → w.cell? ⟨b, off + i * 3, none⟩ = some (.int .i64 (F i).a) ∧ w.cell? ⟨b, off + i * 3 + 1, none⟩ = some (.int .i64 (F i).n) ∧
    w.cell? ⟨b, off + i * 3 + 2, none⟩ = some (.int .i64 (F i).m) ∧ (F i).m ≤ 9223372036854775807

theorem Stps.below {w w' : World} {b off n : Nat} {F : Nat → Stp} (h : Stps w b off n F) (hb : Below w.heap.size w w') : Stps w' b off n F := by
  obtain ⟨h0, h⟩ := h
  refine ⟨Nat.lt_of_lt_of_le h0 hb.size, fun i hi => ?_⟩
  obtain ⟨h1, h2, h3, h4⟩ := h i hi
  exact ⟨(hb.cell (p := ⟨b, _, none⟩) h0).trans h1, (hb.cell (p := ⟨b, _, none⟩) h0).trans h2, (hb.cell (p := ⟨b, _, none⟩) h0).trans h3, h4⟩

/-- A text made into bytes: the bytes lie in a new block. -/
theorem conv_bytes (w : World) (s : ByteArray) : ∃ wb cap, (convert 9 29 (.string s)).run Try.prog w = .ok (.slice (some ⟨w.heap.size, 0, none⟩) s.size cap) wb ∧
    Reads 5 wb (some ⟨w.heap.size, 0, none⟩) s.data.toList ∧ Below w.heap.size w wb := by
  refine ⟨_, _, Lib.run_convert_string_bytes (P := Try.prog) w 9 29 5 s Try.underlying9 Try.underlying29 Try.underlying5, fun _ => ?_, ⟨rfl, rfl, rfl, ?_, fun k hk => Lib.bytesWorld_at_old w _ s k hk⟩⟩
  · refine ⟨w.heap.size, 0, (Lib.bytesCells w 5 s).toList, ((Lib.bytesCells w 5 s).size, (Lib.bytesCells w 5 s).size + 1), rfl, ?_, fun j hj => ?_⟩
    · unfold Row
      rw [Array.toArray_toList]
      exact Lib.bytesWorld_at_new w _ s
    · rw [byt_get _ _ hj, Nat.zero_add, Array.getElem?_toList]
      rw [size_list] at hj
      simp [Lib.bytesCells, Array.getElem?_append, hj]
  · rw [Lib.bytesWorld_size]; omega

/-- What holds at a round's head. -/
def Going (w : World) (g b off n c : Nat) (s0 : ByteArray) (vl vb : Value) (wr : World) : Prop :=
  ∃ (s : ByteArray) (st : Option (List UInt8)), vl = .string s ∧ vb = .bool st.isNone ∧ s.data.toList = st.getD [] ∧ s.size ≤ 2000 ∧ Rdr wr g st ∧
    Row wr w.heap.size 24 [.string s0, .slice (some ⟨b, off, none⟩) n c] (0, 0) ∧ Below w.heap.size w wr ∧ w.heap.size < g

/-- What is kept through a round: the reader, the argument's box, the step's box, all that was there. -/
def Kept (w : World) (g b off n c : Nat) (s0 : ByteArray) (X : Nat) (q fn fm : Int) (st : Option (List UInt8)) (v : World) : Prop :=
  Rdr v g st ∧ Row v w.heap.size 24 [.string s0, .slice (some ⟨b, off, none⟩) n c] (0, 0) ∧
    Row v X 31 [.int .i64 q, .int .i64 fn, .int .i64 fm] (0, 0) ∧ Below w.heap.size w v ∧ w.heap.size < g ∧ g < X

section
variable {w : World} {g b off n c : Nat} {s0 : ByteArray} {X : Nat} {q fn fm : Int} {st : Option (List UInt8)} {v v' : World}
theorem Kept.below (h : Kept w g b off n c s0 X q fn fm st v) (hb : Below v.heap.size v v') : Kept w g b off n c s0 X q fn fm st v' := by
  obtain ⟨h1, h2, h3, h4, h5⟩ := h
  exact ⟨h1.below hb, h2.below hb h2.lt, h3.below hb h3.lt, h4.trans (hb.mono h4.size), h5⟩
theorem Kept.now {st' : Option (List UInt8)} (h : Kept w g b off n c s0 X q fn fm st v) (hn : Now v g st' v') : Kept w g b off n c s0 X q fn fm st' v' := by
  obtain ⟨h1, h2, h3, h4, h5, h6⟩ := h
  obtain ⟨n1, n2⟩ := hn
  exact ⟨n2, h2.grown n1 (by intro e; injection e; omega), h3.grown n1 (by intro e; injection e; omega), h4.grown n1 h4.size (fun k hk => by injection hk; omega), h5, h6⟩
theorem Kept.drewN (h : Kept w g b off n c s0 X q fn fm st v) (d : Nat) : Kept w g b off n c s0 X q fn fm st (v.drewN d) := by
  obtain ⟨h1, h2, h3, h4, h5⟩ := h
  refine ⟨?_, h2.drewN d, h3.drewN d, below_drewN h4 d, h5⟩
  cases st with
  | none => exact h1
  | some l => exact h1
theorem Kept.cell0 (h : Kept w g b off n c s0 X q fn fm st v) : v.cell? ⟨X, 0, none⟩ = some (.int .i64 q) := by rw [h.2.2.1.cell]; rfl
theorem Kept.cell1 (h : Kept w g b off n c s0 X q fn fm st v) : v.cell? ⟨X, 1, none⟩ = some (.int .i64 fn) := by rw [h.2.2.1.cell]; rfl
theorem Kept.cell2 (h : Kept w g b off n c s0 X q fn fm st v) : v.cell? ⟨X, 2, none⟩ = some (.int .i64 fm) := by rw [h.2.2.1.cell]; rfl
theorem Kept.going (h : Kept w g b off n c s0 X q fn fm st v) (s : ByteArray) (hs : s.data.toList = st.getD []) (hz : s.size ≤ 2000) : Going w g b off n c s0 (.string s) (.bool st.isNone) v :=
  ⟨s, st, rfl, rfl, hs, hz, h.1, h.2.1, h.2.2.2.1, h.2.2.2.2.1⟩
end

theorem kept_start {w wr w1 : World} {g b off n c : Nat} {s0 : ByteArray} {q fn fm : Int} {st : Option (List UInt8)} (hrd : Rdr wr g st)
    (hbox : Row wr w.heap.size 24 [.string s0, .slice (some ⟨b, off, none⟩) n c] (0, 0)) (hb : Below w.heap.size w wr) (hgl : w.heap.size < g) (hb1 : Below wr.heap.size wr w1) :
    Kept w g b off n c s0 w1.heap.size q fn fm st (w1.alloc (.cells #[.int .i64 q, .int .i64 fn, .int .i64 fm] 31)) := by
  have h1 : Below w.heap.size w w1 := hb.trans (hb1.mono hb.size)
  exact ⟨Rdr.box _ (hrd.below hb1), (hbox.below hb1 hbox.lt).alloc _, Row.new w1 _ [.int .i64 q, .int .i64 fn, .int .i64 fm] _, h1.alloc h1.size _, hgl, Nat.lt_of_lt_of_le hrd.lt hb1.size⟩

theorem cut_list (s : ByteArray) (x y : Nat) : (s.extract y x).data.toList = (s.data.toList.take x).drop y := by
  rw [Lib.extract_data, List.drop_take]

theorem cut_text (s : ByteArray) (x y : Nat) (q : Int) (hq : ¬ q = 0) : (shown q ((s.data.toList.take x).drop y) == (s.extract y x).toList) = true := by
  rw [beq_iff_eq, ByteArray.toList_eq, cut_list, shown, if_neg hq]

theorem cut_num (s : ByteArray) (x y : Nat) : (shown 0 ((s.data.toList.take x).drop y) == be (val (s.extract y x).data.toList) 8) = true := by
  rw [beq_iff_eq, cut_list, shown, if_pos rfl]

theorem none_num : (nothing 0 == be 0 8) = true := by rw [beq_iff_eq]; rfl
theorem value_empty (w : World) : Calls Try.prog 14 #[.string ⟨#[]⟩] w fun e w' => e = .returned (.int .u64 0) ∧ ∃ d, w' = w.drewN d :=
  value_none ⟨#[]⟩ w rfl
theorem none_text (q : Int) (hq : ¬ q = 0) : nothing q = [] := if_neg hq

theorem bad_end {w : World} {g b off n c : Nat} {s0 : ByteArray} {X : Nat} {q fn fm : Int} {v : World} (h : Kept w g b off n c s0 X q fn fm none v) :
    Going w g b off n c s0 (.string ⟨#[]⟩) (.bool true) v := h.going ⟨#[]⟩ rfl (Nat.zero_le _)

theorem good_row {v : World} {g x : Nat} {s : ByteArray} (h : Rdr v g (some (s.data.toList.drop x))) :
    ∃ A c, Row v g 58 [.bool true, .slice A (s.size - x) c] (0, 0) := by
  obtain ⟨h', off, c, _, _, hrow, _⟩ := h
  rw [List.length_drop, size_list] at hrow
  exact ⟨_, _, hrow⟩

theorem good_end {w : World} {g b off n c : Nat} {s0 : ByteArray} {X : Nat} {q fn fm : Int} {v : World} {s : ByteArray} {x : Nat} (h : Kept w g b off n c s0 X q fn fm (some (s.data.toList.drop x)) v) (hx : x ≤ s.size) (hz : s.size ≤ 2000) :
    Going w g b off n c s0 (.string (s.extract x s.size)) (.bool false) v := by
  have e : (s.extract x s.size).data.toList = s.data.toList.drop x := by rw [cut_list, List.take_of_length_le (by rw [size_list]; omega)]
  exact h.going (s.extract x s.size) e (by rw [← size_list, e, List.length_drop, size_list]; omega)

set_option maxHeartbeats 400000 in
theorem walk_great (s : ByteArray) (A : Option Addr) (n c : Nat) (w : World) (hs : s.size ≤ 9223372036854775807) (hg : 2000 < s.size ∨ 60 < n) :
    Calls Try.prog 3 #[.agg #[.string s, .slice A n c]] w fun e w' => e = .returned (.bool true) ∧ Below w.heap.size w w' := by
  have HG := Lib.hid (show true = decide (2000 < s.size ∨ 60 < n) by simp [hg])
  clear hg
  go_enter Try.func3, Try.ntmps3
  go_wp2_with fail
  refine (great_any s A n c _ hs true HG.out).mono ?_
  rintro e w1 ⟨rfl, hb1⟩
  have HB1 := Lib.hid (((Below.refl w.heap.size w).alloc (Nat.le_refl _) _).trans (hb1.mono (by simp)))
  clear hb1
  go_wp2_with fail
  refine (head_any _).mono ?_
  rintro e w2 ⟨rfl, hb2⟩
  go_wp2
  go_ret
  exact ⟨rfl, HB1.out.trans (hb2.mono HB1.out.size)⟩

set_option maxRecDepth 100000 in
set_option maxHeartbeats 4000000 in
theorem walk_some (s0 : ByteArray) (b off n c : Nat) (F : Nat → Stp) (w : World) (hs0 : s0.size ≤ 2000) (hn : n ≤ 60) (hF : Stps w b off n F) :
    Calls Try.prog 3 #[.agg #[.string s0, .slice (some ⟨b, off, none⟩) n c]] w fun e w' => e = .returned (.bool true) ∧ Below w.heap.size w w' := by
  have HF0 := Lib.hid hF
  clear hF
  go_enter Try.func3, Try.ntmps3
  go_wp2_with fail
  refine (great_any s0 _ n c _ (by omega) false (by simp; omega)).mono ?_
  rintro e w1 ⟨rfl, hb1⟩
  have hbox1 := (Row.new w 24 [.string s0, .slice (some ⟨b, off, none⟩) n c] (0, 0)).below hb1 (by simp)
  have HBW1 := Lib.hid (((Below.refl w.heap.size w).alloc (Nat.le_refl _) _).trans (hb1.mono (by simp)))
  have HZ1 := Lib.hid (show w.heap.size < w1.heap.size by have := hb1.size; simp at this; omega)
  obtain ⟨wb, cap, hcv, hrb, hbb⟩ := conv_bytes w1 s0
  have HBOX1 := Lib.hid hbox1
  have hc0 := hbox1.cell 0
  have hop := open_any _ _ cap wb hrb (by rw [size_list]; omega)
  rw [size_list] at hop
  have HOP := Lib.hid hop
  have HBB := Lib.hid hbb
  simp at hc0
  clear hbox1 hb1 hrb hbb hop
  go_wp2_with fail
  refine HOP.out.mono ?_
  rintro e w2 ⟨g, rfl, hg, hrd, hb2⟩
  have HBOX2 := Lib.hid ((HBOX1.out.below HBB.out HBOX1.out.lt).below hb2 (Nat.lt_of_lt_of_le HBOX1.out.lt HBB.out.size))
  have HB2 := Lib.hid ((HBW1.out.trans (HBB.out.mono HBW1.out.size)).trans (hb2.mono (HBW1.out.trans (HBB.out.mono HBW1.out.size)).size))
  have HG := Lib.hid (show w.heap.size < g from Nat.lt_of_lt_of_le HZ1.out (Nat.le_trans HBB.out.size hg))
  have HRD := Lib.hid hrd
  have hc0 := HBOX2.out.cell 0
  simp at hc0
  clear hrd hb2 hg
  go_wp2_with fail
  go_loopw [4, 5, 6] (fun vl vb i wr => ∃ k : Nat, k ≤ n ∧ i = .int .i64 k ∧ Going w g b off n c s0 vl vb wr) (fun _ _ i _ => n - (intOf i).toNat)
  case atStart => exact ⟨0, Nat.zero_le _, rfl, s0, some s0.data.toList, rfl, rfl, rfl, hs0, HRD.out, HBOX2.out, HB2.out, HG.out⟩
  case round =>
    obtain ⟨k, hk, rfl, s, st, rfl, rfl, hst, hsz, hrd, hbox, hb, hgl⟩ := hrel
    have HRD := Lib.hid hrd
    have HBOX := Lib.hid hbox
    have HB := Lib.hid hb
    have hc1 := hbox.cell 1
    simp at hc1
    have HF := Lib.hid (HF0.out.below ⟨hb.os, hb.tape, hb.output, hb.size, hb.block⟩)
    have HST := Lib.hid hst
    clear hrd hbox hb hc0 hst
    by_cases hlt : k < n
    · obtain ⟨x0, x1, x2, hm⟩ := HF.out.2 k hlt
      generalize hfk : F k = fk at *
      obtain ⟨fa, fn, fm⟩ := fk
      simp only at x0 x1 x2 hm
      clear hfk
      go_wp2_with fail
      refine (what_any _ _ _ _).mono ?_
      rintro e w3 ⟨q, hq, rfl, hb3⟩
      have HK := Lib.hid (kept_start (q := q) (fn := fn) (fm := fm) HRD.out HBOX.out HB.out hgl hb3)
      have HQ := Lib.hid hq
      clear hb3 hq
      have hsb : s.size ≤ 9223372036854775807 := by omega
      cases st with
      | none =>
        obtain ⟨x, HT⟩ : ∃ x : Int, Hid (Tells s q fn fm x 0) := by
          rcases do_cases s q fn fm HQ.out hsb hm with ⟨ht, _⟩ | ⟨x, y, hyx, hxs, _, ht, _⟩
          · exact ⟨-1, ht⟩
          · have h0 : s.size = 0 := by rw [← size_list, HST.out]; rfl
            obtain rfl : y = 0 := by omega
            exact ⟨x, ht⟩
        have hstep := fun W h => step_any g none q fn fm W HQ.out h hm
        rw [rstep_none] at hstep
        have HSTEP := Lib.hid hstep
        clear hstep
        go_wp2_with fail
        refine (HT.out _).mono ?_
        rintro e w4 ⟨rfl, hb4⟩
        have HK4 := Lib.hid (HK.out.below hb4)
        have c0 := HK4.out.cell0
        have c1 := HK4.out.cell1
        have c2 := HK4.out.cell2
        clear hb4
        go_wp2_with fail
        clear c0 c1 c2
        refine (HSTEP.out _ HK4.out.1).mono ?_
        rintro e w5 ⟨rfl, hnow⟩
        have HK5 := Lib.hid (HK4.out.now hnow)
        have c0 := HK5.out.cell0
        clear hnow
        by_cases hq0 : q = 0
        · subst hq0
          go_wp2_with fail
          refine (value_empty _).mono ?_
          rintro e w6 ⟨rfl, d, rfl⟩
          have HK6 := Lib.hid (HK5.out.drewN d)
          go_wp2_with fail
          refine (refNumber_any 0 8 _ (by omega) (by omega)).mono ?_
          rintro e w7 ⟨rfl, hb7, hr7⟩
          have hcn := text_at (show Row w7 w5.heap.size 5 _ _ from hr7) 8 8 (be_length _ _).symm
          have HK7 := Lib.hid (HK6.out.below hb7)
          have hcmp := none_num
          have HEND := Lib.hid (bad_end HK7.out)
          obtain ⟨v5, hrow⟩ := HK7.out.1
          have HROW := Lib.hid hrow
          clear hrow c0 hb7 hr7
          go_wp2_with fail
          refine (bad_any g false _ _ HROW.out).mono ?_
          rintro e w8 ⟨rfl, rfl⟩
          go_wp2_with fail
          refine (left_none g v5 _ HROW.out).mono ?_
          rintro e w8 ⟨rfl, rfl⟩
          go_wp2_with fail
          go_roundw
          case rel => exact ⟨k + 1, by omega, by go_num, HEND.out⟩
          case measure => simp [intOf]; omega
        · have hqb : (q == 0) = false := by simpa using hq0
          have hcmp := none_text q hq0
          have HEND := Lib.hid (bad_end HK5.out)
          obtain ⟨v5, hrow⟩ := HK5.out.1
          have HROW := Lib.hid hrow
          clear hrow
          go_wp2_with fail
          refine (bad_any g false _ _ HROW.out).mono ?_
          rintro e w6 ⟨rfl, rfl⟩
          go_wp2_with fail
          refine (left_none g v5 _ HROW.out).mono ?_
          rintro e w6 ⟨rfl, rfl⟩
          go_wp2_with fail
          go_roundw
          case rel => exact ⟨k + 1, by omega, by go_num, HEND.out⟩
          case measure => simp [intOf]; omega
      | some l =>
        have hl : l = s.data.toList := HST.out.symm
        subst hl
        rcases do_cases s q fn fm HQ.out hsb hm with ⟨ht, hr⟩ | ⟨x, y, hyx, hxs, hx8, ht, hr⟩
        · have HT := Lib.hid ht
          have hstep := fun W h => step_any g (some s.data.toList) q fn fm W HQ.out h hm
          rw [hr] at hstep
          have HSTEP := Lib.hid hstep
          clear hr ht hstep
          go_wp2_with fail
          refine (HT.out _).mono ?_
          rintro e w4 ⟨rfl, hb4⟩
          have HK4 := Lib.hid (HK.out.below hb4)
          have c0 := HK4.out.cell0
          have c1 := HK4.out.cell1
          have c2 := HK4.out.cell2
          clear hb4
          go_wp2_with fail
          clear c0 c1 c2
          refine (HSTEP.out _ HK4.out.1).mono ?_
          rintro e w5 ⟨rfl, hnow⟩
          have HK5 := Lib.hid (HK4.out.now hnow)
          have c0 := HK5.out.cell0
          clear hnow
          by_cases hq0 : q = 0
          · subst hq0
            go_wp2_with fail
            refine (value_empty _).mono ?_
            rintro e w6 ⟨rfl, d, rfl⟩
            have HK6 := Lib.hid (HK5.out.drewN d)
            go_wp2_with fail
            refine (refNumber_any 0 8 _ (by omega) (by omega)).mono ?_
            rintro e w7 ⟨rfl, hb7, hr7⟩
            have hcn := text_at (show Row w7 w5.heap.size 5 _ _ from hr7) 8 8 (be_length _ _).symm
            have HK7 := Lib.hid (HK6.out.below hb7)
            have hcmp := none_num
            have HEND := Lib.hid (bad_end HK7.out)
            obtain ⟨v5, hrow⟩ := HK7.out.1
            have HROW := Lib.hid hrow
            clear hrow c0 hb7 hr7
            go_wp2_with fail
            refine (bad_any g false _ _ HROW.out).mono ?_
            rintro e w8 ⟨rfl, rfl⟩
            go_wp2_with fail
            refine (left_none g v5 _ HROW.out).mono ?_
            rintro e w8 ⟨rfl, rfl⟩
            go_wp2_with fail
            go_roundw
            case rel => exact ⟨k + 1, by omega, by go_num, HEND.out⟩
            case measure => simp [intOf]; omega
          · have hqb : (q == 0) = false := by simpa using hq0
            have hcmp := none_text q hq0
            have HEND := Lib.hid (bad_end HK5.out)
            obtain ⟨v5, hrow⟩ := HK5.out.1
            have HROW := Lib.hid hrow
            clear hrow
            go_wp2_with fail
            refine (bad_any g false _ _ HROW.out).mono ?_
            rintro e w6 ⟨rfl, rfl⟩
            go_wp2_with fail
            refine (left_none g v5 _ HROW.out).mono ?_
            rintro e w6 ⟨rfl, rfl⟩
            go_wp2_with fail
            go_roundw
            case rel => exact ⟨k + 1, by omega, by go_num, HEND.out⟩
            case measure => simp [intOf]; omega
        · have HT := Lib.hid ht
          have hstep := fun W h => step_any g (some s.data.toList) q fn fm W HQ.out h hm
          rw [hr] at hstep
          have HSTEP := Lib.hid hstep
          clear hr ht hstep
          go_wp2_with fail
          refine (HT.out _).mono ?_
          rintro e w4 ⟨rfl, hb4⟩
          have HK4 := Lib.hid (HK.out.below hb4)
          have c0 := HK4.out.cell0
          have c1 := HK4.out.cell1
          have c2 := HK4.out.cell2
          clear hb4
          go_wp2_with fail
          clear c0 c1 c2
          refine (HSTEP.out _ HK4.out.1).mono ?_
          rintro e w5 ⟨rfl, hnow⟩
          have HK5 := Lib.hid (HK4.out.now hnow)
          have c0 := HK5.out.cell0
          clear hnow
          have hxn : decide ((x : Int) < 0) = false := by simp
          by_cases hq0 : q = 0
          · subst hq0
            have hx8 := hx8 rfl
            have hzx : (s.extract y x).size ≤ 8 := by rw [← size_list, cut_list, List.length_drop, List.length_take, size_list]; omega
            have hvl : val (s.extract y x).data.toList < 18446744073709551616 := val_le (by rw [size_list]; exact hzx)
            have hval := fun W => value_any 8 (s.extract y x) W hzx hzx
            have hcmp := cut_num s x y
            generalize val (s.extract y x).data.toList = v at *
            have HVAL := Lib.hid hval
            have HCMP := Lib.hid hcmp
            clear hval hcmp
            go_wp2_with fail
            refine (HVAL.out _).mono ?_
            rintro e w6 ⟨rfl, d, rfl⟩
            have HK6 := Lib.hid (HK5.out.drewN d)
            go_wp2_with fail
            refine (refNumber_any v 8 _ (by omega) hvl).mono ?_
            rintro e w7 ⟨rfl, hb7, hr7⟩
            have hcn := text_at (show Row w7 w5.heap.size 5 _ _ from hr7) 8 8 (be_length _ _).symm
            have HK7 := Lib.hid (HK6.out.below hb7)
            have hcmp := HCMP.out
            have HEND := Lib.hid (good_end HK7.out hxs hsz)
            have hrow := good_row HK7.out.1
            obtain ⟨A5, c5, hrow⟩ := hrow
            have HROW := Lib.hid hrow
            clear hrow c0 hb7 hr7
            go_wp2_with fail
            refine (bad_any g true _ _ HROW.out).mono ?_
            rintro e w8 ⟨rfl, rfl⟩
            go_wp2_with fail
            refine (left_some g A5 _ c5 _ HROW.out).mono ?_
            rintro e w8 ⟨rfl, rfl⟩
            go_wp2_with fail
            go_roundw
            case rel => exact ⟨k + 1, by omega, by go_num, HEND.out⟩
            case measure => simp [intOf]; omega
          · have hqb : (q == 0) = false := by simpa using hq0
            have hcmp := cut_text s x y q hq0
            have HEND := Lib.hid (good_end HK5.out hxs hsz)
            have hrow := good_row HK5.out.1
            obtain ⟨A5, c5, hrow⟩ := hrow
            have HROW := Lib.hid hrow
            clear hrow
            go_wp2_with fail
            refine (bad_any g true _ _ HROW.out).mono ?_
            rintro e w6 ⟨rfl, rfl⟩
            go_wp2_with fail
            refine (left_some g A5 _ c5 _ HROW.out).mono ?_
            rintro e w6 ⟨rfl, rfl⟩
            go_wp2_with fail
            go_roundw
            case rel => exact ⟨k + 1, by omega, by go_num, HEND.out⟩
            case measure => simp [intOf]; omega
    · go_wp2_with fail
      refine (head_any _).mono ?_
      rintro e w3 ⟨rfl, hb3⟩
      go_wp2
      go_ret
      exact ⟨rfl, HB.out.trans (hb3.mono HB.out.size)⟩

end Go.Proofs.Ytfdfoijpkikfbaa
