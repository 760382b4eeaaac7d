/-
  The walk of OctetMore.
-/
import Derived.Test.YtfdfoijpkikfbaaWalkLaw
import Derived.Deep.RegionWith
import Derived.Deep.DeepCutAuto
namespace Go.Proofs.Ytfdfoijpkikfbaa
open Go.RowKit

theorem step {a b c : World} (h : Below a.heap.size a b) (hb : Below b.heap.size b c) : Below a.heap.size a c := h.trans (hb.mono h.size)

theorem from_drew {a b : World} (h : Below a.drew.heap.size a.drew b) : Below a.heap.size a b := ⟨h.os, h.tape, h.output, h.size, h.block⟩

theorem cell_keep {W w1 : World} {p : Addr} {v : Value} (hb : Below W.heap.size W w1) (h : W.cell? p = some v) : w1.cell? p = some v := by
  have hlt : p.block < W.heap.size := by
    rcases Nat.lt_or_ge p.block W.heap.size with hh | hh
    · exact hh
    · have e0 : W.heap[p.block]? = none := Array.getElem?_eq_none hh
      simp [World.cell?, e0] at h
  exact (hb.cell hlt).trans h

/-- A text made into bytes, whatever the world: the world behind it and the capacity as functions. -/
theorem conv_fun (s : ByteArray) : ∃ (wF : World → World) (cF : World → Nat), (∀ w, (convert 9 29 (.string s)).run Try.prog w = .ok (.slice (some ⟨w.heap.size, 0, none⟩) s.size (cF w)) (wF w)) ∧
    ∀ w, Reads 5 (wF w) (some ⟨w.heap.size, 0, none⟩) s.data.toList ∧ Below w.heap.size w (wF w) := by
  have h := fun w => conv_bytes w s
  refine ⟨fun w => Classical.choose (h w), fun w => Classical.choose (Classical.choose_spec (h w)), fun w => (Classical.choose_spec (Classical.choose_spec (h w))).1, fun w => (Classical.choose_spec (Classical.choose_spec (h w))).2⟩

theorem open_text (A : Option Addr) (s : ByteArray) (c : Nat) (w : World) (hr : Reads 5 w A s.data.toList) (hs : s.size ≤ 281474976710656) :
    Calls Try.prog 9 #[.slice A s.size c] w (OpenPost w s.data.toList) := by
  have h := open_any A s.data.toList c w hr (by rw [size_list]; exact hs)
  rw [size_list] at h
  exact h

def more (s0 t : ByteArray) : ByteArray := s0 ++ t

theorem more_data (s0 t : ByteArray) : (more s0 t).data.toList = s0.data.toList ++ t.data.toList := by
  unfold more; rw [ByteArray.data_append]; simp

theorem more_size (s0 t : ByteArray) : (more s0 t).size = s0.size + t.size := by
  rw [← size_list, more_data, List.length_append, size_list, size_list]

set_option maxHeartbeats 400000 in
theorem more_great (s t : ByteArray) (A : Option Addr) (n c : Nat) (w : World) (hs : s.size ≤ 9223372036854775807) (hg : 2000 < s.size ∨ 60 < n) :
    Calls Try.prog 6 #[.agg #[.string s, .slice A n c], .string t] w fun e w' => e = .returned (.bool true) ∧ Below w.heap.size w w' := by
  have HG := Lib.hid (show true = decide (2000 < s.size ∨ 60 < n) by simp [hg])
  clear hg
  go_enter Try.func6, Try.ntmps6
  go_wp2_with fail
  refine (great_any s A n c _ hs true HG.out).mono ?_
  rintro e w1 ⟨rfl, hb1⟩
  have HB1 := Lib.hid (((Below.refl w.heap.size w).alloc (Nat.le_refl _) _).trans (hb1.mono (by simp)))
  clear hb1
  go_wp2_with fail
  refine (head_any _).mono ?_
  rintro e w2 ⟨rfl, hb2⟩
  go_wp2
  go_ret
  exact ⟨rfl, HB1.out.trans (hb2.mono HB1.out.size)⟩

set_option maxHeartbeats 400000 in
theorem more_long (s t : ByteArray) (A : Option Addr) (n c : Nat) (w : World) (hs : s.size ≤ 9223372036854775807) (ht : t.size ≤ 9223372036854775807) (hg : ¬ (2000 < s.size ∨ 60 < n)) (ht4 : 400 < t.size) :
    Calls Try.prog 6 #[.agg #[.string s, .slice A n c], .string t] w fun e w' => e = .returned (.bool true) ∧ Below w.heap.size w w' := by
  have HG := Lib.hid (show false = decide (2000 < s.size ∨ 60 < n) by simp [hg])
  clear hg
  go_enter Try.func6, Try.ntmps6
  go_wp2_with fail
  refine (great_any s A n c _ hs false HG.out).mono ?_
  rintro e w1 ⟨rfl, hb1⟩
  have HB1 := Lib.hid (((Below.refl w.heap.size w).alloc (Nat.le_refl _) _).trans (hb1.mono (by simp)))
  clear hb1
  go_wp2_with fail
  refine (head_any _).mono ?_
  rintro e w2 ⟨rfl, hb2⟩
  go_wp2
  go_ret
  exact ⟨rfl, HB1.out.trans (hb2.mono HB1.out.size)⟩

/-- What is kept through a round, of both readers. -/
def Kept2 (w : World) (A : Option Addr) (n c : Nat) (s0 : ByteArray) (X : Nat) (q fn fm : Int) (g1 : Nat) (st1 : Option (List UInt8)) (g2 : Nat) (st2 : Option (List UInt8)) (v : World) : Prop :=
  Rdr v g1 st1 ∧ Rdr v g2 st2 ∧ Row v w.heap.size 24 [.string s0, .slice A n c] (0, 0) ∧
    Row v X 31 [.int .i64 q, .int .i64 fn, .int .i64 fm] (0, 0) ∧ Below w.heap.size w v ∧ w.heap.size < g1 ∧ g1 < g2 ∧ g2 < X

section
variable {w : World} {A : Option Addr} {n c : Nat} {s0 : ByteArray} {X : Nat} {q fn fm : Int} {g1 g2 : Nat} {st1 st2 : Option (List UInt8)} {v v' : World}
theorem Kept2.below (h : Kept2 w A n c s0 X q fn fm g1 st1 g2 st2 v) (hb : Below v.heap.size v v') : Kept2 w A n c s0 X q fn fm g1 st1 g2 st2 v' := by
  obtain ⟨h1, h1b, h2, h3, h4, h5⟩ := h
  exact ⟨h1.below hb, h1b.below hb, h2.below hb h2.lt, h3.below hb h3.lt, h4.trans (hb.mono h4.size), h5⟩
theorem Kept2.now1 {st' : Option (List UInt8)} (h : Kept2 w A n c s0 X q fn fm g1 st1 g2 st2 v) (hn : Now v g1 st' v') : Kept2 w A n c s0 X q fn fm g1 st' g2 st2 v' := by
  obtain ⟨h1, h1b, h2, h3, h4, h5, h6, h7⟩ := h
  obtain ⟨n1, n2⟩ := hn
  exact ⟨n2, h1b.only n1 (by omega) h1.row, h2.grown n1 (by intro e; injection e; omega), h3.grown n1 (by intro e; injection e; omega), h4.grown n1 h4.size (fun k hk => by injection hk; omega), h5, h6, h7⟩
theorem Kept2.now2 {st' : Option (List UInt8)} (h : Kept2 w A n c s0 X q fn fm g1 st1 g2 st2 v) (hn : Now v g2 st' v') : Kept2 w A n c s0 X q fn fm g1 st1 g2 st' v' := by
  obtain ⟨h1, h1b, h2, h3, h4, h5, h6, h7⟩ := h
  obtain ⟨n1, n2⟩ := hn
  exact ⟨h1.only n1 (by omega) h1b.row, n2, h2.grown n1 (by intro e; injection e; omega), h3.grown n1 (by intro e; injection e; omega), h4.grown n1 h4.size (fun k hk => by injection hk; omega), h5, h6, h7⟩
theorem Kept2.drew (h : Kept2 w A n c s0 X q fn fm g1 st1 g2 st2 v) : Kept2 w A n c s0 X q fn fm g1 st1 g2 st2 v.drew := by
  obtain ⟨h1, h1b, h2, h3, h4, h5⟩ := h
  refine ⟨?_, ?_, h2.drew, h3.drew, h4.drew, h5⟩
  · cases st1 with
    | none => exact h1
    | some l => exact h1
  · cases st2 with
    | none => exact h1b
    | some l => exact h1b
theorem Kept2.cell0 (h : Kept2 w A n c s0 X q fn fm g1 st1 g2 st2 v) : v.cell? ⟨X, 0, none⟩ = some (.int .i64 q) := by rw [h.2.2.2.1.cell]; rfl
theorem Kept2.cell1 (h : Kept2 w A n c s0 X q fn fm g1 st1 g2 st2 v) : v.cell? ⟨X, 1, none⟩ = some (.int .i64 fn) := by rw [h.2.2.2.1.cell]; rfl
theorem Kept2.cell2 (h : Kept2 w A n c s0 X q fn fm g1 st1 g2 st2 v) : v.cell? ⟨X, 2, none⟩ = some (.int .i64 fm) := by rw [h.2.2.2.1.cell]; rfl
end

/-- What holds at a round's head. -/
def Going2 (w : World) (g1 g2 : Nat) (A : Option Addr) (n c : Nat) (s0 t : ByteArray) (wr : World) : Prop :=
  ∃ l : List UInt8, l.length ≤ 2000 ∧ Rdr wr g1 (some l) ∧ Rdr wr g2 (some (l ++ t.data.toList)) ∧
    Row wr w.heap.size 24 [.string s0, .slice A n c] (0, 0) ∧ Below w.heap.size w wr

theorem kept2_start {w wr w1 : World} {g1 g2 n c : Nat} {A : Option Addr} {s0 : ByteArray} {q fn fm : Int} {st1 st2 : Option (List UInt8)} (hrd : Rdr wr g1 st1) (hrd2 : Rdr wr g2 st2)
    (hbox : Row wr w.heap.size 24 [.string s0, .slice A n c] (0, 0)) (hb : Below w.heap.size w wr) (hg : w.heap.size < g1) (hg2 : g1 < g2) (hb1 : Below wr.heap.size wr w1) :
    Kept2 w A n c s0 w1.heap.size q fn fm g1 st1 g2 st2 (w1.alloc (.cells #[.int .i64 q, .int .i64 fn, .int .i64 fm] 31)) := by
  have h1 : Below w.heap.size w w1 := hb.trans (hb1.mono hb.size)
  exact ⟨Rdr.box _ (hrd.below hb1), Rdr.box _ (hrd2.below hb1), (hbox.below hb1 hbox.lt).alloc _, Row.new w1 _ [.int .i64 q, .int .i64 fn, .int .i64 fm] _, h1.alloc h1.size _, hg, hg2, Nat.lt_of_lt_of_le hrd2.lt hb1.size⟩

/-- A step of the first bytes alone that can be is the same of the first bytes and others behind them; it can be, or it cannot. -/
theorem rstep_more (l r : List UInt8) (q n m : Int) : rstep (some l) q n m = (nothing q, none) ∨
    ∃ (x : Nat) (W : List UInt8), rstep (some l) q n m = (W, some (l.drop x)) ∧ rstep (some (l ++ r)) q n m = (W, some (l.drop x ++ r)) := by
  by_cases h0 : q = 0
  · subst h0
    by_cases h : isW n = true ∧ n ≤ (l.length : Int)
    · obtain ⟨k, rfl⟩ := Int.eq_ofNat_of_zero_le (show 0 ≤ n by have := isW_cases h.1; omega)
      have hk : k ≤ l.length := by omega
      refine .inr ⟨k, be (val (l.take k)) 8, ?_, ?_⟩
      · have e : rnum (some l) k = (val (l.take (k : Int).toNat), some (l.drop (k : Int).toNat)) := if_pos h
        rw [rstep, if_pos rfl, e, Int.toNat_natCast]
      · have e : rnum (some (l ++ r)) k = (val ((l ++ r).take (k : Int).toNat), some ((l ++ r).drop (k : Int).toNat)) := if_pos ⟨h.1, by rw [List.length_append]; omega⟩
        rw [rstep, if_pos rfl, e, Int.toNat_natCast, List.take_append_of_le_length hk, List.drop_append_of_le_length hk]
    · have e : rnum (some l) n = (0, none) := if_neg h
      refine .inl ?_
      rw [rstep, if_pos rfl, e, nothing, if_pos rfl]
  · by_cases h1 : q = 1
    · subst h1
      by_cases h : isT n = true ∧ n ≤ (l.length : Int) ∧ 0 ≤ m ∧ (val (l.take n.toNat) : Int) ≤ m ∧ n + (val (l.take n.toNat) : Int) ≤ (l.length : Int)
      · have e := show rtext (some l) n m = _ from if_pos h
        obtain ⟨k, rfl⟩ := Int.eq_ofNat_of_zero_le (show 0 ≤ n by have := isT_cases h.1; omega)
        rw [Int.toNat_natCast] at e h
        obtain ⟨h2, h3, h4, h5, h6⟩ := h
        have hk : k ≤ l.length := by omega
        have ht : (l ++ r).take k = l.take k := List.take_append_of_le_length hk
        have e2 : rtext (some (l ++ r)) k m = (((l ++ r).drop k).take (val (l.take k)), some ((l ++ r).drop (k + val (l.take k)))) := by
          have := show rtext (some (l ++ r)) k m = _ from if_pos (by rw [Int.toNat_natCast, ht]; exact ⟨h2, by rw [List.length_append]; omega, h4, h5, by rw [List.length_append]; omega⟩)
          rw [this, Int.toNat_natCast, ht]
        refine .inr ⟨k + val (l.take k), (l.drop k).take (val (l.take k)), ?_, ?_⟩
        · rw [rstep, if_neg (by decide), if_pos rfl, e]
        · rw [rstep, if_neg (by decide), if_pos rfl, e2, List.drop_append_of_le_length hk, List.take_append_of_le_length (by rw [List.length_drop]; omega), List.drop_append_of_le_length (by omega)]
      · have e : rtext (some l) n m = ([], none) := if_neg h
        refine .inl ?_
        rw [rstep, if_neg (by decide), if_pos rfl, e, nothing, if_neg (by decide)]
    · by_cases h : 0 ≤ n ∧ n ≤ (l.length : Int)
      · obtain ⟨k, rfl⟩ := Int.eq_ofNat_of_zero_le h.1
        have hk : k ≤ l.length := by omega
        refine .inr ⟨k, l.take k, ?_, ?_⟩
        · have e : rtake (some l) k = (l.take (k : Int).toNat, some (l.drop (k : Int).toNat)) := if_pos h
          rw [rstep, if_neg h0, if_neg h1, e, Int.toNat_natCast]
        · have e : rtake (some (l ++ r)) k = ((l ++ r).take (k : Int).toNat, some ((l ++ r).drop (k : Int).toNat)) := if_pos ⟨h.1, by rw [List.length_append]; omega⟩
          rw [rstep, if_neg h0, if_neg h1, e, Int.toNat_natCast, List.take_append_of_le_length hk, List.drop_append_of_le_length hk]
      · have e : rtake (some l) n = ([], none) := if_neg h
        refine .inl ?_
        rw [rstep, if_neg h0, if_neg h1, e, nothing, if_neg h0]

theorem both_len (l : List UInt8) (t : ByteArray) : (((l ++ t.data.toList).length : Int) != (l.length : Int) + (t.size : Int)) = false := by
  rw [List.length_append, size_list, bne_eq_false_iff_eq]; omega

/-- A reader of nothing that is asked for less than nothing. -/
theorem rstep_nil (q : Int) : rstep (some []) q (-1) 0 = (nothing q, none) := by
  rcases rstep_more [] [] q (-1) 0 with h | ⟨x, W, h, _⟩
  · exact h
  · exfalso
    unfold rstep rnum rtext rtake at h
    split at h
    · simp [isW, isT] at h
    · split at h
      · simp [isT] at h
      · simp at h

theorem below_now {w : World} {A : Option Addr} {n c : Nat} {s0 : ByteArray} {X : Nat} {q fn fm : Int} {g1 g2 g3 : Nat} {st1 st2 st : Option (List UInt8)} {v v' : World} (h : Kept2 w A n c s0 X q fn fm g1 st1 g2 st2 v) (hg : w.heap.size ≤ g3) (hn : Now v g3 st v') :
    Below w.heap.size w v' := h.2.2.2.2.1.grown hn.1 h.2.2.2.2.1.size (fun k hk => by injection hk; omega)

theorem open_nil (w : World) : Calls Try.prog 9 #[.slice none 0 0] w (OpenPost w []) := open_any none [] 0 w Reads.nil (by simp)

/-- Both readers, opened. -/
def Both (w : World) (s0 t : ByteArray) (A : Option Addr) (n c : Nat) (v5 v6 : Value) (wc : World) : Prop :=
  ∃ g1 g2 : Nat, v5 = .pointer (some ⟨g1, 0, none⟩) ∧ v6 = .pointer (some ⟨g2, 0, none⟩) ∧ w.heap.size < g1 ∧ g1 < g2 ∧ Rdr wc g1 (some s0.data.toList) ∧ Rdr wc g2 (some (more s0 t).data.toList) ∧
    Row wc w.heap.size 24 [.string s0, .slice A n c] (0, 0) ∧ Below w.heap.size w wc

theorem both_mk {w w1 w2 w3 : World} {s0 t : ByteArray} {A : Option Addr} {n c g1 g2 : Nat} (hz : w.heap.size < w1.heap.size) (hg1 : w1.heap.size ≤ g1) (hr1 : Rdr w2 g1 (some s0.data.toList)) (hg2 : w2.heap.size ≤ g2) (hd : Below w2.heap.size w2 w3)
    (hr2 : Rdr w3 g2 (some (more s0 t).data.toList)) (hbox : Row w1 w.heap.size 24 [.string s0, .slice A n c] (0, 0)) (hc : Below w1.heap.size w1 w2) (hb : Below w.heap.size w w1) :
    Both w s0 t A n c (.pointer (some ⟨g1, 0, none⟩)) (.pointer (some ⟨g2, 0, none⟩)) w3 :=
  ⟨g1, g2, rfl, rfl, Nat.lt_of_lt_of_le hz hg1, Nat.lt_of_lt_of_le hr1.lt hg2, hr1.below hd, hr2, (hbox.below hc hbox.lt).below hd (Nat.lt_of_lt_of_le hbox.lt hc.size), (hb.trans (hc.mono hb.size)).trans (hd.mono (hb.trans (hc.mono hb.size)).size)⟩

set_option maxRecDepth 100000 in
set_option maxHeartbeats 16000000 in
theorem more_small (s0 t : ByteArray) (A : Option Addr) (n c : Nat) (w : World) (hs0 : s0.size ≤ 2000) (ht : t.size ≤ 400) (hn : n ≤ 60) (hF : n = 0 ∨ ∃ b off F, A = some ⟨b, off, none⟩ ∧ Stps w b off n F) :
    Calls Try.prog 6 #[.agg #[.string s0, .slice A n c], .string t] w fun e w' => e = .returned (.bool true) ∧ Below w.heap.size w w' := by
  have HF0 := Lib.hid hF
  clear hF
  go_enter Try.func6, Try.ntmps6
  go_wp2_with fail
  refine (great_any s0 _ n c _ (by omega) false (by simp; omega)).mono ?_
  rintro e w1 ⟨rfl, hb1⟩
  have hbox1 := (Row.new w 24 [.string s0, .slice A n c] (0, 0)).below hb1 (by simp)
  have HBW1 := Lib.hid (((Below.refl w.heap.size w).alloc (Nat.le_refl _) _).trans (hb1.mono (by simp)))
  have HZ1 := Lib.hid (show w.heap.size < w1.heap.size by have := hb1.size; simp at this; omega)
  have HBOX1 := Lib.hid hbox1
  have hx0 : w1.cell? ⟨w.heap.size, 0, none⟩ = some (.string s0) := by rw [hbox1.cell]; rfl
  clear hb1 hbox1
  go_upto_region 3 with fail
  go_cut [5, 6] (fun v5 v6 wc => Both w s0 t A n c v5 v6 wc)
  case first =>
    obtain ⟨wA, cA, hcvA, hA⟩ := conv_fun s0
    obtain ⟨wB, cB, hcvB, hB⟩ := conv_fun (more s0 t)
    have hcat : s0 ++ t = more s0 t := rfl
    have hkA : ∀ W : World, W.cell? ⟨w.heap.size, 0, none⟩ = some (.string s0) → (wA W).cell? ⟨w.heap.size, 0, none⟩ = some (.string s0) := fun W h => cell_keep (hA W).2 h
    have hkB : ∀ W : World, W.cell? ⟨w.heap.size, 0, none⟩ = some (.string s0) → (wB W).cell? ⟨w.heap.size, 0, none⟩ = some (.string s0) := fun W h => cell_keep (hB W).2 h
    have HA := Lib.hid hA
    have HBB := Lib.hid hB
    clear hA hB
    have hx1 : w1.drew.cell? ⟨w.heap.size, 0, none⟩ = some (.string s0) := hx0
    have hz : s0.size ≤ 281474976710656 := by omega
    have hz2 : (more s0 t).size ≤ 281474976710656 := by rw [more_size]; omega
    have HOA1 := Lib.hid (open_text (some ⟨w1.heap.size, 0, none⟩) s0 (cA w1.drew) (wA w1.drew) (HA.out w1.drew).1 hz)
    have HOA2 := Lib.hid (open_text (some ⟨w1.heap.size, 0, none⟩) s0 (cA w1.drew) (wB (wA w1.drew)) ((HA.out w1.drew).1.below (HBB.out (wA w1.drew)).2 (Nat.le_refl _)) hz)
    have HOA3 := Lib.hid (open_text (some ⟨(wB w1.drew).heap.size, 0, none⟩) s0 (cA (wB w1.drew)) (wA (wB w1.drew)) (HA.out (wB w1.drew)).1 hz)
    have HOB1 := Lib.hid (fun w2 : World => open_text (some ⟨w2.heap.size, 0, none⟩) (more s0 t) (cB w2) (wB w2) (HBB.out w2).1 hz2)
    have HOB2 := Lib.hid (fun (w2 : World) (hb : Below (wB (wA w1.drew)).heap.size (wB (wA w1.drew)) w2) => open_text (some ⟨(wA w1.drew).heap.size, 0, none⟩) (more s0 t) (cB (wA w1.drew)) w2 ((HBB.out (wA w1.drew)).1.below hb (Nat.le_refl _)) hz2)
    have HOB3 := Lib.hid (fun (w2 : World) (hb : Below (wA (wB w1.drew)).heap.size (wA (wB w1.drew)) w2) => open_text (some ⟨w1.heap.size, 0, none⟩) (more s0 t) (cB w1.drew) w2 (((HBB.out w1.drew).1.below (HA.out (wB w1.drew)).2 (Nat.le_refl _)).below hb (Nat.le_refl _)) hz2)
    clear hz hz2
    have tok1 : True := trivial
    go_region_with (first
      | (go_at_call 9; have _t := tok1; ((with_reducible refine (HOA1.out).mono ?_));  clear _t tok1; rintro e w2 ⟨g1, rfl, hg1, hr1, hb2⟩; have hy1 := cell_keep (p := ⟨w.heap.size, 0, none⟩) hb2 (hkA _ hx1); have HC := Lib.hid (from_drew (step (HA.out w1.drew).2 hb2)); have HG1 := Lib.hid (Nat.le_trans (HA.out w1.drew).2.size hg1); have HR1 := Lib.hid hr1; have HB2 := Lib.hid hb2; clear hr1 hg1 hb2)
      | (go_at_call 9; have _t := tok1; ((with_reducible refine (HOA2.out).mono ?_));  clear _t tok1; rintro e w2 ⟨g1, rfl, hg1, hr1, hb2⟩; have hy1 := cell_keep (p := ⟨w.heap.size, 0, none⟩) hb2 (hkB _ (hkA _ hx1)); have HC := Lib.hid (from_drew (step (step (HA.out w1.drew).2 (HBB.out (wA w1.drew)).2) hb2)); have HG1 := Lib.hid (Nat.le_trans (step (HA.out w1.drew).2 (HBB.out (wA w1.drew)).2).size hg1); have HR1 := Lib.hid hr1; have HB2 := Lib.hid hb2; clear hr1 hg1 hb2)
      | (go_at_call 9; have _t := tok1; ((with_reducible refine (HOA3.out).mono ?_));  clear _t tok1; rintro e w2 ⟨g1, rfl, hg1, hr1, hb2⟩; have hy1 := cell_keep (p := ⟨w.heap.size, 0, none⟩) hb2 (hkA _ (hkB _ hx1)); have HC := Lib.hid (from_drew (step (step (HBB.out w1.drew).2 (HA.out (wB w1.drew)).2) hb2)); have HG1 := Lib.hid (Nat.le_trans (step (HBB.out w1.drew).2 (HA.out (wB w1.drew)).2).size hg1); have HR1 := Lib.hid hr1; have HB2 := Lib.hid hb2; clear hr1 hg1 hb2)
      | (go_at_call 9; ((with_reducible refine (HOB1.out w2).mono ?_));  rintro e w3 ⟨g2, rfl, hg2, hr2, hb3⟩; have hy2 := cell_keep (p := ⟨w.heap.size, 0, none⟩) hb3 (hkB _ hy1); have HD := Lib.hid (step (HBB.out w2).2 hb3); have HG2 := Lib.hid (Nat.le_trans (HBB.out w2).2.size hg2); have HR2 := Lib.hid hr2; clear hr2 hg2 hb3)
      | (go_at_call 9; ((with_reducible refine (HOB2.out w2 HB2.out).mono ?_));  rintro e w3 ⟨g2, rfl, hg2, hr2, hb3⟩; have hy2 := cell_keep (p := ⟨w.heap.size, 0, none⟩) hb3 (hy1); have HD := Lib.hid (hb3); have HG2 := Lib.hid (hg2); have HR2 := Lib.hid hr2; clear hr2 hg2 hb3)
      | (go_at_call 9; ((with_reducible refine (HOB3.out w2 HB2.out).mono ?_));  rintro e w3 ⟨g2, rfl, hg2, hr2, hb3⟩; have hy2 := cell_keep (p := ⟨w.heap.size, 0, none⟩) hb3 (hy1); have HD := Lib.hid (hb3); have HG2 := Lib.hid (hg2); have HR2 := Lib.hid hr2; clear hr2 hg2 hb3))
    all_goals go_wp2_with fail
    all_goals go_meet
    all_goals exact both_mk HZ1.out HG1.out HR1.out HG2.out HD.out HR2.out HBOX1.out HC.out HBW1.out
  case rest =>
    obtain ⟨g1, g2, rfl, rfl, hg0, hg12, hr1, hr2, hbox, hb⟩ := hcut
    have HR1 := Lib.hid hr1
    have HR2 := Lib.hid (show Rdr wc g2 (some (s0.data.toList ++ t.data.toList)) by rw [← more_data]; exact hr2)
    have HBOX := Lib.hid hbox
    have HB := Lib.hid hb
    clear hr1 hr2 hbox hb hx0 HBOX1 HBW1
    go_wp2_with fail
    go_loopw [7] (fun i wr => ∃ k : Nat, k ≤ n ∧ i = .int .i64 k ∧ Going2 w g1 g2 A n c s0 t wr) (fun i _ => n - (intOf i).toNat)
    case atStart => exact ⟨0, Nat.zero_le _, rfl, s0.data.toList, by rw [size_list]; exact hs0, HR1.out, HR2.out, HBOX.out, HB.out⟩
    case round =>
      obtain ⟨k, hk, rfl, l, hl, hr1, hr2, hbox, hb⟩ := hrel
      have HR1 := Lib.hid hr1
      have HR2 := Lib.hid hr2
      have HBOX := Lib.hid hbox
      have HB := Lib.hid hb
      have hc1 := hbox.cell 1
      simp at hc1
      clear hr1 hr2 hbox hb
      by_cases hlt : k < n
      · obtain ⟨b, off, F, rfl, hF⟩ := HF0.out.resolve_left (by omega)
        have HF := Lib.hid (hF.below (w' := wr) ⟨HB.out.os, HB.out.tape, HB.out.output, HB.out.size, HB.out.block⟩)
        obtain ⟨x0, x1, x2, hm⟩ := HF.out.2 k hlt
        generalize hfk : F k = fk at *
        obtain ⟨fa, fn, fm⟩ := fk
        simp only at x0 x1 x2 hm
        clear hfk hF HF
        go_wp2_with fail
        refine (what_any _ _ _ _).mono ?_
        rintro e w3 ⟨q, hq, rfl, hb3⟩
        have HK := Lib.hid (kept2_start (q := q) (fn := fn) (fm := fm) HR1.out HR2.out HBOX.out HB.out hg0 hg12 hb3)
        have HQ := Lib.hid hq
        clear hb3 hq
        rcases rstep_more l t.data.toList q fn fm with hr | ⟨x, W, hr, hr'⟩
        · have hs1 := step_any g1 (some l) q fn fm _ HQ.out HK.out.1 hm
          rw [hr] at hs1
          have HS1 := Lib.hid hs1
          clear hs1 hr
          go_wp2_with fail
          refine HS1.out.mono ?_
          rintro e w4 ⟨rfl, hn4⟩
          have HK4 := Lib.hid (HK.out.now1 hn4)
          have c0 := HK4.out.cell0
          have c1 := HK4.out.cell1
          have c2 := HK4.out.cell2
          have HS2 := Lib.hid (step_any g2 _ q fn fm _ HQ.out HK4.out.2.1 hm)
          clear hn4
          go_wp2_with fail
          clear c0 c1 c2
          refine HS2.out.mono ?_
          rintro e w5 ⟨rfl, hn5⟩
          have HK5 := Lib.hid (HK4.out.now2 hn5)
          clear hn5
          obtain ⟨v5, hrow⟩ := HK5.out.1
          have HROW := Lib.hid hrow
          clear hrow
          go_wp2_with fail
          refine (bad_any g1 false v5 _ HROW.out).mono ?_
          rintro e w6 ⟨rfl, rfl⟩
          go_wp2_with fail
          have c0 := HK5.out.cell0
          have c1 := HK5.out.cell1
          have c2 := HK5.out.cell2
          have HD := Lib.hid HK5.out.drew
          have HL := Lib.hid (left_none g1 v5 _ HROW.out.drew)
          have hs3 := step_any g1 none q fn fm _ HQ.out HD.out.1 hm
          rw [rstep_none] at hs3
          have HS3 := Lib.hid hs3
          have hs4 := fun g3 W h => step_any g3 (some []) q (-1) 0 W HQ.out h (by omega)
          rw [rstep_nil] at hs4
          have HS4 := Lib.hid hs4
          have HO := Lib.hid open_nil
          clear hs3 hs4
          go_region_with (first
            | (go_at_call 16; ((with_reducible refine (HL.out).mono ?_)); rintro e w7 ⟨rfl, rfl⟩)
            | (go_at_call 12; ((with_reducible refine (HS3.out).mono ?_)); rintro e w7 ⟨rfl, hn7⟩; have HK7 := Lib.hid (HD.out.now1 hn7); have y0 := HK7.out.cell0; clear hn7)
            | (go_at_call 9; ((with_reducible refine (HO.out _).mono ?_)); rintro e w8 ⟨g3, rfl, hg3, hr3, hb8⟩; have HK8 := Lib.hid (HK7.out.below hb8); have z0 := HK8.out.cell0; have HR3 := Lib.hid hr3; have HG3 := Lib.hid (Nat.le_trans HK7.out.2.2.2.2.1.size hg3); clear hg3 hr3 hb8)
            | (go_at_call 12; ((with_reducible refine (HS4.out _ _ HR3.out).mono ?_)); rintro e w9 ⟨rfl, hn9⟩; have HB9 := Lib.hid (below_now HK8.out HG3.out hn9); clear hn9)
            | (go_at_call 8; ((with_reducible refine (head_any _).mono ?_)); rintro e w10 ⟨rfl, hb10⟩; have HB10 := Lib.hid (HB9.out.trans (hb10.mono HB9.out.size)); clear hb10))
          all_goals go_wp2_with fail
          all_goals go_ret
          all_goals exact ⟨rfl, HB10.out⟩
        · have hs1 := step_any g1 (some l) q fn fm _ HQ.out HK.out.1 hm
          rw [hr] at hs1
          have HS1 := Lib.hid hs1
          clear hs1 hr
          go_wp2_with fail
          refine HS1.out.mono ?_
          rintro e w4 ⟨rfl, hn4⟩
          have HK4 := Lib.hid (HK.out.now1 hn4)
          have c0 := HK4.out.cell0
          have c1 := HK4.out.cell1
          have c2 := HK4.out.cell2
          have hs2 := step_any g2 _ q fn fm _ HQ.out HK4.out.2.1 hm
          rw [hr'] at hs2
          have HS2 := Lib.hid hs2
          clear hn4 hs2 hr'
          go_wp2_with fail
          clear c0 c1 c2
          refine HS2.out.mono ?_
          rintro e w5 ⟨rfl, hn5⟩
          have HK5 := Lib.hid (HK4.out.now2 hn5)
          clear hn5
          obtain ⟨h1, o1, d1, _, _, hrow1, _⟩ := HK5.out.1
          obtain ⟨h2, o2, d2, _, _, hrow2, _⟩ := HK5.out.2.1
          have HEND := Lib.hid (show Going2 w g1 g2 (some ⟨b, off, none⟩) n c s0 t w5 from ⟨l.drop x, by rw [List.length_drop]; omega, HK5.out.1, HK5.out.2.1, HK5.out.2.2.1, HK5.out.2.2.2.2.1⟩)
          have hsum := both_len (l.drop x) t
          have hdl : (l.drop x).length ≤ 2000 := by rw [List.length_drop]; omega
          generalize hz : l.drop x = l' at *
          have HROW1 := Lib.hid hrow1
          have HROW2 := Lib.hid hrow2
          clear hrow1 hrow2 hz
          go_wp2_with fail
          refine (bad_any g1 true _ _ HROW1.out).mono ?_
          rintro e w6 ⟨rfl, rfl⟩
          go_wp2_with fail
          refine (bad_any g2 true _ _ HROW2.out).mono ?_
          rintro e w6 ⟨rfl, rfl⟩
          go_wp2_with fail
          refine (left_some g2 _ _ d2 _ HROW2.out).mono ?_
          rintro e w6 ⟨rfl, rfl⟩
          go_wp2_with fail
          refine (left_some g1 _ _ d1 _ HROW1.out).mono ?_
          rintro e w6 ⟨rfl, rfl⟩
          go_wp2_with fail
          go_roundw
          case rel => exact ⟨k + 1, by omega, by go_num, HEND.out⟩
          case measure => simp [intOf]; omega
      · go_wp2_with fail
        refine (head_any _).mono ?_
        rintro e w3 ⟨rfl, hb3⟩
        go_wp2
        go_ret
        exact ⟨rfl, HB.out.trans (hb3.mono HB.out.size)⟩

end Go.Proofs.Ytfdfoijpkikfbaa
