/-
  The walks over package octet, part F: Num, Text, Take, as plain functions of the bytes that are left.
-/
import Derived.Test.YtbganaaiaokfmaaWalksD
import Derived.Test.YtbganaaiaokfmaaWalksE
import Derived.Laws.BytesArg
namespace Go.Proofs.Ytbganaaiaokfmaa
open Go.RowKit

/-- What Num tells of a reader's bytes, and what is left. -/
def rnum (st : Option (List UInt8)) (n : Int) : Nat × Option (List UInt8) :=
  match st with
  | none => (0, none)
  | some l => if isW n = true ∧ n ≤ (l.length : Int) then (val (l.take n.toNat), some (l.drop n.toNat)) else (0, none)

/-- Take. -/
def rtake (st : Option (List UInt8)) (n : Int) : List UInt8 × Option (List UInt8) :=
  match st with
  | none => ([], none)
  | some l => if 0 ≤ n ∧ n ≤ (l.length : Int) then (l.take n.toNat, some (l.drop n.toNat)) else ([], none)

/-- Text. -/
def rtext (st : Option (List UInt8)) (n m : Int) : List UInt8 × Option (List UInt8) :=
  match st with
  | none => ([], none)
  | some l => if isT n = true ∧ n ≤ (l.length : Int) ∧ 0 ≤ m ∧ (val (l.take n.toNat) : Int) ≤ m ∧ n + (val (l.take n.toNat) : Int) ≤ (l.length : Int) then
      ((l.drop n.toNat).take (val (l.take n.toNat)), some (l.drop (n.toNat + val (l.take n.toNat)))) else ([], none)

theorem run_text {P : Program} {T src : TypeId} (hs : P.underlying src = some (.slice T)) (he : P.underlying T = some (.int .u8)) (w : World) (A : Option Addr) (l : List UInt8) (c : Nat) (hr : Reads T w A l) :
    ∀ dst, P.underlying dst = some .string → (convert src dst (.slice A l.length c)).run P w = .ok (.string ⟨l.toArray⟩) w := by
  intro dst hd
  rcases Nat.eq_zero_or_pos l.length with h0 | h0
  · obtain rfl : l = [] := List.eq_nil_of_length_eq_zero h0
    rw [run_convert_bytes_string w src dst T A _ c hs he hd]
    cases A with
    | none => simp [Conv.bytesToString]; rfl
    | some a => 
      have := run_bytesToString (P := P) w a 0 c [] (by simp [loadCells]; rfl)
      exact this
  · obtain ⟨g, off, cs, m, rfl, hrow, hc⟩ := hr h0
    have h := run_convert_bytes_arg (P := P) w src T hs he g off l.length c (l.map fun b => (b.toNat : Int)) (by simp) (fun i hi => by
      rw [hrow.cell, hc i hi, byt_get l i hi]
      simp [List.getD, List.getElem?_eq_getElem hi]) dst hd
    have e : strOfNums (l.map fun b => (b.toNat : Int)) = ⟨l.toArray⟩ := by
      unfold strOfNums
      rw [List.map_map, show ((fun n : Int => UInt8.ofNat n.toNat) ∘ fun b : UInt8 => (b.toNat : Int)) = id from funext fun b => by simp, List.map_id]
    rw [h, e]

/-- The memory behind a reading: only the reader has turned, which now has what is left. -/
def Now (w : World) (g : Nat) (st : Option (List UInt8)) (w' : World) : Prop := w.grownBy w' (some g) ∧ Rdr w' g st

theorem Rdr.box {w : World} {g : Nat} (o : Obj) {st : Option (List UInt8)} (h : Rdr w g st) : Rdr (w.alloc o) g st := h.below ((Below.refl _ _).alloc (Nat.le_refl _) _)

theorem now_box {w w' : World} {g : Nat} {o : Obj} {st : Option (List UInt8)} (hg : (w.alloc o).grownBy w' (some g)) (hr : Rdr w' g st) : Now w g st w' :=
  ⟨only_trans (only_below ((Below.refl _ _).alloc (Nat.le_refl _) _) _) hg, hr⟩

theorem box_cell (w : World) (v : Value) (t : TypeId) (m : Nat × Nat) : (w.alloc (.cells #[v] t m)).cell? ⟨w.heap.size, 0, none⟩ = some v := by
  have := (Row.new w t [v] m).cell 0
  simpa using this

set_option maxRecDepth 100000 in
set_option maxHeartbeats 400000 in
theorem num_none (g : Nat) (n : Int) (w : World) (hr : Rdr w g none) :
    Calls Try.prog 40 #[.pointer (some ⟨g, 0, none⟩), .int .i64 n] w fun e w' => e = .returned (.int .u64 0) ∧ Now w g none w' := by
  have hmf : ∀ (fn : Fn) (first cap : Array Value) (w : World), (Instr.makeFunc fn first cap).run Try.prog w = .ok (.func fn first cap) w := fun _ _ _ _ => rfl
  obtain ⟨v, hv⟩ := hr
  have HV := Lib.hid (hv.alloc (.cells #[.int .i64 n] 3))
  have HN := Lib.hid (show Now w g none (w.alloc (.cells #[.int .i64 n] 3)) from now_box (only_refl _ _) ⟨v, hv.alloc _⟩)
  clear hv
  go_enter Try.func40, Try.ntmps40
  go_wp2_with fail
  refine (claim_none g v _ _ HV.out).mono ?_
  rintro e w' ⟨rfl, rfl⟩
  go_wp2_with fail
  refine (number_any none [] 0 _ Reads.nil (by decide)).mono ?_
  rintro e w' ⟨rfl, rfl⟩
  go_wp2
  go_ret
  exact ⟨rfl, HN.out⟩

set_option maxRecDepth 100000 in
set_option maxHeartbeats 400000 in
theorem num_no (g : Nat) (l : List UInt8) (n : Int) (w : World) (hr : Rdr w g (some l)) (hno : isW n = false ∨ (isW n = true ∧ (l.length : Int) < n)) :
    Calls Try.prog 40 #[.pointer (some ⟨g, 0, none⟩), .int .i64 n] w fun e w' => e = .returned (.int .u64 0) ∧ Now w g none w' := by
  have hmf : ∀ (fn : Fn) (first cap : Array Value) (w : World), (Instr.makeFunc fn first cap).run Try.prog w = .ok (.func fn first cap) w := fun _ _ _ _ => rfl
  obtain ⟨h, off, c, hlc, hc, hrow, hrd⟩ := Rdr.box (.cells #[.int .i64 n] 3) hr
  have HC := Lib.hid (claim_fail_num w.heap.size g h off l.length c n (isW n) (w.alloc (.cells #[.int .i64 n] 3)) hrow (by omega) (by rcases hno with hno | ⟨h1, h2⟩ <;> simp [*]) (need_num _ _ _ _ n _ (box_cell _ _ _ _)))
  clear hrow hrd hr hno
  go_enter Try.func40, Try.ntmps40
  go_wp2_with fail
  refine HC.out.mono ?_
  rintro e w' ⟨rfl, hg, hr'⟩
  go_wp2_with fail
  refine (number_any none [] 0 _ Reads.nil (by decide)).mono ?_
  rintro e w' ⟨rfl, rfl⟩
  go_wp2
  go_ret
  exact ⟨rfl, now_box hg hr'⟩

set_option maxRecDepth 100000 in
set_option maxHeartbeats 400000 in
theorem num_yes (g : Nat) (l : List UInt8) (n : Nat) (w : World) (hr : Rdr w g (some l)) (hn : isW n = true) (hl : n ≤ l.length) :
    Calls Try.prog 40 #[.pointer (some ⟨g, 0, none⟩), .int .i64 (n : Int)] w fun e w' => e = .returned (.int .u64 (val (l.take n) : Int)) ∧ Now w g (some (l.drop n)) w' := by
  have hmf : ∀ (fn : Fn) (first cap : Array Value) (w : World), (Instr.makeFunc fn first cap).run Try.prog w = .ok (.func fn first cap) w := fun _ _ _ _ => rfl
  have h8 : n ≤ 8 := by have := isW_cases hn; omega
  obtain ⟨h, off, c, hlc, hc, hrow, hrd⟩ := Rdr.box (.cells #[.int .i64 (n : Int)] 3) hr
  have hnd := need_num (some ⟨h, off, none⟩) l.length c w.heap.size n (w.alloc (.cells #[.int .i64 (n : Int)] 3)) (box_cell _ _ _ _)
  rw [hn] at hnd
  have HC := Lib.hid (claim_ok_num w.heap.size g h off c n l (w.alloc (.cells #[.int .i64 (n : Int)] 3)) hrow hrd hc hlc hl hnd)
  have hlen : (l.take n).length = n := by rw [List.length_take]; omega
  have HLEN := Lib.hid hlen
  clear hrow hrd hr hnd hlen
  go_enter Try.func40, Try.ntmps40
  go_wp2_with fail
  refine HC.out.mono ?_
  rintro e w' ⟨rfl, hg, hr', hrd'⟩
  have hnum := number_any (some ⟨h, off, none⟩) (l.take n) c w' hrd' (by rw [HLEN.out]; exact h8)
  rw [HLEN.out] at hnum
  have HNUM := Lib.hid hnum
  clear hnum hrd'
  go_wp2_with fail
  refine HNUM.out.mono ?_
  rintro e w' ⟨rfl, rfl⟩
  go_wp2
  go_ret
  exact ⟨rfl, now_box hg hr'⟩

theorem num_any (g : Nat) (st : Option (List UInt8)) (n : Int) (w : World) (hr : Rdr w g st) :
    Calls Try.prog 40 #[.pointer (some ⟨g, 0, none⟩), .int .i64 n] w fun e w' => e = .returned (.int .u64 ((rnum st n).1 : Int)) ∧ Now w g (rnum st n).2 w' := by
  match st, hr with
  | none, hr => exact num_none g n w hr
  | some l, hr =>
    by_cases hw : isW n = true
    · by_cases hl : n ≤ (l.length : Int)
      · obtain ⟨k, rfl⟩ := Int.eq_ofNat_of_zero_le (show 0 ≤ n by have := isW_cases hw; omega)
        have := num_yes g l k w hr hw (by omega)
        simpa [rnum, hw, hl] using this
      · have := num_no g l n w hr (.inr ⟨hw, by omega⟩)
        simpa [rnum, hl] using this
    · have hf : isW n = false := by simpa using hw
      have := num_no g l n w hr (.inl hf)
      simpa [rnum, hf] using this

end Go.Proofs.Ytbganaaiaokfmaa
