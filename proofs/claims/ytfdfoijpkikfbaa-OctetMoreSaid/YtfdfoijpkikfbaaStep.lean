/-
  The walks of the statements' own helpers: what, great, step.
-/
import Derived.Test.YtfdfoijpkikfbaaHead
import Derived.Test.YtfdfoijpkikfbaaRef
namespace Go.Proofs.Ytfdfoijpkikfbaa
open Go.RowKit

def WhatPost (n m : Int) (w : World) (e : Ending) (w' : World) : Prop :=
  ∃ q : Int, (q = 0 ∨ q = 1 ∨ q = 2) ∧ e = .returned (.agg #[.int .i64 q, .int .i64 n, .int .i64 m]) ∧ Below w.heap.size w w'

theorem third (a : Int) : wrap64 ((IntKind.u64.wrap a).tmod 3) = 0 ∨ wrap64 ((IntKind.u64.wrap a).tmod 3) = 1 ∨ wrap64 ((IntKind.u64.wrap a).tmod 3) = 2 := by
  have h0 : 0 ≤ IntKind.u64.wrap a := by rw [IntKind.wrap_u64]; omega
  rw [Int.tmod_eq_emod_of_nonneg h0]
  have h1 : IntKind.u64.wrap a % 3 = 0 ∨ IntKind.u64.wrap a % 3 = 1 ∨ IntKind.u64.wrap a % 3 = 2 := by omega
  rcases h1 with h | h | h <;> rw [h]
  · exact .inl (IntWalk.wrap64_in 0 ⟨by omega, by omega⟩)
  · exact .inr (.inl (IntWalk.wrap64_in 1 ⟨by omega, by omega⟩))
  · exact .inr (.inr (IntWalk.wrap64_in 2 ⟨by omega, by omega⟩))

set_option maxHeartbeats 400000 in
theorem what_any (a n m : Int) (w : World) : Calls Try.prog 10 #[.agg #[.int .i64 a, .int .i64 n, .int .i64 m]] w (WhatPost n m w) := by
  go_enter Try.func10, Try.ntmps10
  go_wp2_with fail
  exact bodyPost_ret (v := .agg #[.int .i64 (wrap64 ((IntKind.u64.wrap a).tmod 3)), .int .i64 n, .int .i64 m]) (by simp [results, go_sem]) rfl
    ⟨_, third a, rfl, ((Below.refl _ _).alloc (Nat.le_refl _) _).alloc (by simp) _⟩

set_option maxHeartbeats 400000 in
theorem great_core (s : ByteArray) (A : Option Addr) (n c : Nat) (w : World) (hs : s.size ≤ 9223372036854775807) :
    Calls Try.prog 7 #[.agg #[.string s, .slice A n c]] w fun e w' => e = .returned (.bool (decide ((2000 : Int) < (s.size : Int)) || decide ((60 : Int) < (n : Int)))) ∧ Below w.heap.size w w' := by
  go_enter Try.func7, Try.ntmps7
  go_wp2_with fail
  all_goals
    go_ret
    exact ⟨rfl, (Below.refl _ _).alloc (Nat.le_refl _) _⟩

theorem great_any (s : ByteArray) (A : Option Addr) (n c : Nat) (w : World) (hs : s.size ≤ 9223372036854775807) (b : Bool) (hb : b = decide (2000 < s.size ∨ 60 < n)) :
    Calls Try.prog 7 #[.agg #[.string s, .slice A n c]] w fun e w' => e = .returned (.bool b) ∧ Below w.heap.size w w' := by
  have h := great_core s A n c w hs
  have e : (decide ((2000 : Int) < (s.size : Int)) || decide ((60 : Int) < (n : Int))) = b := by
    rw [hb, Bool.eq_iff_iff]; simp; omega
  rw [e] at h
  exact h

/-- What a step tells of a reader's bytes, and what is left. -/
def rstep (st : Option (List UInt8)) (q n m : Int) : List UInt8 × Option (List UInt8) :=
  if q = 0 then (be (rnum st n).1 8, (rnum st n).2) else if q = 1 then rtext st n m else rtake st n

theorem Now.box {w w1 w2 : World} {g : Nat} {o : Obj} {st : Option (List UInt8)} (h : Now (w.alloc o) g st w1) (hb : Below w1.heap.size w1 w2) : Now w g st w2 :=
  ⟨only_trans (only_trans (only_below ((Below.refl _ _).alloc (Nat.le_refl _) _) _) h.1) (only_below hb _), h.2.below hb⟩

theorem rnum_lt (st : Option (List UInt8)) (n : Int) : (rnum st n).1 < 18446744073709551616 := by
  unfold rnum
  split
  · simp
  · split
    · rename_i l h
      have h8 : n.toNat ≤ 8 := by have := isW_cases h.1; omega
      have h1 := val_lt (l.take n.toNat)
      have h2 : (l.take n.toNat).length ≤ 8 := by rw [List.length_take]; omega
      exact Nat.lt_of_lt_of_le h1 (Nat.pow_le_pow_right (by omega) h2)
    · simp

set_option maxHeartbeats 1000000 in
theorem step_num (g : Nat) (st : Option (List UInt8)) (n m : Int) (w : World) (hr : Rdr w g st) :
    Calls Try.prog 12 #[.pointer (some ⟨g, 0, none⟩), .agg #[.int .i64 0, .int .i64 n, .int .i64 m]] w fun e w' => e = .returned (.string ⟨(be (rnum st n).1 8).toArray⟩) ∧ Now w g (rnum st n).2 w' := by
  have HR := Lib.hid (Rdr.box (.cells #[.int .i64 0, .int .i64 n, .int .i64 m] 31) hr)
  have HLT := Lib.hid (rnum_lt st n)
  clear hr
  go_enter Try.func12, Try.ntmps12
  go_wp2_with fail
  refine (num_any g st n _ HR.out).mono ?_
  rintro e w1 ⟨rfl, hnow⟩
  have HNOW := Lib.hid hnow
  clear hnow
  go_wp2_with fail
  refine (refNumber_any (rnum st n).1 8 _ (by omega) HLT.out).mono ?_
  rintro e w2 ⟨rfl, hb2, hr2⟩
  have hc := text_at hr2 8 8 (be_length _ _).symm
  have HB2 := Lib.hid hb2
  clear hr2 hb2
  go_wp2_with fail
  go_ret
  exact ⟨rfl, HNOW.out.box HB2.out⟩

set_option maxHeartbeats 1000000 in
theorem step_text (g : Nat) (st : Option (List UInt8)) (n m : Int) (w : World) (hr : Rdr w g st) (hm : m ≤ 9223372036854775807) :
    Calls Try.prog 12 #[.pointer (some ⟨g, 0, none⟩), .agg #[.int .i64 1, .int .i64 n, .int .i64 m]] w fun e w' => e = .returned (.string ⟨(rtext st n m).1.toArray⟩) ∧ Now w g (rtext st n m).2 w' := by
  have HR := Lib.hid (Rdr.box (.cells #[.int .i64 1, .int .i64 n, .int .i64 m] 31) hr)
  clear hr
  go_enter Try.func12, Try.ntmps12
  go_wp2_with fail
  refine (text_any g st n m _ HR.out hm).mono ?_
  rintro e w1 ⟨rfl, hnow⟩
  have HNOW := Lib.hid hnow
  clear hnow
  go_wp2_with fail
  go_ret
  exact ⟨rfl, HNOW.out.box (Below.refl _ _)⟩

set_option maxHeartbeats 1000000 in
theorem step_take (g : Nat) (st : Option (List UInt8)) (n m : Int) (w : World) (hr : Rdr w g st) :
    Calls Try.prog 12 #[.pointer (some ⟨g, 0, none⟩), .agg #[.int .i64 2, .int .i64 n, .int .i64 m]] w fun e w' => e = .returned (.string ⟨(rtake st n).1.toArray⟩) ∧ Now w g (rtake st n).2 w' := by
  have HR := Lib.hid (Rdr.box (.cells #[.int .i64 2, .int .i64 n, .int .i64 m] 31) hr)
  clear hr
  go_enter Try.func12, Try.ntmps12
  go_wp2_with fail
  refine (take_any g st n _ HR.out).mono ?_
  rintro e w1 ⟨A, c, rfl, hrd, hnow⟩
  have HNOW := Lib.hid hnow
  have hc := run_text Try.underlying29 Try.underlying5 w1 A _ c hrd 9 Try.underlying9
  clear hnow hrd
  go_wp2_with fail
  go_ret
  exact ⟨rfl, HNOW.out.box (Below.refl _ _)⟩

theorem step_any (g : Nat) (st : Option (List UInt8)) (q n m : Int) (w : World) (hq : q = 0 ∨ q = 1 ∨ q = 2) (hr : Rdr w g st) (hm : m ≤ 9223372036854775807) :
    Calls Try.prog 12 #[.pointer (some ⟨g, 0, none⟩), .agg #[.int .i64 q, .int .i64 n, .int .i64 m]] w fun e w' => e = .returned (.string ⟨(rstep st q n m).1.toArray⟩) ∧ Now w g (rstep st q n m).2 w' := by
  rcases hq with rfl | rfl | rfl
  · exact step_num g st n m w hr
  · exact step_text g st n m w hr hm
  · exact step_take g st n m w hr

end Go.Proofs.Ytfdfoijpkikfbaa
