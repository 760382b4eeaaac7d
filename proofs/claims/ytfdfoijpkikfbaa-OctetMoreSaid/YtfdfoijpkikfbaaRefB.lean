/-
  The walks over the document's answers for octet, second part: Value, Do.
-/
import Derived.Test.YtfdfoijpkikfbaaRef
import Derived.Lib.Strings
namespace Go.Proofs.Ytfdfoijpkikfbaa
open Go.RowKit

theorem quiet_more {P : Program} {f : FuncId} {args : Array Value} {w : World} {n : Nat} {v : Value} (h : Calls P f args (w.drewN n) fun e w' => e = .returned v ∧ ∃ d, w' = (w.drewN n).drewN d) :
    Calls P f args (w.drewN n) fun e w' => e = .returned v ∧ ∃ m, w' = w.drewN m :=
  h.mono fun _ _ ⟨he, d, hd⟩ => ⟨he, n + d, by rw [hd, World.drewN_drewN]⟩

theorem wide_of_text {n : Int} (h : isT n = true) : isW n = true := by simp [isW, h]

theorem i64_id (n : Int) (h0 : -9223372036854775808 ≤ n) (h1 : n ≤ 9223372036854775807) : IntKind.i64.wrap n = n := by rw [IntKind.wrap_i64]; omega

/-- The last byte of a text, as the program reads it. -/
theorem last_byte (s : ByteArray) (h : 1 ≤ s.size) : ∃ c : Nat, c < 256 ∧ val s.data.toList = 256 * val (s.extract 0 (s.size - 1)).data.toList + c ∧
    ∀ (P : Program) (t : TypeId), P.underlying t = some .string → ∀ W : World, (Instr.index t (.string s) (.int .i64 ((s.size : Int) - 1))).run P W = .ok (.int .u8 (c : Int)) W := by
  have hlt : s.size - 1 < s.size := by omega
  refine ⟨(s[s.size - 1]'hlt).toNat, (s[s.size - 1]'hlt).toNat_lt, ?_, fun P t ht W => ?_⟩
  · have e : s.data.toList = (s.extract 0 (s.size - 1)).data.toList ++ [s[s.size - 1]'hlt] := by
      rw [Lib.extract_data, List.drop_zero, Nat.sub_zero]
      have h2 : s.data.toList = s.data.toList.take (s.size - 1 + 1) := by rw [List.take_of_length_le]; rw [size_list]; omega
      rw [h2, List.take_succ_eq_append_getElem (by rw [size_list]; exact hlt), List.take_append_of_le_length (by rw [List.length_take, size_list]; omega), List.take_take, Nat.min_self]
      rfl
    rw [e, val_snoc, Nat.mul_comm]
  · rw [run_index_string _ _ _ _ _ ht, dif_pos ⟨by omega, by omega⟩]
    have e : ((s.size : Int) - 1).toNat = s.size - 1 := by omega
    congr 4
    simp only [e]

set_option maxHeartbeats 400000 in
theorem value_none (s : ByteArray) (w : World) (h0 : s.size = 0) :
    Calls Try.prog 14 #[.string s] w fun e w' => e = .returned (.int .u64 (val s.data.toList : Int)) ∧ ∃ d, w' = w.drewN d := by
  have hl : s.data.toList = [] := List.eq_nil_of_length_eq_zero (by rw [size_list]; exact h0)
  have he : s.toList.isEmpty = true := by rw [ByteArray.toList_eq, hl]; rfl
  rw [hl, val_nil]
  clear hl h0
  go_enter Try.func14, Try.ntmps14
  go_wp2_with fail
  go_ret
  exact ⟨rfl, 0, rfl⟩

set_option maxHeartbeats 400000 in
theorem value_any (k : Nat) : ∀ (s : ByteArray) (w : World), s.size ≤ k → s.size ≤ 8 →
    Calls Try.prog 14 #[.string s] w fun e w' => e = .returned (.int .u64 (val s.data.toList : Int)) ∧ ∃ d, w' = w.drewN d := by
  induction k with
  | zero =>
    intro s w hk h8
    exact value_none s w (by omega)
  | succ k ih =>
    intro s w hk h8
    by_cases h0 : s.size = 0
    · exact value_none s w h0
    · have he : s.toList.isEmpty = false := by rw [ByteArray.toList_eq, List.isEmpty_eq_false_iff]; intro e; exact h0 (by rw [← size_list, e]; rfl)
      have h1 : 1 ≤ s.size := by omega
      have hsz : (s.extract 0 (s.size - 1)).size = s.size - 1 := by simp
      have hih := fun W => ih (s.extract 0 (s.size - 1)) W (by omega) (by omega)
      have hvl : val (s.extract 0 (s.size - 1)).data.toList < 72057594037927936 := by
        have h2 := val_lt (s.extract 0 (s.size - 1)).data.toList
        rw [size_list, hsz] at h2
        exact Nat.lt_of_lt_of_le h2 (Nat.pow_le_pow_right (by omega) (show s.size - 1 ≤ 7 by omega))
      obtain ⟨cb, hcb, hvv, hix⟩ := last_byte s h1
      have hix := hix Try.prog 9 Try.underlying9
      have HVV := Lib.hid hvv
      generalize val (s.extract 0 (s.size - 1)).data.toList = v at *
      have HIH := Lib.hid hih
      clear h0 hih ih hvv hsz
      have hw1 : IntKind.u64.wrap (256 * (v : Int)) = 256 * (v : Int) := u64_wrap_id _ (by omega) (by omega)
      have hw2 : IntKind.u64.wrap (256 * (v : Int) + (cb : Int)) = 256 * (v : Int) + (cb : Int) := u64_wrap_id _ (by omega) (by omega)
      go_enter Try.func14, Try.ntmps14
      go_wp2_with fail
      go_quiet ((go_at_call 14; exact quiet_more (HIH.out _)))
      go_wp2_with fail
      go_ret
      exact ⟨by rw [HVV.out]; simp, _, rfl⟩

/-- What Do tells, in the cases that it parts. -/
theorem do_bad2 (b : ByteArray) (n m : Int) (w : World) (h : n < 0 ∨ (0 ≤ n ∧ (b.size : Int) < n)) :
    Calls Try.prog 11 #[.string b, .agg #[.int .i64 2, .int .i64 n, .int .i64 m]] w fun e w' => e = .returned (.tuple #[.int .i64 (-1), .int .i64 0]) ∧ Below w.heap.size w w' := by
  rcases h with h | ⟨h0, h1⟩
  all_goals
    go_enter Try.func11, Try.ntmps11
    go_wp2_with fail
    go_ret2
    exact ⟨rfl, (Below.refl _ _).alloc (Nat.le_refl _) _⟩

theorem do_ok2 (b : ByteArray) (n m : Int) (w : World) (h0 : 0 ≤ n) (h1 : n ≤ (b.size : Int)) :
    Calls Try.prog 11 #[.string b, .agg #[.int .i64 2, .int .i64 n, .int .i64 m]] w fun e w' => e = .returned (.tuple #[.int .i64 n, .int .i64 0]) ∧ Below w.heap.size w w' := by
  go_enter Try.func11, Try.ntmps11
  go_wp2_with fail
  go_ret2
  exact ⟨rfl, (Below.refl _ _).alloc (Nat.le_refl _) _⟩

set_option maxHeartbeats 400000 in
theorem do_badw (b : ByteArray) (q n m : Int) (w : World) (hq : q = 0 ∨ q = 1) (h : isW n = false ∨ (isW n = true ∧ q = 1 ∧ n = 8) ∨ (isW n = true ∧ q = 0 ∧ (b.size : Int) < n) ∨ (isW n = true ∧ q = 1 ∧ n < 8 ∧ (b.size : Int) < n)) :
    Calls Try.prog 11 #[.string b, .agg #[.int .i64 q, .int .i64 n, .int .i64 m]] w fun e w' => e = .returned (.tuple #[.int .i64 (-1), .int .i64 0]) ∧ Below w.heap.size w w' := by
  rcases h with h | ⟨h, rfl, rfl⟩ | ⟨h, rfl, h1⟩ | ⟨h, rfl, h8, h1⟩
  · rcases hq with rfl | rfl
    all_goals
      have HW := Lib.hid h
      clear h
      go_enter Try.func11, Try.ntmps11
      go_wp2_with fail
      refine (width_any _ _).mono ?_
      rintro e w1 ⟨rfl, rfl⟩
      have hw := HW.out
      go_wp2_with fail
      go_ret2
      exact ⟨rfl, (Below.refl _ _).alloc (Nat.le_refl _) _⟩
  all_goals
    have HW := Lib.hid h
    clear h hq
    go_enter Try.func11, Try.ntmps11
    go_wp2_with fail
    refine (width_any _ _).mono ?_
    rintro e w1 ⟨rfl, rfl⟩
    have hw := HW.out
    go_wp2_with fail
    go_ret2
    exact ⟨rfl, (Below.refl _ _).alloc (Nat.le_refl _) _⟩

set_option maxHeartbeats 400000 in
theorem do_ok0 (b : ByteArray) (n m : Int) (w : World) (h : isW n = true) (h1 : n ≤ (b.size : Int)) :
    Calls Try.prog 11 #[.string b, .agg #[.int .i64 0, .int .i64 n, .int .i64 m]] w fun e w' => e = .returned (.tuple #[.int .i64 n, .int .i64 0]) ∧ Below w.heap.size w w' := by
  have HW := Lib.hid h
  clear h
  go_enter Try.func11, Try.ntmps11
  go_wp2_with fail
  refine (width_any _ _).mono ?_
  rintro e w1 ⟨rfl, rfl⟩
  have hw := HW.out
  go_wp2_with fail
  go_ret2
  exact ⟨rfl, (Below.refl _ _).alloc (Nat.le_refl _) _⟩

set_option maxHeartbeats 1000000 in
theorem do_bad1 (b : ByteArray) (n v : Nat) (m : Int) (w : World) (h : isT n = true) (h1 : n ≤ b.size) (hv : val (b.extract 0 n).data.toList = v) (hv4 : v < 4294967296) (hm63 : m ≤ 9223372036854775807)
    (hno : m < 0 ∨ (0 ≤ m ∧ m < (v : Int)) ∨ (0 ≤ m ∧ (v : Int) ≤ m ∧ (b.size : Int) - n < v)) :
    Calls Try.prog 11 #[.string b, .agg #[.int .i64 1, .int .i64 (n : Int), .int .i64 m]] w fun e w' => e = .returned (.tuple #[.int .i64 (-1), .int .i64 0]) ∧ Below w.heap.size w w' := by
  have hn : 1 ≤ n ∧ n ≤ 4 := by have := isT_cases h; omega
  obtain ⟨hn1, hn4⟩ := hn
  have hn8 : ((n : Int) == 8) = false := by rw [beq_eq_false_iff_ne]; omega
  have HW := Lib.hid (wide_of_text h)
  have hval := fun W => value_any 8 (b.extract 0 n) W (by simp; omega) (by simp; omega)
  rw [hv] at hval
  have HV := Lib.hid hval
  clear h hval hv
  rcases hno with hno | ⟨hno, hno2⟩ | ⟨hno, hno2, hno3⟩
  all_goals
    go_enter Try.func11, Try.ntmps11
    go_wp2_with fail
    refine (width_any _ _).mono ?_
    rintro e w1 ⟨rfl, rfl⟩
    have hw := HW.out
    go_wp2_with fail
    clear hw
    refine (HV.out _).mono ?_
    rintro e w1 ⟨rfl, d, rfl⟩
    go_wp2_with fail
    go_ret2
    exact ⟨rfl, below_drewN ((Below.refl _ _).alloc (Nat.le_refl _) _) _⟩

set_option maxHeartbeats 1000000 in
theorem do_ok1 (b : ByteArray) (n v : Nat) (m : Int) (w : World) (hb : b.size ≤ 9223372036854775807) (h : isT n = true) (h1 : n ≤ b.size) (hv : val (b.extract 0 n).data.toList = v) (hv4 : v < 4294967296) (hm63 : m ≤ 9223372036854775807)
    (hm : 0 ≤ m) (hvm : (v : Int) ≤ m) (hnv : n + v ≤ b.size) :
    Calls Try.prog 11 #[.string b, .agg #[.int .i64 1, .int .i64 (n : Int), .int .i64 m]] w fun e w' => e = .returned (.tuple #[.int .i64 ((n : Int) + v), .int .i64 (n : Int)]) ∧ Below w.heap.size w w' := by
  have hn : 1 ≤ n ∧ n ≤ 4 := by have := isT_cases h; omega
  obtain ⟨hn1, hn4⟩ := hn
  have hn8 : ((n : Int) == 8) = false := by rw [beq_eq_false_iff_ne]; omega
  have HW := Lib.hid (wide_of_text h)
  have hval := fun W => value_any 8 (b.extract 0 n) W (by simp; omega) (by simp; omega)
  rw [hv] at hval
  have HV := Lib.hid hval
  clear h hval hv
  go_enter Try.func11, Try.ntmps11
  go_wp2_with fail
  refine (width_any _ _).mono ?_
  rintro e w1 ⟨rfl, rfl⟩
  have hw := HW.out
  go_wp2_with fail
  clear hw
  refine (HV.out _).mono ?_
  rintro e w1 ⟨rfl, d, rfl⟩
  go_wp2_with fail
  have hw1 : IntKind.i64.wrap ((n : Int) + v) = (n : Int) + v := i64_id _ (by omega) (by omega)
  have hw2 : IntKind.i64.wrap (v : Int) = (v : Int) := i64_id _ (by omega) (by omega)
  go_quiet (fail)
  go_wp2_with fail
  go_ret2
  exact ⟨rfl, below_drewN (below_drewN ((Below.refl _ _).alloc (Nat.le_refl _) _) _) _⟩

end Go.Proofs.Ytfdfoijpkikfbaa
