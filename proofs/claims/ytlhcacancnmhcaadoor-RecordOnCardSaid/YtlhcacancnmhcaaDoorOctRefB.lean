/-
  The walks over the document's answers for octet, second part: Value, Do.
-/
import Derived.Test.YtlhcacancnmhcaaDoorOctRef
import Derived.Lib.Strings
namespace Go.Proofs.YtlhcacancnmhcaaDoor
open Go.RowKit

theorem size_list (s : ByteArray) : s.data.toList.length = s.size := rfl

theorem quiet_more {P : Program} {f : FuncId} {args : Array Value} {w : World} {n : Nat} {v : Value} (h : Calls P f args (w.drewN n) fun e w' => e = .returned v ∧ ∃ d, w' = (w.drewN n).drewN d) :
    Calls P f args (w.drewN n) fun e w' => e = .returned v ∧ ∃ m, w' = w.drewN m :=
  h.mono fun _ _ ⟨he, d, hd⟩ => ⟨he, n + d, by rw [hd, World.drewN_drewN]⟩

theorem wide_of_text {n : Int} (h : isT n = true) : isW n = true := by simp [isW, h]

theorem i64_id (n : Int) (h0 : -9223372036854775808 ≤ n) (h1 : n ≤ 9223372036854775807) : IntKind.i64.wrap n = n := by rw [IntKind.wrap_i64]; omega

/-- The last byte of a text, as the program reads it. -/
theorem last_byte (s : ByteArray) (h : 1 ≤ s.size) : ∃ c : Nat, c < 256 ∧ val s.data.toList = 256 * val (s.extract 0 (s.size - 1)).data.toList + c ∧
    ∀ (P : Program) (t : TypeId), P.underlying t = some .string → ∀ W : World, (Instr.index t (.string s) (.int .i64 ((s.size : Int) - 1))).run P W = .ok (.int .u8 (c : Int)) W := by
  have hlt : s.size - 1 < s.size := by omega
  refine ⟨(s[s.size - 1]'hlt).toNat, (s[s.size - 1]'hlt).toNat_lt, ?_, fun P t ht W => ?_⟩
  · have e : s.data.toList = (s.extract 0 (s.size - 1)).data.toList ++ [s[s.size - 1]'hlt] := by
      rw [Lib.extract_data, List.drop_zero, Nat.sub_zero]
      have h2 : s.data.toList = s.data.toList.take (s.size - 1 + 1) := by rw [List.take_of_length_le]; rw [size_list]; omega
      rw [h2, List.take_succ_eq_append_getElem (by rw [size_list]; exact hlt), List.take_append_of_le_length (by rw [List.length_take, size_list]; omega), List.take_take, Nat.min_self]
      rfl
    rw [e, val_snoc, Nat.mul_comm]
  · rw [run_index_string _ _ _ _ _ ht, dif_pos ⟨by omega, by omega⟩]
    have e : ((s.size : Int) - 1).toNat = s.size - 1 := by omega
    congr 4
    simp only [e]

set_option maxHeartbeats 400000 in
theorem value_none (s : ByteArray) (w : World) (h0 : s.size = 0) :
    Calls Tryd.prog 21 #[.string s] w fun e w' => e = .returned (.int .u64 (val s.data.toList : Int)) ∧ ∃ d, w' = w.drewN d := by
  have hl : s.data.toList = [] := List.eq_nil_of_length_eq_zero (by rw [size_list]; exact h0)
  have he : s.toList.isEmpty = true := by rw [ByteArray.toList_eq, hl]; rfl
  rw [hl, val_nil]
  clear hl h0
  go_enter Tryd.func21, Tryd.ntmps21
  go_wp2_with fail
  go_ret
  exact ⟨rfl, 0, rfl⟩

set_option maxHeartbeats 400000 in
theorem value_any (k : Nat) : ∀ (s : ByteArray) (w : World), s.size ≤ k → s.size ≤ 8 →
    Calls Tryd.prog 21 #[.string s] w fun e w' => e = .returned (.int .u64 (val s.data.toList : Int)) ∧ ∃ d, w' = w.drewN d := by
  induction k with
  | zero =>
    intro s w hk h8
    exact value_none s w (by omega)
  | succ k ih =>
    intro s w hk h8
    by_cases h0 : s.size = 0
    · exact value_none s w h0
    · have he : s.toList.isEmpty = false := by rw [ByteArray.toList_eq, List.isEmpty_eq_false_iff]; intro e; exact h0 (by rw [← size_list, e]; rfl)
      have h1 : 1 ≤ s.size := by omega
      have hsz : (s.extract 0 (s.size - 1)).size = s.size - 1 := by simp
      have hih := fun W => ih (s.extract 0 (s.size - 1)) W (by omega) (by omega)
      have hvl : val (s.extract 0 (s.size - 1)).data.toList < 72057594037927936 := by
        have h2 := val_lt (s.extract 0 (s.size - 1)).data.toList
        rw [size_list, hsz] at h2
        exact Nat.lt_of_lt_of_le h2 (Nat.pow_le_pow_right (by omega) (show s.size - 1 ≤ 7 by omega))
      obtain ⟨cb, hcb, hvv, hix⟩ := last_byte s h1
      have hix := hix Tryd.prog 9 Tryd.underlying9
      have HVV := Lib.hid hvv
      generalize val (s.extract 0 (s.size - 1)).data.toList = v at *
      have HIH := Lib.hid hih
      clear h0 hih ih hvv hsz
      have hw1 : IntKind.u64.wrap (256 * (v : Int)) = 256 * (v : Int) := u64_wrap_id _ (by omega) (by omega)
      have hw2 : IntKind.u64.wrap (256 * (v : Int) + (cb : Int)) = 256 * (v : Int) + (cb : Int) := u64_wrap_id _ (by omega) (by omega)
      go_enter Tryd.func21, Tryd.ntmps21
      go_wp2_with fail
      go_quiet ((go_at_call 21; exact quiet_more (HIH.out _)))
      go_wp2_with fail
      go_ret
      exact ⟨by rw [HVV.out]; simp, _, rfl⟩
end Go.Proofs.YtlhcacancnmhcaaDoor
