/-
  What the document's Do tells, and what a reader tells at the same step, are one.
-/
import Derived.Test.YtfdfoijpkikfbaaRefB
import Derived.Test.YtfdfoijpkikfbaaStep
namespace Go.Proofs.Ytfdfoijpkikfbaa
open Go.RowKit

/-- What a step tells that cannot be. -/
def nothing (q : Int) : List UInt8 := if q = 0 then be 0 8 else []
/-- What a step tells of the bytes that it goes through. -/
def shown (q : Int) (l : List UInt8) : List UInt8 := if q = 0 then be (val l) 8 else l

def Tells (s : ByteArray) (q n m x y : Int) : Prop :=
  ∀ w : World, Calls Try.prog 11 #[.string s, .agg #[.int .i64 q, .int .i64 n, .int .i64 m]] w fun e w' => e = .returned (.tuple #[.int .i64 x, .int .i64 y]) ∧ Below w.heap.size w w'

theorem rstep_none (q n m : Int) : rstep none q n m = (nothing q, none) := by
  unfold rstep nothing rnum rtext rtake
  split
  · rfl
  · split <;> rfl

theorem text_lt (l : List UInt8) (k : Nat) (h : k ≤ 4) : val (l.take k) < 4294967296 := by
  have h1 := val_lt (l.take k)
  have h2 : (l.take k).length ≤ 4 := by rw [List.length_take]; omega
  exact Nat.lt_of_lt_of_le h1 (Nat.pow_le_pow_right (by omega) h2)

theorem do_cases (s : ByteArray) (q n m : Int) (hq : q = 0 ∨ q = 1 ∨ q = 2) (hs : s.size ≤ 9223372036854775807) (hm : m ≤ 9223372036854775807) :
    (Tells s q n m (-1) 0 ∧ rstep (some s.data.toList) q n m = (nothing q, none)) ∨
    (∃ a b : Nat, b ≤ a ∧ a ≤ s.size ∧ (q = 0 → a ≤ 8) ∧ Tells s q n m a b ∧ rstep (some s.data.toList) q n m = (shown q ((s.data.toList.take a).drop b), some (s.data.toList.drop a))) := by
  have hlen : s.data.toList.length = s.size := size_list s
  rcases hq with rfl | rfl | rfl
  · by_cases h : isW n = true ∧ n ≤ (s.size : Int)
    · obtain ⟨k, rfl⟩ := Int.eq_ofNat_of_zero_le (show 0 ≤ n by have := isW_cases h.1; omega)
      refine .inr ⟨k, 0, Nat.zero_le _, by omega, fun _ => by have := isW_cases h.1; omega, fun w => do_ok0 s k m w h.1 h.2, ?_⟩
      have e : rnum (some s.data.toList) k = (val (s.data.toList.take k), some (s.data.toList.drop k)) := by
        have : rnum (some s.data.toList) k = (val (s.data.toList.take (k : Int).toNat), some (s.data.toList.drop (k : Int).toNat)) := if_pos (by rw [hlen]; exact h)
        simpa using this
      simp [rstep, shown, e]
    · refine .inl ⟨fun w => do_badw s 0 n m w (.inl rfl) ?_, ?_⟩
      · cases hw : isW n with
        | false => exact .inl rfl
        | true => exact .inr (.inr (.inl ⟨rfl, rfl, by have : ¬ n ≤ (s.size : Int) := fun x => h ⟨hw, x⟩; omega⟩))
      · have e : rnum (some s.data.toList) n = (0, none) := if_neg (by rw [hlen]; exact h)
        simp [rstep, nothing, e]
  · by_cases h : isT n = true ∧ n ≤ (s.size : Int) ∧ 0 ≤ m ∧ (val (s.data.toList.take n.toNat) : Int) ≤ m ∧ n + (val (s.data.toList.take n.toNat) : Int) ≤ (s.size : Int)
    · have e : rtext (some s.data.toList) n m = ((s.data.toList.drop n.toNat).take (val (s.data.toList.take n.toNat)), some (s.data.toList.drop (n.toNat + val (s.data.toList.take n.toNat)))) := if_pos (by rw [hlen]; exact h)
      obtain ⟨h1, h2, h3, h4, h5⟩ := h
      obtain ⟨k, rfl⟩ := Int.eq_ofNat_of_zero_le (show 0 ≤ n by have := isT_cases h1; omega)
      rw [Int.toNat_natCast] at h4 h5 e
      have hk4 : k ≤ 4 := by have := isT_cases h1; omega
      have hv : val (s.extract 0 k).data.toList = val (s.data.toList.take k) := by rw [Lib.extract_data]; simp
      refine .inr ⟨k + val (s.data.toList.take k), k, by omega, by omega, fun h0 => by omega, fun w => ?_, ?_⟩
      · have := do_ok1 s k _ m w hs h1 (by omega) hv (text_lt _ _ hk4) hm h3 h4 (by omega)
        rw [show ((k + val (s.data.toList.take k) : Nat) : Int) = (k : Int) + (val (s.data.toList.take k) : Int) by omega]
        exact this
      · have e2 : rstep (some s.data.toList) 1 k m = rtext (some s.data.toList) k m := by simp [rstep]
        rw [e2, e, List.drop_take, show k + val (s.data.toList.take k) - k = val (s.data.toList.take k) by omega]
        simp [shown]
    · have e : rtext (some s.data.toList) n m = ([], none) := if_neg (by rw [hlen]; exact h)
      refine .inl ⟨fun w => ?_, by simp [rstep, nothing, e]⟩
      cases hw : isW n with
      | false => exact do_badw s 1 n m w (.inr rfl) (.inl hw)
      | true =>
        by_cases h8 : n = 8
        · exact do_badw s 1 n m w (.inr rfl) (.inr (.inl ⟨hw, rfl, h8⟩))
        · have ht : isT n = true := by
            rcases isW_cases hw with rfl | rfl | rfl | rfl
            · rfl
            · rfl
            · rfl
            · exact absurd rfl h8
          have hn8 : n < 8 := by have := isT_cases ht; omega
          by_cases hl : n ≤ (s.size : Int)
          · obtain ⟨k, rfl⟩ := Int.eq_ofNat_of_zero_le (show 0 ≤ n by have := isT_cases ht; omega)
            have hk4 : k ≤ 4 := by have := isT_cases ht; omega
            have hv : val (s.extract 0 k).data.toList = val (s.data.toList.take k) := by rw [Lib.extract_data]; simp
            rw [Int.toNat_natCast] at h
            refine do_bad1 s k _ m w ht (by omega) hv (text_lt _ _ hk4) hm ?_
            by_cases c1 : m < 0
            · exact .inl c1
            · by_cases c2 : m < (val (s.data.toList.take k) : Int)
              · exact .inr (.inl ⟨by omega, c2⟩)
              · refine .inr (.inr ⟨by omega, by omega, ?_⟩)
                have : ¬ ((k : Int) + (val (s.data.toList.take k) : Int) ≤ (s.size : Int)) := fun x => h ⟨ht, hl, by omega, by omega, x⟩
                omega
          · exact do_badw s 1 n m w (.inr rfl) (.inr (.inr (.inr ⟨hw, rfl, hn8, by omega⟩)))
  · by_cases h : 0 ≤ n ∧ n ≤ (s.size : Int)
    · obtain ⟨h0, h1⟩ := h
      obtain ⟨k, rfl⟩ := Int.eq_ofNat_of_zero_le h0
      refine .inr ⟨k, 0, Nat.zero_le _, by omega, fun h => by omega, fun w => do_ok2 s k m w h0 h1, ?_⟩
      have e : rtake (some s.data.toList) k = (s.data.toList.take k, some (s.data.toList.drop k)) := by
        have : rtake (some s.data.toList) k = (s.data.toList.take (k : Int).toNat, some (s.data.toList.drop (k : Int).toNat)) := if_pos (by rw [hlen]; exact ⟨h0, h1⟩)
        simpa using this
      simp [rstep, shown, e]
    · refine .inl ⟨fun w => do_bad2 s n m w (by omega), ?_⟩
      have e : rtake (some s.data.toList) n = ([], none) := if_neg (by rw [hlen]; exact h)
      simp [rstep, nothing, e]

end Go.Proofs.Ytfdfoijpkikfbaa
