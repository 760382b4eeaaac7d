/-
  The walks over package octet, part D: a reader: Open, Bad, Left, claim.
-/
import Derived.Test.YtbganaaiaokfmaaWalksC
namespace Go.Proofs.Ytbganaaiaokfmaa
open Go.RowKit

/-- What lies behind a reader's pointer: a bad one (none), or one with these bytes left. -/
def Rdr (w : World) (g : Nat) : Option (List UInt8) → Prop
  | none => ∃ v, Row w g 75 [.bool false, v] (0, 0)
  | some l => ∃ h off c, l.length ≤ c ∧ c ≤ 281474976710656 ∧ Row w g 75 [.bool true, .slice (some ⟨h, off, none⟩) l.length c] (0, 0) ∧ Reads 5 w (some ⟨h, off, none⟩) l

theorem Rdr.lt {w : World} {g : Nat} : ∀ {st : Option (List UInt8)}, Rdr w g st → g < w.heap.size
  | none, ⟨_, h⟩ => h.lt
  | some _, ⟨_, _, _, _, _, h, _⟩ => h.lt

theorem Rdr.below {w w' : World} {g : Nat} (hb : Below w.heap.size w w') : ∀ {st : Option (List UInt8)}, Rdr w g st → Rdr w' g st
  | none, ⟨v, h⟩ => ⟨v, h.below hb h.lt⟩
  | some _, ⟨h, off, c, h1, h2, h3, h4⟩ => ⟨h, off, c, h1, h2, h3.below hb h3.lt, h4.below hb (Nat.le_refl _)⟩

theorem Rdr.only {w w' : World} {g g' : Nat} (hb : w.grownBy w' (some g')) (hne : g ≠ g') (hr : ∃ cs m, Row w g' 75 cs m) : ∀ {st : Option (List UInt8)}, Rdr w g st → Rdr w' g st
  | none, ⟨v, h⟩ => ⟨v, h.grown hb (by simpa using hne)⟩
  | some _, ⟨h, off, c, h1, h2, h3, h4⟩ => ⟨h, off, c, h1, h2, h3.grown hb (by simpa using hne), h4.grown hb (fun k t cs m hk e => by
      injection e with e
      subst e
      obtain ⟨cs', m', hr⟩ := hr
      intro ht
      exact absurd rfl (Row.ne_ hk hr (by rw [ht]; decide)))⟩

theorem Rdr.row {w : World} {g : Nat} : ∀ {st : Option (List UInt8)}, Rdr w g st → ∃ cs m, Row w g 75 cs m
  | none, ⟨_, h⟩ => ⟨_, _, h⟩
  | some _, ⟨_, _, _, _, _, h, _⟩ => ⟨_, _, h⟩

def OpenPost (w : World) (l : List UInt8) (e : Ending) (w' : World) : Prop :=
  ∃ g, e = .returned (.pointer (some ⟨g, 0, none⟩)) ∧ w.heap.size ≤ g ∧ Rdr w' g (some l) ∧ Below w.heap.size w w'

set_option maxRecDepth 100000 in
set_option maxHeartbeats 400000 in
theorem open_any (A : Option Addr) (l : List UInt8) (c : Nat) (w : World) (hr : Reads 5 w A l) (hs : l.length ≤ 281474976710656) :
    Calls Try.prog 39 #[.slice A l.length c] w (OpenPost w l) := by
  go_enter Try.func39, Try.ntmps39
  go_wp2_with fail
  refine (grown_any A l c 0 w hr (by omega)).mono ?_
  rintro e w1 ⟨rfl, hb1, hrow1⟩
  simp only [List.replicate_zero, List.append_nil] at hrow1
  go_wp2
  go_ret
  refine ⟨w1.heap.size, rfl, hb1.size, ⟨w.heap.size, 0, l.length, Nat.le_refl _, hs, Row.new w1 _ [.bool true, .slice (some ⟨w.heap.size, 0, none⟩) l.length l.length] _, fun _ => ⟨_, _, _, _, rfl, hrow1.alloc _, fun j _ => by simp⟩⟩, hb1.alloc hb1.size _⟩

set_option maxRecDepth 100000 in
set_option maxHeartbeats 400000 in
theorem bad_any (g : Nat) (b : Bool) (v : Value) (w : World) (hr : Row w g 75 [.bool b, v] (0, 0)) :
    Calls Try.prog 42 #[.pointer (some ⟨g, 0, none⟩)] w fun e w' => e = .returned (.bool (!b)) ∧ w = w' := by
  have hc : w.cell? ⟨g, 0, none⟩ = some (.bool b) := by rw [hr.cell]; rfl
  go_enter Try.func42, Try.ntmps42
  go_wp2
  go_ret
  exact ⟨rfl, rfl⟩

set_option maxRecDepth 100000 in
set_option maxHeartbeats 400000 in
theorem claim_none (g : Nat) (v fn : Value) (w : World) (hr : Row w g 75 [.bool false, v] (0, 0)) :
    Calls Try.prog 54 #[.pointer (some ⟨g, 0, none⟩), fn] w fun e w' => e = .returned (.slice none 0 0) ∧ w = w' := by
  have HR := Lib.hid hr
  clear hr
  go_enter Try.func54, Try.ntmps54
  go_wp2_with (go_at_call 42; refine (bad_any _ false _ _ HR.out).mono ?_; rintro e w' ⟨rfl, rfl⟩)
  go_ret
  exact ⟨rfl, rfl⟩

theorem claim_end (g h off c k d : Nat) (l : List UInt8) (w : World) (hr : Row w g 75 [.bool true, .slice (some ⟨h, off, none⟩) l.length c] (0, 0)) (hrd : Reads 5 w (some ⟨h, off, none⟩) l) (hn : c ≤ 281474976710656) (hlc : l.length ≤ c) (hk : k ≤ l.length) :
    (k < c → w.grownBy ((w.drewN d).setCell ⟨g, 1, none⟩ (.slice (some ⟨h, off + k, none⟩) (l.length - k) (c - k))) (some g) ∧ Rdr ((w.drewN d).setCell ⟨g, 1, none⟩ (.slice (some ⟨h, off + k, none⟩) (l.length - k) (c - k))) g (some (l.drop k)) ∧ Reads 5 ((w.drewN d).setCell ⟨g, 1, none⟩ (.slice (some ⟨h, off + k, none⟩) (l.length - k) (c - k))) (some ⟨h, off, none⟩) (l.take k)) ∧
    (c ≤ k → w.grownBy ((w.drewN d).setCell ⟨g, 1, none⟩ (.slice (some ⟨h, off, none⟩) 0 0)) (some g) ∧ Rdr ((w.drewN d).setCell ⟨g, 1, none⟩ (.slice (some ⟨h, off, none⟩) 0 0)) g (some (l.drop k)) ∧ Reads 5 ((w.drewN d).setCell ⟨g, 1, none⟩ (.slice (some ⟨h, off, none⟩) 0 0)) (some ⟨h, off, none⟩) (l.take k)) := by
  have hfar : ∀ (u : Value) (A : Option Addr) (r : List UInt8), Reads 5 w A r → Reads 5 ((w.drewN d).setCell ⟨g, 1, none⟩ u) A r := fun u A r hx =>
    hx.grown (r := some g) (only_put (only_drawn w d _) _ _) (fun k t cs m hk e => by
      injection e with e
      subst e
      intro ht
      exact absurd rfl (Row.ne_ hk hr (by rw [ht]; decide)))
  have hon : ∀ u : Value, w.grownBy ((w.drewN d).setCell ⟨g, 1, none⟩ u) (some g) := fun u => only_put (only_drawn w d _) _ _
  constructor
  · intro hkc
    refine ⟨hon _, ⟨h, off + k, c - k, by rw [List.length_drop]; omega, by omega, ?_, ?_⟩, hfar _ _ _ (hrd.take k)⟩
    · rw [List.length_drop]
      exact (hr.drewN d).put 1 (.slice (some ⟨h, off + k, none⟩) (l.length - k) (c - k))
    · have := hrd.drop k c hlc
      rw [if_neg (by omega), Option.map_some, Addr.add_lit] at this
      exact hfar _ _ _ this
  · intro hkc
    refine ⟨hon _, ⟨h, off, 0, by rw [List.length_drop]; omega, by omega, ?_, ?_⟩, hfar _ _ _ (hrd.take k)⟩
    · rw [List.length_drop, show l.length - k = 0 by omega]
      exact (hr.drewN d).put 1 (.slice (some ⟨h, off, none⟩) 0 0)
    · have e : l.drop k = [] := List.drop_eq_nil_of_le (by omega)
      rw [e]
      exact Reads.nil

set_option maxRecDepth 100000 in
set_option maxHeartbeats 400000 in
theorem claim_fail_num (b0 g h off n c : Nat) (k : Int) (p : Bool) (w : World) (hr : Row w g 75 [.bool true, .slice (some ⟨h, off, none⟩) n c] (0, 0)) (hn : n ≤ 281474976710656) (hk : (p = false) ∨ (p = true ∧ k < 0) ∨ (p = true ∧ (n : Int) < k))
    (hneed : Calls Try.prog 55 #[.slice (some ⟨h, off, none⟩) n c, .pointer (some ⟨b0, 0, none⟩)] w fun e w' => e = .returned (.tuple #[.int .i64 k, .bool p]) ∧ ∃ d, w' = w.drewN d) :
    Calls Try.prog 54 #[.pointer (some ⟨g, 0, none⟩), .func (.func 55) #[] #[.pointer (some ⟨b0, 0, none⟩)]] w fun e w' => e = .returned (.slice none 0 0) ∧ w.grownBy w' (some g) ∧ Rdr w' g none := by
  have hc0 : ∀ d, (w.drewN d).cell? ⟨g, 0, none⟩ = some (.bool true) := fun d => by rw [(hr.drewN d).cell]; rfl
  have hc : ∀ d, (w.drewN d).cell? ⟨g, 1, none⟩ = some (.slice (some ⟨h, off, none⟩) n c) := fun d => by rw [(hr.drewN d).cell]; rfl
  have hc1 : w.cell? ⟨g, 1, none⟩ = some (.slice (some ⟨h, off, none⟩) n c) := hc 0
  have hf : ∀ d i, (w.drewN d).frozen? ⟨g, i, none⟩ = false := fun d i => (hr.drewN d).loose i
  have hfin : ∀ d, w.grownBy (((w.drewN d).setCell ⟨g, 0, none⟩ (.bool false)).setCell ⟨g, 1, none⟩ (.slice none 0 0)) (some g) ∧ Rdr (((w.drewN d).setCell ⟨g, 0, none⟩ (.bool false)).setCell ⟨g, 1, none⟩ (.slice none 0 0)) g none :=
    fun d => ⟨only_put (only_put (only_drawn w d _) _ _) _ _, ⟨_, ((hr.drewN d).put 0 (.bool false)).put 1 (.slice none 0 0)⟩⟩
  have HR := Lib.hid hr
  have HN := Lib.hid hneed
  have HF := Lib.hid hfin
  clear hr hneed hfin
  rcases hk with rfl | ⟨rfl, hk⟩ | ⟨rfl, hk⟩
  all_goals
    go_enter Try.func54, Try.ntmps54
    go_wp2_with (go_at_call 42; refine (bad_any _ true _ _ HR.out).mono ?_; rintro e w' ⟨rfl, rfl⟩)
    refine HN.out.mono ?_
    rintro e w' ⟨rfl, d, rfl⟩
    go_wp2
    go_ret
    exact ⟨rfl, HF.out d⟩

set_option maxRecDepth 100000 in
set_option maxHeartbeats 400000 in
theorem claim_ok_num (b0 g h off c k : Nat) (l : List UInt8) (w : World) (hr : Row w g 75 [.bool true, .slice (some ⟨h, off, none⟩) l.length c] (0, 0)) (hrd : Reads 5 w (some ⟨h, off, none⟩) l) (hn : c ≤ 281474976710656) (hlc : l.length ≤ c) (hk : k ≤ l.length)
    (hneed : Calls Try.prog 55 #[.slice (some ⟨h, off, none⟩) l.length c, .pointer (some ⟨b0, 0, none⟩)] w fun e w' => e = .returned (.tuple #[.int .i64 (k : Int), .bool true]) ∧ ∃ d, w' = w.drewN d) :
    Calls Try.prog 54 #[.pointer (some ⟨g, 0, none⟩), .func (.func 55) #[] #[.pointer (some ⟨b0, 0, none⟩)]] w fun e w' => e = .returned (.slice (some ⟨h, off, none⟩) k c) ∧ w.grownBy w' (some g) ∧ Rdr w' g (some (l.drop k)) ∧ Reads 5 w' (some ⟨h, off, none⟩) (l.take k) := by
  have hc : ∀ d, (w.drewN d).cell? ⟨g, 1, none⟩ = some (.slice (some ⟨h, off, none⟩) l.length c) := fun d => by rw [(hr.drewN d).cell]; rfl
  have hc1 : w.cell? ⟨g, 1, none⟩ = some (.slice (some ⟨h, off, none⟩) l.length c) := hc 0
  have hf : ∀ d i, (w.drewN d).frozen? ⟨g, i, none⟩ = false := fun d i => (hr.drewN d).loose i
  have HFIN := Lib.hid (fun d : Nat => claim_end g h off c k d l w hr hrd hn hlc hk)
  have HR := Lib.hid hr
  have HN := Lib.hid hneed
  clear hr hneed hrd
  rcases Nat.lt_or_ge k c with hkc | hkc
  · go_enter Try.func54, Try.ntmps54
    go_wp2_with (go_at_call 42; refine (bad_any _ true _ _ HR.out).mono ?_; rintro e w' ⟨rfl, rfl⟩)
    refine HN.out.mono ?_
    rintro e w' ⟨rfl, d, rfl⟩
    go_wp2
    go_ret
    exact ⟨rfl, (HFIN.out d).1 hkc⟩
  · obtain rfl : k = c := by omega
    go_enter Try.func54, Try.ntmps54
    go_wp2_with (go_at_call 42; refine (bad_any _ true _ _ HR.out).mono ?_; rintro e w' ⟨rfl, rfl⟩)
    refine HN.out.mono ?_
    rintro e w' ⟨rfl, d, rfl⟩
    go_wp2
    go_ret
    exact ⟨rfl, (HFIN.out d).2 hkc⟩

set_option maxRecDepth 100000 in
set_option maxHeartbeats 400000 in
theorem claim_fail_text (b0 b1 g h off n c : Nat) (k : Int) (p : Bool) (w : World) (hr : Row w g 75 [.bool true, .slice (some ⟨h, off, none⟩) n c] (0, 0)) (hn : n ≤ 281474976710656) (hk : (p = false) ∨ (p = true ∧ k < 0) ∨ (p = true ∧ (n : Int) < k))
    (hneed : Calls Try.prog 57 #[.slice (some ⟨h, off, none⟩) n c, .pointer (some ⟨b0, 0, none⟩), .pointer (some ⟨b1, 0, none⟩)] w fun e w' => e = .returned (.tuple #[.int .i64 k, .bool p]) ∧ ∃ d, w' = w.drewN d) :
    Calls Try.prog 54 #[.pointer (some ⟨g, 0, none⟩), .func (.func 57) #[] #[.pointer (some ⟨b0, 0, none⟩), .pointer (some ⟨b1, 0, none⟩)]] w fun e w' => e = .returned (.slice none 0 0) ∧ w.grownBy w' (some g) ∧ Rdr w' g none := by
  have hc0 : ∀ d, (w.drewN d).cell? ⟨g, 0, none⟩ = some (.bool true) := fun d => by rw [(hr.drewN d).cell]; rfl
  have hc : ∀ d, (w.drewN d).cell? ⟨g, 1, none⟩ = some (.slice (some ⟨h, off, none⟩) n c) := fun d => by rw [(hr.drewN d).cell]; rfl
  have hc1 : w.cell? ⟨g, 1, none⟩ = some (.slice (some ⟨h, off, none⟩) n c) := hc 0
  have hf : ∀ d i, (w.drewN d).frozen? ⟨g, i, none⟩ = false := fun d i => (hr.drewN d).loose i
  have hfin : ∀ d, w.grownBy (((w.drewN d).setCell ⟨g, 0, none⟩ (.bool false)).setCell ⟨g, 1, none⟩ (.slice none 0 0)) (some g) ∧ Rdr (((w.drewN d).setCell ⟨g, 0, none⟩ (.bool false)).setCell ⟨g, 1, none⟩ (.slice none 0 0)) g none :=
    fun d => ⟨only_put (only_put (only_drawn w d _) _ _) _ _, ⟨_, ((hr.drewN d).put 0 (.bool false)).put 1 (.slice none 0 0)⟩⟩
  have HR := Lib.hid hr
  have HN := Lib.hid hneed
  have HF := Lib.hid hfin
  clear hr hneed hfin
  rcases hk with rfl | ⟨rfl, hk⟩ | ⟨rfl, hk⟩
  all_goals
    go_enter Try.func54, Try.ntmps54
    go_wp2_with (go_at_call 42; refine (bad_any _ true _ _ HR.out).mono ?_; rintro e w' ⟨rfl, rfl⟩)
    refine HN.out.mono ?_
    rintro e w' ⟨rfl, d, rfl⟩
    go_wp2
    go_ret
    exact ⟨rfl, HF.out d⟩

set_option maxRecDepth 100000 in
set_option maxHeartbeats 400000 in
theorem claim_ok_text (b0 b1 g h off c k : Nat) (l : List UInt8) (w : World) (hr : Row w g 75 [.bool true, .slice (some ⟨h, off, none⟩) l.length c] (0, 0)) (hrd : Reads 5 w (some ⟨h, off, none⟩) l) (hn : c ≤ 281474976710656) (hlc : l.length ≤ c) (hk : k ≤ l.length)
    (hneed : Calls Try.prog 57 #[.slice (some ⟨h, off, none⟩) l.length c, .pointer (some ⟨b0, 0, none⟩), .pointer (some ⟨b1, 0, none⟩)] w fun e w' => e = .returned (.tuple #[.int .i64 (k : Int), .bool true]) ∧ ∃ d, w' = w.drewN d) :
    Calls Try.prog 54 #[.pointer (some ⟨g, 0, none⟩), .func (.func 57) #[] #[.pointer (some ⟨b0, 0, none⟩), .pointer (some ⟨b1, 0, none⟩)]] w fun e w' => e = .returned (.slice (some ⟨h, off, none⟩) k c) ∧ w.grownBy w' (some g) ∧ Rdr w' g (some (l.drop k)) ∧ Reads 5 w' (some ⟨h, off, none⟩) (l.take k) := by
  have hc : ∀ d, (w.drewN d).cell? ⟨g, 1, none⟩ = some (.slice (some ⟨h, off, none⟩) l.length c) := fun d => by rw [(hr.drewN d).cell]; rfl
  have hc1 : w.cell? ⟨g, 1, none⟩ = some (.slice (some ⟨h, off, none⟩) l.length c) := hc 0
  have hf : ∀ d i, (w.drewN d).frozen? ⟨g, i, none⟩ = false := fun d i => (hr.drewN d).loose i
  have HFIN := Lib.hid (fun d : Nat => claim_end g h off c k d l w hr hrd hn hlc hk)
  have HR := Lib.hid hr
  have HN := Lib.hid hneed
  clear hr hneed hrd
  rcases Nat.lt_or_ge k c with hkc | hkc
  · go_enter Try.func54, Try.ntmps54
    go_wp2_with (go_at_call 42; refine (bad_any _ true _ _ HR.out).mono ?_; rintro e w' ⟨rfl, rfl⟩)
    refine HN.out.mono ?_
    rintro e w' ⟨rfl, d, rfl⟩
    go_wp2
    go_ret
    exact ⟨rfl, (HFIN.out d).1 hkc⟩
  · obtain rfl : k = c := by omega
    go_enter Try.func54, Try.ntmps54
    go_wp2_with (go_at_call 42; refine (bad_any _ true _ _ HR.out).mono ?_; rintro e w' ⟨rfl, rfl⟩)
    refine HN.out.mono ?_
    rintro e w' ⟨rfl, d, rfl⟩
    go_wp2
    go_ret
    exact ⟨rfl, (HFIN.out d).2 hkc⟩

set_option maxRecDepth 100000 in
set_option maxHeartbeats 400000 in
theorem claim_fail_take (b0 g h off n c : Nat) (k : Int) (p : Bool) (w : World) (hr : Row w g 75 [.bool true, .slice (some ⟨h, off, none⟩) n c] (0, 0)) (hn : n ≤ 281474976710656) (hk : (p = false) ∨ (p = true ∧ k < 0) ∨ (p = true ∧ (n : Int) < k))
    (hneed : Calls Try.prog 56 #[.slice (some ⟨h, off, none⟩) n c, .pointer (some ⟨b0, 0, none⟩)] w fun e w' => e = .returned (.tuple #[.int .i64 k, .bool p]) ∧ ∃ d, w' = w.drewN d) :
    Calls Try.prog 54 #[.pointer (some ⟨g, 0, none⟩), .func (.func 56) #[] #[.pointer (some ⟨b0, 0, none⟩)]] w fun e w' => e = .returned (.slice none 0 0) ∧ w.grownBy w' (some g) ∧ Rdr w' g none := by
  have hc0 : ∀ d, (w.drewN d).cell? ⟨g, 0, none⟩ = some (.bool true) := fun d => by rw [(hr.drewN d).cell]; rfl
  have hc : ∀ d, (w.drewN d).cell? ⟨g, 1, none⟩ = some (.slice (some ⟨h, off, none⟩) n c) := fun d => by rw [(hr.drewN d).cell]; rfl
  have hc1 : w.cell? ⟨g, 1, none⟩ = some (.slice (some ⟨h, off, none⟩) n c) := hc 0
  have hf : ∀ d i, (w.drewN d).frozen? ⟨g, i, none⟩ = false := fun d i => (hr.drewN d).loose i
  have hfin : ∀ d, w.grownBy (((w.drewN d).setCell ⟨g, 0, none⟩ (.bool false)).setCell ⟨g, 1, none⟩ (.slice none 0 0)) (some g) ∧ Rdr (((w.drewN d).setCell ⟨g, 0, none⟩ (.bool false)).setCell ⟨g, 1, none⟩ (.slice none 0 0)) g none :=
    fun d => ⟨only_put (only_put (only_drawn w d _) _ _) _ _, ⟨_, ((hr.drewN d).put 0 (.bool false)).put 1 (.slice none 0 0)⟩⟩
  have HR := Lib.hid hr
  have HN := Lib.hid hneed
  have HF := Lib.hid hfin
  clear hr hneed hfin
  rcases hk with rfl | ⟨rfl, hk⟩ | ⟨rfl, hk⟩
  all_goals
    go_enter Try.func54, Try.ntmps54
    go_wp2_with (go_at_call 42; refine (bad_any _ true _ _ HR.out).mono ?_; rintro e w' ⟨rfl, rfl⟩)
    refine HN.out.mono ?_
    rintro e w' ⟨rfl, d, rfl⟩
    go_wp2
    go_ret
    exact ⟨rfl, HF.out d⟩

set_option maxRecDepth 100000 in
set_option maxHeartbeats 400000 in
theorem claim_ok_take (b0 g h off c k : Nat) (l : List UInt8) (w : World) (hr : Row w g 75 [.bool true, .slice (some ⟨h, off, none⟩) l.length c] (0, 0)) (hrd : Reads 5 w (some ⟨h, off, none⟩) l) (hn : c ≤ 281474976710656) (hlc : l.length ≤ c) (hk : k ≤ l.length)
    (hneed : Calls Try.prog 56 #[.slice (some ⟨h, off, none⟩) l.length c, .pointer (some ⟨b0, 0, none⟩)] w fun e w' => e = .returned (.tuple #[.int .i64 (k : Int), .bool true]) ∧ ∃ d, w' = w.drewN d) :
    Calls Try.prog 54 #[.pointer (some ⟨g, 0, none⟩), .func (.func 56) #[] #[.pointer (some ⟨b0, 0, none⟩)]] w fun e w' => e = .returned (.slice (some ⟨h, off, none⟩) k c) ∧ w.grownBy w' (some g) ∧ Rdr w' g (some (l.drop k)) ∧ Reads 5 w' (some ⟨h, off, none⟩) (l.take k) := by
  have hc : ∀ d, (w.drewN d).cell? ⟨g, 1, none⟩ = some (.slice (some ⟨h, off, none⟩) l.length c) := fun d => by rw [(hr.drewN d).cell]; rfl
  have hc1 : w.cell? ⟨g, 1, none⟩ = some (.slice (some ⟨h, off, none⟩) l.length c) := hc 0
  have hf : ∀ d i, (w.drewN d).frozen? ⟨g, i, none⟩ = false := fun d i => (hr.drewN d).loose i
  have HFIN := Lib.hid (fun d : Nat => claim_end g h off c k d l w hr hrd hn hlc hk)
  have HR := Lib.hid hr
  have HN := Lib.hid hneed
  clear hr hneed hrd
  rcases Nat.lt_or_ge k c with hkc | hkc
  · go_enter Try.func54, Try.ntmps54
    go_wp2_with (go_at_call 42; refine (bad_any _ true _ _ HR.out).mono ?_; rintro e w' ⟨rfl, rfl⟩)
    refine HN.out.mono ?_
    rintro e w' ⟨rfl, d, rfl⟩
    go_wp2
    go_ret
    exact ⟨rfl, (HFIN.out d).1 hkc⟩
  · obtain rfl : k = c := by omega
    go_enter Try.func54, Try.ntmps54
    go_wp2_with (go_at_call 42; refine (bad_any _ true _ _ HR.out).mono ?_; rintro e w' ⟨rfl, rfl⟩)
    refine HN.out.mono ?_
    rintro e w' ⟨rfl, d, rfl⟩
    go_wp2
    go_ret
    exact ⟨rfl, (HFIN.out d).2 hkc⟩

end Go.Proofs.Ytbganaaiaokfmaa
