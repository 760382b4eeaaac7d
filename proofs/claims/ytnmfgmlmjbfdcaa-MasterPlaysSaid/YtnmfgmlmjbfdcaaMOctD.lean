/-
  The walks over package octet, part D: a reader: Open, Bad, Left, claim.
-/
import Derived.Test.YtnmfgmlmjbfdcaaMOctA
import Derived.Deep.QuietTactic
import Derived.BigQuiet
import Derived.Laws.BytesArg
namespace Go.Proofs.Ytnmfgmlmjbfdcaa
open Go.RowKit

/-- What lies behind a reader's pointer: a bad one (none), or one with these bytes left. -/
def Rdr (w : World) (g : Nat) : Option (List UInt8) → Prop
  | none => ∃ v, Row w g 124 [.bool false, v] (0, 0)
  | some l => ∃ h off c, l.length ≤ c ∧ c ≤ 281474976710656 ∧ Row w g 124 [.bool true, .slice (some ⟨h, off, none⟩) l.length c] (0, 0) ∧ Reads 5 w (some ⟨h, off, none⟩) l

theorem Rdr.lt {w : World} {g : Nat} : ∀ {st : Option (List UInt8)}, Rdr w g st → g < w.heap.size
  | none, ⟨_, h⟩ => h.lt
  | some _, ⟨_, _, _, _, _, h, _⟩ => h.lt

theorem Rdr.below {w w' : World} {g : Nat} (hb : Below w.heap.size w w') : ∀ {st : Option (List UInt8)}, Rdr w g st → Rdr w' g st
  | none, ⟨v, h⟩ => ⟨v, h.below hb h.lt⟩
  | some _, ⟨h, off, c, h1, h2, h3, h4⟩ => ⟨h, off, c, h1, h2, h3.below hb h3.lt, h4.below hb (Nat.le_refl _)⟩

theorem Rdr.only {w w' : World} {g g' : Nat} (hb : w.grownBy w' (some g')) (hne : g ≠ g') (hr : ∃ cs m, Row w g' 124 cs m) : ∀ {st : Option (List UInt8)}, Rdr w g st → Rdr w' g st
  | none, ⟨v, h⟩ => ⟨v, h.grown hb (by simpa using hne)⟩
  | some _, ⟨h, off, c, h1, h2, h3, h4⟩ => ⟨h, off, c, h1, h2, h3.grown hb (by simpa using hne), h4.grown hb (fun k t cs m hk e => by
      injection e with e
      subst e
      obtain ⟨cs', m', hr⟩ := hr
      intro ht
      exact absurd rfl (Row.ne_ hk hr (by rw [ht]; decide)))⟩

theorem Rdr.row {w : World} {g : Nat} : ∀ {st : Option (List UInt8)}, Rdr w g st → ∃ cs m, Row w g 124 cs m
  | none, ⟨_, h⟩ => ⟨_, _, h⟩
  | some _, ⟨_, _, _, _, _, h, _⟩ => ⟨_, _, h⟩

def OpenPost (w : World) (l : List UInt8) (e : Ending) (w' : World) : Prop :=
  ∃ g, e = .returned (.pointer (some ⟨g, 0, none⟩)) ∧ w.heap.size ≤ g ∧ Rdr w' g (some l) ∧ Below w.heap.size w w'

set_option maxRecDepth 100000 in
set_option maxHeartbeats 400000 in
theorem open_any (A : Option Addr) (l : List UInt8) (c : Nat) (w : World) (hr : Reads 5 w A l) (hs : l.length ≤ 281474976710656) :
    Calls Try.prog 40 #[.slice A l.length c] w (OpenPost w l) := by
  go_enter Try.func40, Try.ntmps40
  go_wp2_with fail
  refine (grown_any A l c 0 w hr (by omega)).mono ?_
  rintro e w1 ⟨rfl, hb1, hrow1⟩
  simp only [List.replicate_zero, List.append_nil] at hrow1
  go_wp2
  go_ret
  refine ⟨w1.heap.size, rfl, hb1.size, ⟨w.heap.size, 0, l.length, Nat.le_refl _, hs, Row.new w1 _ [.bool true, .slice (some ⟨w.heap.size, 0, none⟩) l.length l.length] _, fun _ => ⟨_, _, _, _, rfl, hrow1.alloc _, fun j _ => by simp⟩⟩, hb1.alloc hb1.size _⟩

set_option maxRecDepth 100000 in
set_option maxHeartbeats 400000 in
theorem bad_any (g : Nat) (b : Bool) (v : Value) (w : World) (hr : Row w g 124 [.bool b, v] (0, 0)) :
    Calls Try.prog 71 #[.pointer (some ⟨g, 0, none⟩)] w fun e w' => e = .returned (.bool (!b)) ∧ w = w' := by
  have hc : w.cell? ⟨g, 0, none⟩ = some (.bool b) := by rw [hr.cell]; rfl
  go_enter Try.func71, Try.ntmps71
  go_wp2
  go_ret
  exact ⟨rfl, rfl⟩

set_option maxRecDepth 100000 in
set_option maxHeartbeats 400000 in
theorem claim_none (g : Nat) (v fn : Value) (w : World) (hr : Row w g 124 [.bool false, v] (0, 0)) :
    Calls Try.prog 68 #[.pointer (some ⟨g, 0, none⟩), fn] w fun e w' => e = .returned (.slice none 0 0) ∧ w = w' := by
  have HR := Lib.hid hr
  clear hr
  go_enter Try.func68, Try.ntmps68
  go_wp2_with (go_at_call 71; refine (bad_any _ false _ _ HR.out).mono ?_; rintro e w' ⟨rfl, rfl⟩)
  go_ret
  exact ⟨rfl, rfl⟩

theorem claim_end (g h off c k d : Nat) (l : List UInt8) (w : World) (hr : Row w g 124 [.bool true, .slice (some ⟨h, off, none⟩) l.length c] (0, 0)) (hrd : Reads 5 w (some ⟨h, off, none⟩) l) (hn : c ≤ 281474976710656) (hlc : l.length ≤ c) (hk : k ≤ l.length) :
    (k < c → w.grownBy ((w.drewN d).setCell ⟨g, 1, none⟩ (.slice (some ⟨h, off + k, none⟩) (l.length - k) (c - k))) (some g) ∧ Rdr ((w.drewN d).setCell ⟨g, 1, none⟩ (.slice (some ⟨h, off + k, none⟩) (l.length - k) (c - k))) g (some (l.drop k)) ∧ Reads 5 ((w.drewN d).setCell ⟨g, 1, none⟩ (.slice (some ⟨h, off + k, none⟩) (l.length - k) (c - k))) (some ⟨h, off, none⟩) (l.take k)) ∧
    (c ≤ k → w.grownBy ((w.drewN d).setCell ⟨g, 1, none⟩ (.slice (some ⟨h, off, none⟩) 0 0)) (some g) ∧ Rdr ((w.drewN d).setCell ⟨g, 1, none⟩ (.slice (some ⟨h, off, none⟩) 0 0)) g (some (l.drop k)) ∧ Reads 5 ((w.drewN d).setCell ⟨g, 1, none⟩ (.slice (some ⟨h, off, none⟩) 0 0)) (some ⟨h, off, none⟩) (l.take k)) := by
  have hfar : ∀ (u : Value) (A : Option Addr) (r : List UInt8), Reads 5 w A r → Reads 5 ((w.drewN d).setCell ⟨g, 1, none⟩ u) A r := fun u A r hx =>
    hx.grown (r := some g) (only_put (only_drawn w d _) _ _) (fun k t cs m hk e => by
      injection e with e
      subst e
      intro ht
      exact absurd rfl (Row.ne_ hk hr (by rw [ht]; decide)))
  have hon : ∀ u : Value, w.grownBy ((w.drewN d).setCell ⟨g, 1, none⟩ u) (some g) := fun u => only_put (only_drawn w d _) _ _
  constructor
  · intro hkc
    refine ⟨hon _, ⟨h, off + k, c - k, by rw [List.length_drop]; omega, by omega, ?_, ?_⟩, hfar _ _ _ (hrd.take k)⟩
    · rw [List.length_drop]
      exact (hr.drewN d).put 1 (.slice (some ⟨h, off + k, none⟩) (l.length - k) (c - k))
    · have := hrd.drop k c hlc
      rw [if_neg (by omega), Option.map_some, Addr.add_lit] at this
      exact hfar _ _ _ this
  · intro hkc
    refine ⟨hon _, ⟨h, off, 0, by rw [List.length_drop]; omega, by omega, ?_, ?_⟩, hfar _ _ _ (hrd.take k)⟩
    · rw [List.length_drop, show l.length - k = 0 by omega]
      exact (hr.drewN d).put 1 (.slice (some ⟨h, off, none⟩) 0 0)
    · have e : l.drop k = [] := List.drop_eq_nil_of_le (by omega)
      rw [e]
      exact Reads.nil

set_option maxRecDepth 100000 in
set_option maxHeartbeats 400000 in
theorem claim_fail_num (b0 g h off n c : Nat) (k : Int) (p : Bool) (w : World) (hr : Row w g 124 [.bool true, .slice (some ⟨h, off, none⟩) n c] (0, 0)) (hn : n ≤ 281474976710656) (hk : (p = false) ∨ (p = true ∧ k < 0) ∨ (p = true ∧ (n : Int) < k))
    (hneed : Calls Try.prog 75 #[.slice (some ⟨h, off, none⟩) n c, .pointer (some ⟨b0, 0, none⟩)] w fun e w' => e = .returned (.tuple #[.int .i64 k, .bool p]) ∧ ∃ d, w' = w.drewN d) :
    Calls Try.prog 68 #[.pointer (some ⟨g, 0, none⟩), .func (.func 75) #[] #[.pointer (some ⟨b0, 0, none⟩)]] w fun e w' => e = .returned (.slice none 0 0) ∧ w.grownBy w' (some g) ∧ Rdr w' g none := by
  have hc0 : ∀ d, (w.drewN d).cell? ⟨g, 0, none⟩ = some (.bool true) := fun d => by rw [(hr.drewN d).cell]; rfl
  have hc : ∀ d, (w.drewN d).cell? ⟨g, 1, none⟩ = some (.slice (some ⟨h, off, none⟩) n c) := fun d => by rw [(hr.drewN d).cell]; rfl
  have hc1 : w.cell? ⟨g, 1, none⟩ = some (.slice (some ⟨h, off, none⟩) n c) := hc 0
  have hf : ∀ d i, (w.drewN d).frozen? ⟨g, i, none⟩ = false := fun d i => (hr.drewN d).loose i
  have hfin : ∀ d, w.grownBy (((w.drewN d).setCell ⟨g, 0, none⟩ (.bool false)).setCell ⟨g, 1, none⟩ (.slice none 0 0)) (some g) ∧ Rdr (((w.drewN d).setCell ⟨g, 0, none⟩ (.bool false)).setCell ⟨g, 1, none⟩ (.slice none 0 0)) g none :=
    fun d => ⟨only_put (only_put (only_drawn w d _) _ _) _ _, ⟨_, ((hr.drewN d).put 0 (.bool false)).put 1 (.slice none 0 0)⟩⟩
  have HR := Lib.hid hr
  have HN := Lib.hid hneed
  have HF := Lib.hid hfin
  clear hr hneed hfin
  rcases hk with rfl | ⟨rfl, hk⟩ | ⟨rfl, hk⟩
  all_goals
    go_enter Try.func68, Try.ntmps68
    go_wp2_with (go_at_call 71; refine (bad_any _ true _ _ HR.out).mono ?_; rintro e w' ⟨rfl, rfl⟩)
    refine HN.out.mono ?_
    rintro e w' ⟨rfl, d, rfl⟩
    go_wp2
    go_ret
    exact ⟨rfl, HF.out d⟩

set_option maxRecDepth 100000 in
set_option maxHeartbeats 400000 in
theorem claim_ok_num (b0 g h off c k : Nat) (l : List UInt8) (w : World) (hr : Row w g 124 [.bool true, .slice (some ⟨h, off, none⟩) l.length c] (0, 0)) (hrd : Reads 5 w (some ⟨h, off, none⟩) l) (hn : c ≤ 281474976710656) (hlc : l.length ≤ c) (hk : k ≤ l.length)
    (hneed : Calls Try.prog 75 #[.slice (some ⟨h, off, none⟩) l.length c, .pointer (some ⟨b0, 0, none⟩)] w fun e w' => e = .returned (.tuple #[.int .i64 (k : Int), .bool true]) ∧ ∃ d, w' = w.drewN d) :
    Calls Try.prog 68 #[.pointer (some ⟨g, 0, none⟩), .func (.func 75) #[] #[.pointer (some ⟨b0, 0, none⟩)]] w fun e w' => e = .returned (.slice (some ⟨h, off, none⟩) k c) ∧ w.grownBy w' (some g) ∧ Rdr w' g (some (l.drop k)) ∧ Reads 5 w' (some ⟨h, off, none⟩) (l.take k) := by
  have hc : ∀ d, (w.drewN d).cell? ⟨g, 1, none⟩ = some (.slice (some ⟨h, off, none⟩) l.length c) := fun d => by rw [(hr.drewN d).cell]; rfl
  have hc1 : w.cell? ⟨g, 1, none⟩ = some (.slice (some ⟨h, off, none⟩) l.length c) := hc 0
  have hf : ∀ d i, (w.drewN d).frozen? ⟨g, i, none⟩ = false := fun d i => (hr.drewN d).loose i
  have HFIN := Lib.hid (fun d : Nat => claim_end g h off c k d l w hr hrd hn hlc hk)
  have HR := Lib.hid hr
  have HN := Lib.hid hneed
  clear hr hneed hrd
  rcases Nat.lt_or_ge k c with hkc | hkc
  · go_enter Try.func68, Try.ntmps68
    go_wp2_with (go_at_call 71; refine (bad_any _ true _ _ HR.out).mono ?_; rintro e w' ⟨rfl, rfl⟩)
    refine HN.out.mono ?_
    rintro e w' ⟨rfl, d, rfl⟩
    go_wp2
    go_ret
    exact ⟨rfl, (HFIN.out d).1 hkc⟩
  · obtain rfl : k = c := by omega
    go_enter Try.func68, Try.ntmps68
    go_wp2_with (go_at_call 71; refine (bad_any _ true _ _ HR.out).mono ?_; rintro e w' ⟨rfl, rfl⟩)
    refine HN.out.mono ?_
    rintro e w' ⟨rfl, d, rfl⟩
    go_wp2
    go_ret
    exact ⟨rfl, (HFIN.out d).2 hkc⟩

set_option maxRecDepth 100000 in
set_option maxHeartbeats 400000 in
theorem claim_fail_text (b0 b1 g h off n c : Nat) (k : Int) (p : Bool) (w : World) (hr : Row w g 124 [.bool true, .slice (some ⟨h, off, none⟩) n c] (0, 0)) (hn : n ≤ 281474976710656) (hk : (p = false) ∨ (p = true ∧ k < 0) ∨ (p = true ∧ (n : Int) < k))
    (hneed : Calls Try.prog 69 #[.slice (some ⟨h, off, none⟩) n c, .pointer (some ⟨b0, 0, none⟩), .pointer (some ⟨b1, 0, none⟩)] w fun e w' => e = .returned (.tuple #[.int .i64 k, .bool p]) ∧ ∃ d, w' = w.drewN d) :
    Calls Try.prog 68 #[.pointer (some ⟨g, 0, none⟩), .func (.func 69) #[] #[.pointer (some ⟨b0, 0, none⟩), .pointer (some ⟨b1, 0, none⟩)]] w fun e w' => e = .returned (.slice none 0 0) ∧ w.grownBy w' (some g) ∧ Rdr w' g none := by
  have hc0 : ∀ d, (w.drewN d).cell? ⟨g, 0, none⟩ = some (.bool true) := fun d => by rw [(hr.drewN d).cell]; rfl
  have hc : ∀ d, (w.drewN d).cell? ⟨g, 1, none⟩ = some (.slice (some ⟨h, off, none⟩) n c) := fun d => by rw [(hr.drewN d).cell]; rfl
  have hc1 : w.cell? ⟨g, 1, none⟩ = some (.slice (some ⟨h, off, none⟩) n c) := hc 0
  have hf : ∀ d i, (w.drewN d).frozen? ⟨g, i, none⟩ = false := fun d i => (hr.drewN d).loose i
  have hfin : ∀ d, w.grownBy (((w.drewN d).setCell ⟨g, 0, none⟩ (.bool false)).setCell ⟨g, 1, none⟩ (.slice none 0 0)) (some g) ∧ Rdr (((w.drewN d).setCell ⟨g, 0, none⟩ (.bool false)).setCell ⟨g, 1, none⟩ (.slice none 0 0)) g none :=
    fun d => ⟨only_put (only_put (only_drawn w d _) _ _) _ _, ⟨_, ((hr.drewN d).put 0 (.bool false)).put 1 (.slice none 0 0)⟩⟩
  have HR := Lib.hid hr
  have HN := Lib.hid hneed
  have HF := Lib.hid hfin
  clear hr hneed hfin
  rcases hk with rfl | ⟨rfl, hk⟩ | ⟨rfl, hk⟩
  all_goals
    go_enter Try.func68, Try.ntmps68
    go_wp2_with (go_at_call 71; refine (bad_any _ true _ _ HR.out).mono ?_; rintro e w' ⟨rfl, rfl⟩)
    refine HN.out.mono ?_
    rintro e w' ⟨rfl, d, rfl⟩
    go_wp2
    go_ret
    exact ⟨rfl, HF.out d⟩

set_option maxRecDepth 100000 in
set_option maxHeartbeats 400000 in
theorem claim_ok_text (b0 b1 g h off c k : Nat) (l : List UInt8) (w : World) (hr : Row w g 124 [.bool true, .slice (some ⟨h, off, none⟩) l.length c] (0, 0)) (hrd : Reads 5 w (some ⟨h, off, none⟩) l) (hn : c ≤ 281474976710656) (hlc : l.length ≤ c) (hk : k ≤ l.length)
    (hneed : Calls Try.prog 69 #[.slice (some ⟨h, off, none⟩) l.length c, .pointer (some ⟨b0, 0, none⟩), .pointer (some ⟨b1, 0, none⟩)] w fun e w' => e = .returned (.tuple #[.int .i64 (k : Int), .bool true]) ∧ ∃ d, w' = w.drewN d) :
    Calls Try.prog 68 #[.pointer (some ⟨g, 0, none⟩), .func (.func 69) #[] #[.pointer (some ⟨b0, 0, none⟩), .pointer (some ⟨b1, 0, none⟩)]] w fun e w' => e = .returned (.slice (some ⟨h, off, none⟩) k c) ∧ w.grownBy w' (some g) ∧ Rdr w' g (some (l.drop k)) ∧ Reads 5 w' (some ⟨h, off, none⟩) (l.take k) := by
  have hc : ∀ d, (w.drewN d).cell? ⟨g, 1, none⟩ = some (.slice (some ⟨h, off, none⟩) l.length c) := fun d => by rw [(hr.drewN d).cell]; rfl
  have hc1 : w.cell? ⟨g, 1, none⟩ = some (.slice (some ⟨h, off, none⟩) l.length c) := hc 0
  have hf : ∀ d i, (w.drewN d).frozen? ⟨g, i, none⟩ = false := fun d i => (hr.drewN d).loose i
  have HFIN := Lib.hid (fun d : Nat => claim_end g h off c k d l w hr hrd hn hlc hk)
  have HR := Lib.hid hr
  have HN := Lib.hid hneed
  clear hr hneed hrd
  rcases Nat.lt_or_ge k c with hkc | hkc
  · go_enter Try.func68, Try.ntmps68
    go_wp2_with (go_at_call 71; refine (bad_any _ true _ _ HR.out).mono ?_; rintro e w' ⟨rfl, rfl⟩)
    refine HN.out.mono ?_
    rintro e w' ⟨rfl, d, rfl⟩
    go_wp2
    go_ret
    exact ⟨rfl, (HFIN.out d).1 hkc⟩
  · obtain rfl : k = c := by omega
    go_enter Try.func68, Try.ntmps68
    go_wp2_with (go_at_call 71; refine (bad_any _ true _ _ HR.out).mono ?_; rintro e w' ⟨rfl, rfl⟩)
    refine HN.out.mono ?_
    rintro e w' ⟨rfl, d, rfl⟩
    go_wp2
    go_ret
    exact ⟨rfl, (HFIN.out d).2 hkc⟩

end Go.Proofs.Ytnmfgmlmjbfdcaa

/-
  The walks over package octet, part E: what the three readings ask of the bytes that are left.
-/
namespace Go.Proofs.Ytnmfgmlmjbfdcaa
open Go.RowKit

theorem isW_quiet (n : Int) (w : World) (k : Nat) : Calls Try.prog 74 #[.int .i64 n] (w.drewN k) fun e w' => e = .returned (.bool (isW n)) ∧ ∃ m, w' = w.drewN m :=
  (isW_any n (w.drewN k)).mono fun _ _ ⟨he, hw⟩ => ⟨he, k, hw.symm⟩

set_option maxRecDepth 100000 in
set_option maxHeartbeats 400000 in
theorem need_num (A : Option Addr) (l c b0 : Nat) (n : Int) (w : World) (hc : w.cell? ⟨b0, 0, none⟩ = some (.int .i64 n)) :
    Calls Try.prog 75 #[.slice A l c, .pointer (some ⟨b0, 0, none⟩)] w fun e w' => e = .returned (.tuple #[.int .i64 n, .bool (isW n)]) ∧ ∃ d, w' = w.drewN d := by
  go_enter Try.func75, Try.ntmps75
  go_wp2
  go_quiet ((go_at_call 74; exact isW_quiet _ _ _))
  go_wp2
  go_ret2
  exact ⟨rfl, _, rfl⟩

set_option maxRecDepth 100000 in
set_option maxHeartbeats 400000 in
theorem need_text_no (A : Option Addr) (l c b0 b1 : Nat) (n : Int) (w : World) (hc0 : w.cell? ⟨b0, 0, none⟩ = some (.int .i64 n)) (hno : isT n = false ∨ (isT n = true ∧ (l : Int) < n)) :
    Calls Try.prog 69 #[.slice A l c, .pointer (some ⟨b0, 0, none⟩), .pointer (some ⟨b1, 0, none⟩)] w fun e w' => e = .returned (.tuple #[.int .i64 0, .bool false]) ∧ ∃ d, w' = w.drewN d := by
  rcases hno with hno | ⟨hno, hl⟩
  all_goals
    go_enter Try.func69, Try.ntmps69
    go_wp2_with (go_at_call 62; refine (isT_any _ _).mono ?_; rintro e w' ⟨rfl, rfl⟩)
    go_ret2
    exact ⟨rfl, 0, rfl⟩

set_option maxRecDepth 100000 in
set_option maxHeartbeats 400000 in
theorem need_text_long (A : Option Addr) (l : List UInt8) (c b0 b1 n : Nat) (m : Int) (w : World) (hr : Reads 5 w A l) (hlc : l.length ≤ c) (hc0 : w.cell? ⟨b0, 0, none⟩ = some (.int .i64 n)) (hc1 : w.cell? ⟨b1, 0, none⟩ = some (.int .i64 m)) (hok : isT n = true) (hl : n ≤ l.length)
    (hno : m < 0 ∨ (0 ≤ m ∧ m < (val (l.take n) : Int))) :
    Calls Try.prog 69 #[.slice A l.length c, .pointer (some ⟨b0, 0, none⟩), .pointer (some ⟨b1, 0, none⟩)] w fun e w' => e = .returned (.tuple #[.int .i64 0, .bool false]) ∧ ∃ d, w' = w.drewN d := by
  have hn : 1 ≤ n ∧ n ≤ 4 := by have := isT_cases hok; omega
  obtain ⟨hn1, hn4⟩ := hn
  have hv : val (l.take n) < 4294967296 := by
    have h1 := val_lt (l.take n)
    have h2 : (l.take n).length ≤ 4 := by rw [List.length_take]; omega
    exact Nat.lt_of_lt_of_le h1 (Nat.pow_le_pow_right (by omega) h2)
  have hlen : (l.take n).length = n := by rw [List.length_take]; omega
  have HNUM := Lib.hid (number_any A (l.take n) c w (hr.take n) (by omega))
  rw [hlen] at HNUM
  clear hlen hr
  rcases hno with hno | ⟨hm, hno⟩
  all_goals
    go_enter Try.func69, Try.ntmps69
    go_wp2_with (first | (go_at_call 62; refine (isT_any _ _).mono ?_; rintro e w' ⟨rfl, rfl⟩) | (go_at_call 70; refine HNUM.out.mono ?_; rintro e w' ⟨rfl, rfl⟩))
    go_ret2
    exact ⟨rfl, 0, rfl⟩

set_option maxRecDepth 100000 in
set_option maxHeartbeats 400000 in
theorem need_text_ok (A : Option Addr) (l : List UInt8) (c b0 b1 n : Nat) (m : Int) (w : World) (hr : Reads 5 w A l) (hlc : l.length ≤ c) (hc0 : w.cell? ⟨b0, 0, none⟩ = some (.int .i64 n)) (hc1 : w.cell? ⟨b1, 0, none⟩ = some (.int .i64 m)) (hok : isT n = true) (hl : n ≤ l.length)
    (hm : 0 ≤ m) (hm63 : m ≤ 9223372036854775807) (hyes : (val (l.take n) : Int) ≤ m) :
    Calls Try.prog 69 #[.slice A l.length c, .pointer (some ⟨b0, 0, none⟩), .pointer (some ⟨b1, 0, none⟩)] w fun e w' => e = .returned (.tuple #[.int .i64 ((n + val (l.take n) : Nat) : Int), .bool true]) ∧ ∃ d, w' = w.drewN d := by
  have hn : 1 ≤ n ∧ n ≤ 4 := by have := isT_cases hok; omega
  obtain ⟨hn1, hn4⟩ := hn
  have hv : val (l.take n) < 4294967296 := by
    have h1 := val_lt (l.take n)
    have h2 : (l.take n).length ≤ 4 := by rw [List.length_take]; omega
    exact Nat.lt_of_lt_of_le h1 (Nat.pow_le_pow_right (by omega) h2)
  have hlen : (l.take n).length = n := by rw [List.length_take]; omega
  have HNUM := Lib.hid (number_any A (l.take n) c w (hr.take n) (by omega))
  rw [hlen] at HNUM
  clear hlen hr
  go_enter Try.func69, Try.ntmps69
  go_wp2_with (first | (go_at_call 62; refine (isT_any _ _).mono ?_; rintro e w' ⟨rfl, rfl⟩) | (go_at_call 70; refine HNUM.out.mono ?_; rintro e w' ⟨rfl, rfl⟩))
  go_ret2
  exact ⟨rfl, 0, rfl⟩

end Go.Proofs.Ytnmfgmlmjbfdcaa

/-
  The walks over package octet, part F: Num, Text, Take, as plain functions of the bytes that are left.
-/
namespace Go.Proofs.Ytnmfgmlmjbfdcaa
open Go.RowKit

/-- What Num tells of a reader's bytes, and what is left. -/
def rnum (st : Option (List UInt8)) (n : Int) : Nat × Option (List UInt8) :=
  match st with
  | none => (0, none)
  | some l => if isW n = true ∧ n ≤ (l.length : Int) then (val (l.take n.toNat), some (l.drop n.toNat)) else (0, none)

/-- Take. -/
def rtake (st : Option (List UInt8)) (n : Int) : List UInt8 × Option (List UInt8) :=
  match st with
  | none => ([], none)
  | some l => if 0 ≤ n ∧ n ≤ (l.length : Int) then (l.take n.toNat, some (l.drop n.toNat)) else ([], none)

/-- Text. -/
def rtext (st : Option (List UInt8)) (n m : Int) : List UInt8 × Option (List UInt8) :=
  match st with
  | none => ([], none)
  | some l => if isT n = true ∧ n ≤ (l.length : Int) ∧ 0 ≤ m ∧ (val (l.take n.toNat) : Int) ≤ m ∧ n + (val (l.take n.toNat) : Int) ≤ (l.length : Int) then
      ((l.drop n.toNat).take (val (l.take n.toNat)), some (l.drop (n.toNat + val (l.take n.toNat)))) else ([], none)

theorem run_text {P : Program} {T src : TypeId} (hs : P.underlying src = some (.slice T)) (he : P.underlying T = some (.int .u8)) (w : World) (A : Option Addr) (l : List UInt8) (c : Nat) (hr : Reads T w A l) :
    ∀ dst, P.underlying dst = some .string → (convert src dst (.slice A l.length c)).run P w = .ok (.string ⟨l.toArray⟩) w := by
  intro dst hd
  rcases Nat.eq_zero_or_pos l.length with h0 | h0
  · obtain rfl : l = [] := List.eq_nil_of_length_eq_zero h0
    rw [run_convert_bytes_string w src dst T A _ c hs he hd]
    cases A with
    | none => simp [Conv.bytesToString]; rfl
    | some a => 
      have := run_bytesToString (P := P) w a 0 c [] (by simp [loadCells]; rfl)
      exact this
  · obtain ⟨g, off, cs, m, rfl, hrow, hc⟩ := hr h0
    have h := run_convert_bytes_arg (P := P) w src T hs he g off l.length c (l.map fun b => (b.toNat : Int)) (by simp) (fun i hi => by
      rw [hrow.cell, hc i hi, byt_get l i hi]
      simp [List.getD, List.getElem?_eq_getElem hi]) dst hd
    have e : strOfNums (l.map fun b => (b.toNat : Int)) = ⟨l.toArray⟩ := by
      unfold strOfNums
      rw [List.map_map, show ((fun n : Int => UInt8.ofNat n.toNat) ∘ fun b : UInt8 => (b.toNat : Int)) = id from funext fun b => by simp, List.map_id]
    rw [h, e]

/-- The memory behind a reading: only the reader has turned, which now has what is left. -/
def Now (w : World) (g : Nat) (st : Option (List UInt8)) (w' : World) : Prop := w.grownBy w' (some g) ∧ Rdr w' g st

theorem Rdr.box {w : World} {g : Nat} (o : Obj) {st : Option (List UInt8)} (h : Rdr w g st) : Rdr (w.alloc o) g st := h.below ((Below.refl _ _).alloc (Nat.le_refl _) _)

theorem now_box {w w' : World} {g : Nat} {o : Obj} {st : Option (List UInt8)} (hg : (w.alloc o).grownBy w' (some g)) (hr : Rdr w' g st) : Now w g st w' :=
  ⟨only_trans (only_below ((Below.refl _ _).alloc (Nat.le_refl _) _) _) hg, hr⟩

theorem box_cell (w : World) (v : Value) (t : TypeId) (m : Nat × Nat) : (w.alloc (.cells #[v] t m)).cell? ⟨w.heap.size, 0, none⟩ = some v := by
  have := (Row.new w t [v] m).cell 0
  simpa using this

set_option maxRecDepth 100000 in
set_option maxHeartbeats 400000 in
theorem num_none (g : Nat) (n : Int) (w : World) (hr : Rdr w g none) :
    Calls Try.prog 67 #[.pointer (some ⟨g, 0, none⟩), .int .i64 n] w fun e w' => e = .returned (.int .u64 0) ∧ Now w g none w' := by
  have hmf : ∀ (fn : Fn) (first cap : Array Value) (w : World), (Instr.makeFunc fn first cap).run Try.prog w = .ok (.func fn first cap) w := fun _ _ _ _ => rfl
  obtain ⟨v, hv⟩ := hr
  have HV := Lib.hid (hv.alloc (.cells #[.int .i64 n] 3))
  have HN := Lib.hid (show Now w g none (w.alloc (.cells #[.int .i64 n] 3)) from now_box (only_refl _ _) ⟨v, hv.alloc _⟩)
  clear hv
  go_enter Try.func67, Try.ntmps67
  go_wp2_with fail
  refine (claim_none g v _ _ HV.out).mono ?_
  rintro e w' ⟨rfl, rfl⟩
  go_wp2_with fail
  refine (number_any none [] 0 _ Reads.nil (by decide)).mono ?_
  rintro e w' ⟨rfl, rfl⟩
  go_wp2
  go_ret
  exact ⟨rfl, HN.out⟩

set_option maxRecDepth 100000 in
set_option maxHeartbeats 400000 in
theorem num_no (g : Nat) (l : List UInt8) (n : Int) (w : World) (hr : Rdr w g (some l)) (hno : isW n = false ∨ (isW n = true ∧ (l.length : Int) < n)) :
    Calls Try.prog 67 #[.pointer (some ⟨g, 0, none⟩), .int .i64 n] w fun e w' => e = .returned (.int .u64 0) ∧ Now w g none w' := by
  have hmf : ∀ (fn : Fn) (first cap : Array Value) (w : World), (Instr.makeFunc fn first cap).run Try.prog w = .ok (.func fn first cap) w := fun _ _ _ _ => rfl
  obtain ⟨h, off, c, hlc, hc, hrow, hrd⟩ := Rdr.box (.cells #[.int .i64 n] 3) hr
  have HC := Lib.hid (claim_fail_num w.heap.size g h off l.length c n (isW n) (w.alloc (.cells #[.int .i64 n] 3)) hrow (by omega) (by rcases hno with hno | ⟨h1, h2⟩ <;> simp [*]) (need_num _ _ _ _ n _ (box_cell _ _ _ _)))
  clear hrow hrd hr hno
  go_enter Try.func67, Try.ntmps67
  go_wp2_with fail
  refine HC.out.mono ?_
  rintro e w' ⟨rfl, hg, hr'⟩
  go_wp2_with fail
  refine (number_any none [] 0 _ Reads.nil (by decide)).mono ?_
  rintro e w' ⟨rfl, rfl⟩
  go_wp2
  go_ret
  exact ⟨rfl, now_box hg hr'⟩

set_option maxRecDepth 100000 in
set_option maxHeartbeats 400000 in
theorem num_yes (g : Nat) (l : List UInt8) (n : Nat) (w : World) (hr : Rdr w g (some l)) (hn : isW n = true) (hl : n ≤ l.length) :
    Calls Try.prog 67 #[.pointer (some ⟨g, 0, none⟩), .int .i64 (n : Int)] w fun e w' => e = .returned (.int .u64 (val (l.take n) : Int)) ∧ Now w g (some (l.drop n)) w' := by
  have hmf : ∀ (fn : Fn) (first cap : Array Value) (w : World), (Instr.makeFunc fn first cap).run Try.prog w = .ok (.func fn first cap) w := fun _ _ _ _ => rfl
  have h8 : n ≤ 8 := by have := isW_cases hn; omega
  obtain ⟨h, off, c, hlc, hc, hrow, hrd⟩ := Rdr.box (.cells #[.int .i64 (n : Int)] 3) hr
  have hnd := need_num (some ⟨h, off, none⟩) l.length c w.heap.size n (w.alloc (.cells #[.int .i64 (n : Int)] 3)) (box_cell _ _ _ _)
  rw [hn] at hnd
  have HC := Lib.hid (claim_ok_num w.heap.size g h off c n l (w.alloc (.cells #[.int .i64 (n : Int)] 3)) hrow hrd hc hlc hl hnd)
  have hlen : (l.take n).length = n := by rw [List.length_take]; omega
  have HLEN := Lib.hid hlen
  clear hrow hrd hr hnd hlen
  go_enter Try.func67, Try.ntmps67
  go_wp2_with fail
  refine HC.out.mono ?_
  rintro e w' ⟨rfl, hg, hr', hrd'⟩
  have hnum := number_any (some ⟨h, off, none⟩) (l.take n) c w' hrd' (by rw [HLEN.out]; exact h8)
  rw [HLEN.out] at hnum
  have HNUM := Lib.hid hnum
  clear hnum hrd'
  go_wp2_with fail
  refine HNUM.out.mono ?_
  rintro e w' ⟨rfl, rfl⟩
  go_wp2
  go_ret
  exact ⟨rfl, now_box hg hr'⟩

theorem num_any (g : Nat) (st : Option (List UInt8)) (n : Int) (w : World) (hr : Rdr w g st) :
    Calls Try.prog 67 #[.pointer (some ⟨g, 0, none⟩), .int .i64 n] w fun e w' => e = .returned (.int .u64 ((rnum st n).1 : Int)) ∧ Now w g (rnum st n).2 w' := by
  match st, hr with
  | none, hr => exact num_none g n w hr
  | some l, hr =>
    by_cases hw : isW n = true
    · by_cases hl : n ≤ (l.length : Int)
      · obtain ⟨k, rfl⟩ := Int.eq_ofNat_of_zero_le (show 0 ≤ n by have := isW_cases hw; omega)
        have := num_yes g l k w hr hw (by omega)
        simpa [rnum, hw, hl] using this
      · have := num_no g l n w hr (.inr ⟨hw, by omega⟩)
        simpa [rnum, hl] using this
    · have hf : isW n = false := by simpa using hw
      have := num_no g l n w hr (.inl hf)
      simpa [rnum, hf] using this

end Go.Proofs.Ytnmfgmlmjbfdcaa

/-
  The walks over package octet, part G: Take and Text.
-/
namespace Go.Proofs.Ytnmfgmlmjbfdcaa
open Go.RowKit

/-- A result that is a slice of new bytes. -/
def Gives (g : Nat) (w : World) (l : List UInt8) (st : Option (List UInt8)) (e : Ending) (w' : World) : Prop :=
  ∃ A c, e = .returned (.slice A l.length c) ∧ Reads 5 w' A l ∧ Now w g st w'

theorem row_reads {w : World} {g : Nat} {l : List UInt8} {m : Nat × Nat} (h : Row w g 5 (byt l) m) : Reads 5 w (some ⟨g, 0, none⟩) l :=
  fun _ => ⟨g, 0, _, _, rfl, h, fun j _ => by simp⟩

theorem gives_mk {g : Nat} {w w1 w2 : World} {l : List UInt8} {st : Option (List UInt8)} {o : Obj} (hg : (w.alloc o).grownBy w1 (some g)) (hr : Rdr w1 g st) (hb : Below w1.heap.size w1 w2) (hrow : Row w2 w1.heap.size 5 (byt l) (0, 0)) (c n : Nat) (hn : n = l.length) (k : Nat) (hk : k = w1.heap.size) :
    Gives g w l st (.returned (.slice (some ⟨k, 0, none⟩) n c)) w2 := by
  subst hn; subst hk
  exact ⟨_, _, rfl, row_reads hrow, now_box (only_trans hg (only_below hb _)) (hr.below hb)⟩

set_option maxRecDepth 100000 in
set_option maxHeartbeats 400000 in
theorem text_none (g : Nat) (n m : Int) (w : World) (hr : Rdr w g none) :
    Calls Try.prog 41 #[.pointer (some ⟨g, 0, none⟩), .int .i64 n, .int .i64 m] w fun e w' => e = .returned (.string ⟨#[]⟩) ∧ Now w g none w' := by
  have hmf : ∀ (fn : Fn) (first cap : Array Value) (w : World), (Instr.makeFunc fn first cap).run Try.prog w = .ok (.func fn first cap) w := fun _ _ _ _ => rfl
  obtain ⟨v, hv⟩ := hr
  have HV := Lib.hid ((hv.alloc (.cells #[.int .i64 n] 3)).alloc (.cells #[.int .i64 m] 3))
  have HN := Lib.hid (show Now w g none ((w.alloc (.cells #[.int .i64 n] 3)).alloc (.cells #[.int .i64 m] 3)) from ⟨only_below (((Below.refl _ _).alloc (Nat.le_refl _) _).alloc (by simp) _) _, v, (hv.alloc _).alloc _⟩)
  clear hv
  go_enter Try.func41, Try.ntmps41
  go_wp2_with fail
  refine (claim_none g v _ _ HV.out).mono ?_
  rintro e w' ⟨rfl, rfl⟩
  go_wp2_with fail
  refine (bad_any g false v _ HV.out).mono ?_
  rintro e w' ⟨rfl, rfl⟩
  go_wp2
  go_ret
  exact ⟨rfl, HN.out⟩

/-- The world behind the two boxes of Text's arguments. -/
theorem boxes (w : World) (n m : Int) (g : Nat) (st : Option (List UInt8)) (hr : Rdr w g st) :
    Rdr ((w.alloc (.cells #[.int .i64 n] 3)).alloc (.cells #[.int .i64 m] 3)) g st ∧ g < w.heap.size ∧
    Row ((w.alloc (.cells #[.int .i64 n] 3)).alloc (.cells #[.int .i64 m] 3)) w.heap.size 3 [.int .i64 n] (0, 0) ∧
    Row ((w.alloc (.cells #[.int .i64 n] 3)).alloc (.cells #[.int .i64 m] 3)) (w.heap.size + 1) 3 [.int .i64 m] (0, 0) := by
  refine ⟨Rdr.box _ (Rdr.box _ hr), hr.lt, (Row.new w _ [.int .i64 n] _).alloc _, ?_⟩
  have := Row.new (w.alloc (.cells #[.int .i64 n] 3)) 3 [.int .i64 m] (0, 0)
  simpa using this

theorem now_boxes {w w' : World} {g : Nat} {o o' : Obj} {st : Option (List UInt8)} (hg : ((w.alloc o).alloc o').grownBy w' (some g)) (hr : Rdr w' g st) : Now w g st w' :=
  ⟨only_trans (only_below (((Below.refl _ _).alloc (Nat.le_refl _) _).alloc (by simp) _) _) hg, hr⟩

set_option maxRecDepth 100000 in
set_option maxHeartbeats 400000 in
theorem text_no (g : Nat) (l : List UInt8) (n m : Int) (w : World) (hr : Rdr w g (some l)) (hno : ¬ (isT n = true ∧ n ≤ (l.length : Int) ∧ 0 ≤ m ∧ (val (l.take n.toNat) : Int) ≤ m ∧ n + (val (l.take n.toNat) : Int) ≤ (l.length : Int))) (hm : m ≤ 9223372036854775807) :
    Calls Try.prog 41 #[.pointer (some ⟨g, 0, none⟩), .int .i64 n, .int .i64 m] w fun e w' => e = .returned (.string ⟨#[]⟩) ∧ Now w g none w' := by
  have hmf : ∀ (fn : Fn) (first cap : Array Value) (w : World), (Instr.makeFunc fn first cap).run Try.prog w = .ok (.func fn first cap) w := fun _ _ _ _ => rfl
  obtain ⟨⟨h, off, c, hlc, hc, hrow, hrd⟩, hlt, hb0, hb1⟩ := boxes w n m g _ hr
  have hc0 : ((w.alloc (.cells #[.int .i64 n] 3)).alloc (.cells #[.int .i64 m] 3)).cell? ⟨w.heap.size, 0, none⟩ = some (.int .i64 n) := by rw [hb0.cell]; rfl
  have hc1 : ((w.alloc (.cells #[.int .i64 n] 3)).alloc (.cells #[.int .i64 m] 3)).cell? ⟨w.heap.size + 1, 0, none⟩ = some (.int .i64 m) := by rw [hb1.cell]; rfl
  have hclaim : Calls Try.prog 68 #[.pointer (some ⟨g, 0, none⟩), .func (.func 69) #[] #[.pointer (some ⟨w.heap.size, 0, none⟩), .pointer (some ⟨w.heap.size + 1, 0, none⟩)]] ((w.alloc (.cells #[.int .i64 n] 3)).alloc (.cells #[.int .i64 m] 3))
      fun e w' => e = .returned (.slice none 0 0) ∧ ((w.alloc (.cells #[.int .i64 n] 3)).alloc (.cells #[.int .i64 m] 3)).grownBy w' (some g) ∧ Rdr w' g none := by
    by_cases ht : isT n = true ∧ n ≤ (l.length : Int)
    · obtain ⟨ht, hl⟩ := ht
      obtain ⟨k, rfl⟩ := Int.eq_ofNat_of_zero_le (show 0 ≤ n by have := isT_cases ht; omega)
      rw [Int.toNat_natCast] at hno
      by_cases hv : 0 ≤ m ∧ (val (l.take k) : Int) ≤ m
      · refine claim_fail_text _ _ g h off l.length c ((k + val (l.take k) : Nat) : Int) true _ hrow (by omega) (.inr (.inr ⟨rfl, ?_⟩)) (need_text_ok _ l c _ _ k m _ hrd hlc hc0 hc1 ht (by omega) hv.1 hm hv.2)
        have : ¬ ((k : Int) + (val (l.take k) : Int) ≤ (l.length : Int)) := fun hh => hno ⟨ht, hl, hv.1, hv.2, hh⟩
        omega
      · exact claim_fail_text _ _ g h off l.length c 0 false _ hrow (by omega) (.inl rfl) (need_text_long _ l c _ _ k m _ hrd hlc hc0 hc1 ht (by omega) (by omega))
    · refine claim_fail_text _ _ g h off l.length c 0 false _ hrow (by omega) (.inl rfl) (need_text_no _ _ c _ _ n _ hc0 ?_)
      cases hh : isT n with
      | false => exact .inl rfl
      | true => exact .inr ⟨rfl, by have : ¬ (n ≤ (l.length : Int)) := fun x => ht ⟨hh, x⟩; omega⟩
  have HC := Lib.hid hclaim
  clear hclaim hrow hrd hr hno hb0 hb1 hc0 hc1
  go_enter Try.func41, Try.ntmps41
  go_wp2_with fail
  refine HC.out.mono ?_
  rintro e w' ⟨rfl, hg, v, hv⟩
  have HV := Lib.hid hv
  clear hv
  go_wp2_with fail
  refine (bad_any g false v _ HV.out).mono ?_
  rintro e w' ⟨rfl, rfl⟩
  go_wp2
  go_ret
  exact ⟨rfl, now_boxes (st := none) hg ⟨v, HV.out⟩⟩

set_option maxRecDepth 100000 in
set_option maxHeartbeats 400000 in
theorem text_yes (g : Nat) (l : List UInt8) (n : Nat) (m : Int) (w : World) (hr : Rdr w g (some l)) (ht : isT n = true) (hl : n ≤ l.length) (hm0 : 0 ≤ m) (hm : m ≤ 9223372036854775807) (hv : (val (l.take n) : Int) ≤ m) (hk : n + val (l.take n) ≤ l.length) :
    Calls Try.prog 41 #[.pointer (some ⟨g, 0, none⟩), .int .i64 (n : Int), .int .i64 m] w fun e w' => e = .returned (.string ⟨((l.drop n).take (val (l.take n))).toArray⟩) ∧ Now w g (some (l.drop (n + val (l.take n)))) w' := by
  have hmf : ∀ (fn : Fn) (first cap : Array Value) (w : World), (Instr.makeFunc fn first cap).run Try.prog w = .ok (.func fn first cap) w := fun _ _ _ _ => rfl
  obtain ⟨⟨h, off, c, hlc, hc, hrow, hrd⟩, hlt, hb0, hb1⟩ := boxes w n m g _ hr
  have hc0 : ((w.alloc (.cells #[.int .i64 (n : Int)] 3)).alloc (.cells #[.int .i64 m] 3)).cell? ⟨w.heap.size, 0, none⟩ = some (.int .i64 n) := by rw [hb0.cell]; rfl
  have hc1 : ((w.alloc (.cells #[.int .i64 (n : Int)] 3)).alloc (.cells #[.int .i64 m] 3)).cell? ⟨w.heap.size + 1, 0, none⟩ = some (.int .i64 m) := by rw [hb1.cell]; rfl
  have HC := Lib.hid (claim_ok_text _ _ g h off c (n + val (l.take n)) l _ hrow hrd hc hlc hk (need_text_ok _ l c _ _ n m _ hrd hlc hc0 hc1 ht hl hm0 hm hv))
  have hb : 1 ≤ n ∧ n ≤ 4 := by have := isT_cases ht; omega
  have HB0 := Lib.hid hb0
  have HK := Lib.hid hk
  generalize hs : val (l.take n) = sz at *
  have HS := Lib.hid hs
  have hk2 : n + sz ≤ c := by omega
  obtain ⟨hn1, hn4⟩ := hb
  clear hrow hrd hr hb0 hb1 hc0 hc1 hs hk hv
  go_enter Try.func41, Try.ntmps41
  go_wp2_with fail
  refine HC.out.mono ?_
  rintro e w' ⟨rfl, hg, ⟨h', off', c', hlc', hc', hrow', hrd'⟩, hrd2⟩
  have hb0' := HB0.out.grown hg (by intro e; injection e; omega)
  have hcell : w'.cell? ⟨w.heap.size, 0, none⟩ = some (.int .i64 (n : Int)) := by rw [hb0'.cell]; rfl
  have HN := Lib.hid (now_boxes (st := some (l.drop (n + sz))) hg ⟨h', off', c', hlc', hc', hrow', hrd'⟩)
  have hlen : ((l.drop n).take sz).length = sz := by rw [List.length_take, List.length_drop]; have := HK.out; omega
  have hcut := hrd2.drop n c (by rw [List.length_take]; omega)
  rw [List.drop_take, show n + sz - n = sz by omega] at hcut
  have hconv := fun cp => run_text Try.underlying69 Try.underlying5 w' _ _ cp hcut 9 Try.underlying9
  simp only [hlen] at hconv
  have HROW := Lib.hid hrow'
  clear hb0' hlen hcut hrd2 hrow' hrd' hg
  rcases Nat.lt_or_ge n c with hnc | hnc
  · simp only [if_neg (show ¬ c = n by omega), Option.map_some, Addr.add_lit] at hconv
    go_wp2_with fail
    refine (bad_any g true _ _ HROW.out).mono ?_
    rintro e w' ⟨rfl, rfl⟩
    go_wp2
    go_ret
    exact ⟨rfl, HN.out⟩
  · simp only [if_pos (show c = n by omega)] at hconv
    obtain rfl : sz = 0 := by omega
    go_wp2_with fail
    refine (bad_any g true _ _ HROW.out).mono ?_
    rintro e w' ⟨rfl, rfl⟩
    go_wp2
    go_ret
    exact ⟨rfl, HN.out⟩

theorem text_any (g : Nat) (st : Option (List UInt8)) (n m : Int) (w : World) (hr : Rdr w g st) (hm : m ≤ 9223372036854775807) :
    Calls Try.prog 41 #[.pointer (some ⟨g, 0, none⟩), .int .i64 n, .int .i64 m] w fun e w' => e = .returned (.string ⟨(rtext st n m).1.toArray⟩) ∧ Now w g (rtext st n m).2 w' := by
  match st, hr with
  | none, hr => exact text_none g n m w hr
  | some l, hr =>
    by_cases h : isT n = true ∧ n ≤ (l.length : Int) ∧ 0 ≤ m ∧ (val (l.take n.toNat) : Int) ≤ m ∧ n + (val (l.take n.toNat) : Int) ≤ (l.length : Int)
    · have e : rtext (some l) n m = ((l.drop n.toNat).take (val (l.take n.toNat)), some (l.drop (n.toNat + val (l.take n.toNat)))) := if_pos h
      rw [e]
      obtain ⟨h1, h2, h3, h4, h5⟩ := h
      obtain ⟨k, rfl⟩ := Int.eq_ofNat_of_zero_le (show 0 ≤ n by have := isT_cases h1; omega)
      rw [Int.toNat_natCast] at h4 h5 ⊢
      exact text_yes g l k m w hr h1 (by omega) h3 hm h4 (by omega)
    · have e : rtext (some l) n m = ([], none) := if_neg h
      rw [e]
      exact text_no g l n m w hr h hm

end Go.Proofs.Ytnmfgmlmjbfdcaa
