/-
  What Ring of package waits is held to; rows that are the same; the statements' head.
-/
import Derived.Test.YtbkhojopiimbdaaWaiRefC
namespace Go.Proofs.Ytbkhojopiimbdaa
open Go.RowKit

/-- What Ring is held to. -/
def RingC : Prop := ∀ (l : List Edge) (A : Option Addr) (c tx : Nat) (w : World), Lie w A (ev l) → l.length ≤ c → c ≤ 9223372036854775807 → (A = none → c = 0) → l.length ≤ 200 → tx < 18446744073709551616 →
  (∀ e ∈ l, e.1 < 18446744073709551616 ∧ e.2 < 18446744073709551616) → Calls Try.prog 8 #[.slice A l.length c, .int .u64 (tx : Int)] w (RingV l tx w)

set_option maxRecDepth 100000 in
set_option maxHeartbeats 2000000 in
theorem sameIds_yes (l : List Nat) (A B : Option Addr) (c d : Nat) (w : World) (hA : Lie w A (nv l)) (hB : Lie w B (nv l)) (hn : l.length ≤ 1000000) :
    Calls Try.prog 7 #[.slice A l.length c, .slice B l.length d] w fun e w' => e = .returned (.bool true) ∧ Below w.heap.size w w' := by
  have HA := Lib.hid hA
  have HB := Lib.hid hB
  clear hA hB
  go_enter Try.func7, Try.ntmps7
  go_wp2
  go_loopw [5] (fun i wr => ∃ k : Nat, k ≤ l.length ∧ i = .int .i64 k ∧ Hid (Keep w wr)) (fun i _ => l.length - (intOf i).toNat)
  case atStart => exact ⟨0, by omega, rfl, Lib.hid (Keep.refl w)⟩
  case round =>
    obtain ⟨k, hk, rfl, HK⟩ := hrel
    by_cases hlt : k < l.length
    · have hI : (k : Int) < (l.length : Int) := by omega
      obtain ⟨g, off, rfl, c0⟩ := (HA.out.keep HK.out).num hlt
      obtain ⟨g2, off2, rfl, c1⟩ := (HB.out.keep HK.out).num hlt
      obtain ⟨x, hx⟩ : ∃ x, l[k] = x := ⟨_, rfl⟩
      rw [hx] at c0 c1
      clear hx
      go_wp2_with (go_quiet (fail))
      go_wp2_with fail
      first
        | exact ⟨⟨k + 1, by omega, by go_num, Lib.hid (HK.out.drewN _)⟩, by simp [intOf]; omega⟩
        | (go_roundw
           case rel => exact ⟨k + 1, by omega, by go_num, Lib.hid (HK.out.drewN _)⟩
           case measure => simp [intOf]; omega)
    · have hI : ¬ (k : Int) < (l.length : Int) := by omega
      go_wp2
      go_ret
      exact ⟨rfl, HK.out⟩

/-- The statements' edges. -/
def lH : List Edge := [(1, 2), (2, 3), (3, 1), (2, 1)]
theorem ring1 {c : List Nat} (h : RingOf lH 1 c) : c = [1, 2] := by
  refine h.uniq (.inr ⟨[2], rfl, ⟨by simp [lH], by simp [Way, lH]⟩, fun s hs => ?_⟩)
  match s, hs with
  | [], h => simp [Way, lH] at h
  | [b], h =>
    obtain rfl : b = 2 := by have := h.1; simp [lH] at this; exact this
    exact .inl rfl
  | _ :: _ :: _, _ => exact .inr (.inl (by simp))
theorem ring3 {c : List Nat} (h : RingOf lH 3 c) : c = [3, 1, 2] := by
  refine h.uniq (.inr ⟨[1, 2], rfl, ⟨by simp [lH], by simp [lH], by simp [Way, lH]⟩, fun s hs => ?_⟩)
  match s, hs with
  | [], h => simp [Way, lH] at h
  | [b], h =>
    obtain rfl : b = 1 := by have := h.1; simp [lH] at this; exact this
    have := h.2
    simp [Way, lH] at this
  | [b, d], h =>
    obtain rfl : b = 1 := by have := h.1; simp [lH] at this; exact this
    obtain rfl : d = 2 := by have := h.2.1; simp [lH] at this; exact this
    exact .inl rfl
  | _ :: _ :: _ :: _, _ => exact .inr (.inl (by simp))
theorem ring4 {c : List Nat} (h : RingOf lH 4 c) : c = [] := by
  refine h.uniq (.inl ⟨rfl, fun s hs => ?_⟩)
  match s, hs with
  | [], h => simp [Way, lH] at h
  | b :: _, h => have := h.1; simp [lH] at this
theorem ring5 {c : List Nat} (h : RingOf [(5, 5)] 5 c) : c = [5] := by
  refine h.uniq (.inr ⟨[], rfl, by simp [Way], fun s hs => ?_⟩)
  match s, hs with
  | [], _ => exact .inl rfl
  | _ :: _, _ => exact .inr (.inl (by simp))

theorem Lie.new (w : World) (t : TypeId) (vs : List Value) : Lie (w.alloc (.cells vs.toArray t)) (some ⟨w.heap.size, 0, none⟩) vs := fun _ => by
  have hr : Row (w.alloc (.cells vs.toArray t)) w.heap.size t vs (0, 0) := by
    have := Row.new w t vs (0, 0)
    exact this
  exact ⟨t, w.heap.size, 0, vs, (0, 0), rfl, hr, fun j _ => by rw [Nat.zero_add]⟩

set_option maxRecDepth 100000 in
set_option maxHeartbeats 2000000 in
theorem head_any (C : RingC) (w : World) : Calls Try.prog 6 #[] w fun e w' => e = .returned (.bool true) ∧ Below w.heap.size w w' := by
  have HL := Lib.hid (show Lie (w.alloc (.cells #[.int .u64 1, .int .u64 2, .int .u64 2, .int .u64 3, .int .u64 3, .int .u64 1, .int .u64 2, .int .u64 1] 31)) (some ⟨w.heap.size, 0, none⟩) (ev lH) from Lie.new w 31 (ev lH))
  have HK := Lib.hid (show Keep w (w.alloc (.cells #[.int .u64 1, .int .u64 2, .int .u64 2, .int .u64 3, .int .u64 3, .int .u64 1, .int .u64 2, .int .u64 1] 31)) from (Keep.refl w).alloc _)
  obtain ⟨W, hW⟩ : ∃ W, w.alloc (.cells #[.int .u64 1, .int .u64 2, .int .u64 2, .int .u64 3, .int .u64 3, .int .u64 1, .int .u64 2, .int .u64 1] 31) = W := ⟨_, rfl⟩
  rw [hW] at HL HK
  have HC := Lib.hid (fun (wx : World) (hk : Keep W wx) => C lH (some ⟨w.heap.size, 0, none⟩) 4 1 wx (HL.out.keep hk) (by decide) (by decide) (fun h => by cases h) (by decide) (by decide) (by decide))
  have HC3 := Lib.hid (fun (wx : World) (hk : Keep W wx) => C lH (some ⟨w.heap.size, 0, none⟩) 4 3 wx (HL.out.keep hk) (by decide) (by decide) (fun h => by cases h) (by decide) (by decide) (by decide))
  have HC4 := Lib.hid (fun (wx : World) (hk : Keep W wx) => C lH (some ⟨w.heap.size, 0, none⟩) 4 4 wx (HL.out.keep hk) (by decide) (by decide) (fun h => by cases h) (by decide) (by decide) (by decide))
  have HC5 := Lib.hid (fun (wx : World) => C [(5, 5)] (some ⟨wx.heap.size, 0, none⟩) 1 5 (wx.alloc (.cells #[.int .u64 5, .int .u64 5] 31)) (Lie.new wx 31 (ev [(5, 5)])) (by decide) (by decide) (fun h => by cases h) (by decide) (by decide) (by decide))
  clear C HL
  go_enter Try.func6, Try.ntmps6
  go_wp2_with fail
  refine (HC.out W (Keep.refl W)).mono ?_
  rintro e w1 ⟨A1, n1, c1, r1, rfl, rfl, _, _, hl1, hr1, hb1⟩
  obtain rfl := ring1 hr1
  have HL1 := Lib.hid hl1
  have HB1 := Lib.hid (show Keep W w1 from hb1)
  clear hl1 hr1 hb1 HC
  go_wp2_with fail
  refine (HC3.out w1 HB1.out).mono ?_
  rintro e w2 ⟨A2, n2, c2, r2, rfl, rfl, _, _, hl2, hr2, hb2⟩
  obtain rfl := ring3 hr2
  have HL1 := Lib.hid (HL1.out.keeps hb2)
  have HL2 := Lib.hid hl2
  have HB2 := Lib.hid (HB1.out.then hb2)
  clear hl2 hr2 hb2 HC3
  go_wp2_with fail
  refine (HC4.out w2 HB2.out).mono ?_
  rintro e w3 ⟨A3, n3, c3, r3, rfl, rfl, _, _, hl3, hr3, hb3⟩
  obtain rfl := ring4 hr3
  have HL1 := Lib.hid ((HL1.out.keeps hb3).alloc (.cells #[.int .u64 5, .int .u64 5] 31))
  have HL2 := Lib.hid ((HL2.out.keeps hb3).alloc (.cells #[.int .u64 5, .int .u64 5] 31))
  have HB3 := Lib.hid ((HB2.out.then hb3).alloc (.cells #[.int .u64 5, .int .u64 5] 31))
  have HC5 := Lib.hid (HC5.out w3)
  clear hl3 hr3 hb3 HC4
  go_wp2_with fail
  refine HC5.out.mono ?_
  rintro e w4 ⟨A4, n4, c4, r4, rfl, rfl, _, _, hl4, hr4, hb4⟩
  obtain rfl := ring5 hr4
  obtain ⟨g1, o1, rfl, k1⟩ := (HL1.out.keeps hb4).cells (by decide)
  obtain ⟨g2, o2, rfl, k2⟩ := (HL2.out.keeps hb4).cells (by decide)
  obtain ⟨g4, o4, rfl, k4⟩ := hl4.cells (by decide)
  have k10 : w4.cell? ⟨g1, o1, none⟩ = some (.int .u64 1) := k1 0 _ rfl
  have k11 : w4.cell? ⟨g1, o1 + 1, none⟩ = some (.int .u64 2) := k1 1 _ rfl
  have k20 : w4.cell? ⟨g2, o2, none⟩ = some (.int .u64 3) := k2 0 _ rfl
  have k21 : w4.cell? ⟨g2, o2 + 1, none⟩ = some (.int .u64 1) := k2 1 _ rfl
  have k22 : w4.cell? ⟨g2, o2 + 2, none⟩ = some (.int .u64 2) := k2 2 _ rfl
  have k40 : w4.cell? ⟨g4, o4, none⟩ = some (.int .u64 5) := k4 0 _ rfl
  have HF := Lib.hid (show Below w.heap.size w w4 from HK.out.then (HB3.out.then hb4))
  clear k1 k2 k4 hl4 hr4 hb4 HL1 HL2 HB1 HB2 HB3 HC5 HK
  go_wp2_with fail
  try go_ret
  first
    | exact ⟨rfl, HF.out⟩
    | trace_state
end Go.Proofs.Ytbkhojopiimbdaa
