/-
  slices.Sort of numbers of 64 bits, sixth part: the choice of a pivot.
-/
import Derived.Test.YtbkhojopiimbdaaWaiSortA
namespace Go.Proofs.Ytbkhojopiimbdaa
open Go.RowKit

theorem size_new (w : World) (o : Obj) : (w.alloc o).heap.size = w.heap.size + 1 := by simp
/-- Nothing that was there is written behind a new block. -/
theorem below_new (w : World) (o : Obj) : Below w.heap.size w (w.alloc o) := (Below.refl _ _).alloc (Nat.le_refl _) _

/-- While a pivot is chosen: the count of exchanges lies in a new block; nothing that was there has turned. -/
structure CP (w : World) (k : Nat) (wx : World) : Prop where
  row : Row wx w.heap.size 3 [.int .i64 (k : Int)] (0, 0)
  below : Below w.heap.size w wx
theorem CP.drewN {w wx : World} {k : Nat} (h : CP w k wx) (n : Nat) : CP w k (wx.drewN n) := ⟨h.row.drewN n, ⟨h.below.os, h.below.tape, h.below.output, h.below.size, h.below.block⟩⟩
theorem CP.cell {w wx : World} {k : Nat} (h : CP w k wx) : wx.cell? ⟨w.heap.size, 0, none⟩ = some (.int .i64 (k : Int)) := by rw [h.row.cell]; rfl
theorem CP.free {w wx : World} {k : Nat} (h : CP w k wx) : wx.frozen? ⟨w.heap.size, 0, none⟩ = false := h.row.loose 0
theorem CP.put {w wx : World} {k : Nat} (h : CP w k wx) (j : Nat) : CP w j (wx.setCell ⟨w.heap.size, 0, none⟩ (.int .i64 (j : Int))) := ⟨h.row.put 0 _, h.below.setCell (Nat.le_refl _) _⟩
theorem CP.sd {w wx w0 : World} {k g : Nat} {rest : List Value} {d : Array Nat} (h : CP w k wx) (hs : SD w0 g rest d w) : SD w0 g rest d wx := hs.keep h.below

def Ord2 (w : World) (a b k : Nat) (e : Ending) (wx : World) : Prop := ∃ a' b' k' : Nat, e = .returned (.tuple #[.int .i64 (a' : Int), .int .i64 (b' : Int)]) ∧ ((a' = a ∧ b' = b) ∨ (a' = b ∧ b' = a)) ∧ k' ≤ k + 1 ∧ CP w k' wx
def Med (w : World) (a b c k : Nat) (e : Ending) (wx : World) : Prop := ∃ m k' : Nat, e = .returned (.int .i64 (m : Int)) ∧ (m = a ∨ m = b ∨ m = c) ∧ k' ≤ k + 3 ∧ CP w k' wx

set_option maxRecDepth 100000 in
set_option maxHeartbeats 2000000 in
theorem order2_any (w0 w : World) (g n c a b k : Nat) (rest : List Value) (d : Array Nat) (wx : World) (hs : SD w0 g rest d w) (h : CP w k wx) (hd : d.size = n) (ha : a < n) (hb : b < n) (_hn : n ≤ 100000) (hk : k ≤ 100) :
    Calls Try.prog 36 #[.slice (some ⟨g, 0, none⟩) n c, .int .i64 (a : Int), .int .i64 (b : Int), .pointer (some ⟨w.heap.size, 0, none⟩)] wx (Ord2 w a b k) := by
  have HC := Lib.hid h
  have HS := Lib.hid (h.sd hs)
  have HD := Lib.hid hd
  clear h hs hd
  have g1 := HS.out.cell (j := a) (by rw [HD.out]; exact ha)
  have g2 := HS.out.cell (j := b) (by rw [HD.out]; exact hb)
  obtain ⟨x, hx⟩ : ∃ x, d[a]! = x := ⟨_, rfl⟩
  obtain ⟨y, hy⟩ : ∃ y, d[b]! = y := ⟨_, rfl⟩
  rw [hx] at g1
  rw [hy] at g2
  clear hx hy
  have i0 : (0 : Int) ≤ (a : Int) := by omega
  have i1 : (a : Int) < (n : Int) := by omega
  have i2 : (0 : Int) ≤ (b : Int) := by omega
  have i3 : (b : Int) < (n : Int) := by omega
  have k0 := HC.out.cell
  have kf := HC.out.free
  cases hl : ltN y x
  · have HL := Lib.hid (fun w => less_is hl w)
    clear hl
    go_enter Try.func36, Try.ntmps36
    go_wp2_with (go_quiet ((go_at_call 25; exact Calls.quiet_of_same (HL.out _))))
    go_ret2
    exact ⟨a, b, k, rfl, .inl ⟨rfl, rfl⟩, by omega, HC.out.drewN _⟩
  · have HL := Lib.hid (fun w => less_is hl w)
    clear hl
    have ek : (k : Int) + 1 = ((k + 1 : Nat) : Int) := by omega
    obtain ⟨k2, hk2⟩ : ∃ k2, k + 1 = k2 := ⟨_, rfl⟩
    rw [hk2] at ek
    have HK2 := Lib.hid hk2
    clear hk2
    go_enter Try.func36, Try.ntmps36
    go_wp2_with (go_quiet ((go_at_call 25; exact Calls.quiet_of_same (HL.out _))))
    go_ret2
    exact ⟨b, a, k2, rfl, .inr ⟨rfl, rfl⟩, by have := HK2.out; omega, (HC.out.drewN _).put k2⟩

set_option maxRecDepth 100000 in
set_option maxHeartbeats 2000000 in
theorem median_any (w0 w : World) (g n cc a b c k : Nat) (rest : List Value) (d : Array Nat) (wx : World) (hs : SD w0 g rest d w) (h : CP w k wx) (hd : d.size = n) (ha : a < n) (hb : b < n) (hc : c < n) (hn : n ≤ 100000) (hk : k ≤ 90) :
    Calls Try.prog 34 #[.slice (some ⟨g, 0, none⟩) n cc, .int .i64 (a : Int), .int .i64 (b : Int), .int .i64 (c : Int), .pointer (some ⟨w.heap.size, 0, none⟩)] wx (Med w a b c k) := by
  have HO := Lib.hid (fun a b k wx (h : CP w k wx) (ha : a < n) (hb : b < n) (hk : k ≤ 100) => order2_any w0 w g n cc a b k rest d wx hs h hd ha hb hn hk)
  have HC := Lib.hid h
  clear h hs hd
  go_enter Try.func34, Try.ntmps34
  go_wp2_with fail
  refine (HO.out _ _ _ _ HC.out ha hb (by omega)).mono ?_
  rintro e w1 ⟨a1, b1, k1, rfl, h1, hk1, hc1⟩
  have HC1 := Lib.hid hc1
  have hb1 : b1 < n := by omega
  have ha1 : a1 < n := by omega
  have H1 := Lib.hid h1
  clear hc1 h1 HC
  go_wp2_with fail
  refine (HO.out _ _ _ _ HC1.out hb1 hc (by omega)).mono ?_
  rintro e w2 ⟨b2, c2, k2, rfl, h2, hk2, hc2⟩
  have HC2 := Lib.hid hc2
  have hb2 : b2 < n := by omega
  have H2 := Lib.hid h2
  clear hc2 h2 HC1
  go_wp2_with fail
  refine (HO.out _ _ _ _ HC2.out ha1 hb2 (by omega)).mono ?_
  rintro e w3 ⟨a3, b3, k3, rfl, h3, hk3, hc3⟩
  have HC3 := Lib.hid hc3
  have H3 := Lib.hid h3
  clear hc3 h3 HC2
  go_wp2
  go_ret
  exact ⟨b3, k3, rfl, by have := H1.out; have := H2.out; have := H3.out; omega, by omega, HC3.out⟩

set_option maxRecDepth 100000 in
set_option maxHeartbeats 2000000 in
theorem adjacent_any (w0 w : World) (g n cc a k : Nat) (rest : List Value) (d : Array Nat) (wx : World) (hs : SD w0 g rest d w) (h : CP w k wx) (hd : d.size = n) (h1 : 1 ≤ a) (ha : a + 1 < n) (hn : n ≤ 100000) (hk : k ≤ 90) :
    Calls Try.prog 33 #[.slice (some ⟨g, 0, none⟩) n cc, .int .i64 (a : Int), .pointer (some ⟨w.heap.size, 0, none⟩)] wx (Med w (a - 1) a (a + 1) k) := by
  have HM := Lib.hid (median_any w0 w g n cc (a - 1) a (a + 1) k rest d wx hs h hd (by omega) (by omega) ha hn hk)
  have e1 : (a : Int) - 1 = ((a - 1 : Nat) : Int) := by omega
  have e2 : (a : Int) + 1 = ((a + 1 : Nat) : Int) := by omega
  obtain ⟨a1, ha1⟩ : ∃ a1, a - 1 = a1 := ⟨_, rfl⟩
  obtain ⟨a2, ha2⟩ : ∃ a2, a + 1 = a2 := ⟨_, rfl⟩
  rw [ha1] at e1 HM ⊢
  rw [ha2] at e2 HM ⊢
  clear ha1 ha2 hs h hd
  go_enter Try.func33, Try.ntmps33
  go_wp2_with fail
  refine HM.out.mono ?_
  rintro e w1 ⟨m, k1, rfl, h1, hk1, hc1⟩
  have HC1 := Lib.hid hc1
  have H1 := Lib.hid h1
  clear hc1 h1 e1 e2
  go_wp2
  go_ret
  exact ⟨m, k1, rfl, H1.out, hk1, HC1.out⟩

def Pivot (w : World) (a b : Nat) (e : Ending) (wx : World) : Prop := ∃ p h : Nat, e = .returned (.tuple #[.int .i64 (p : Int), .int .i64 (h : Int)]) ∧ a ≤ p ∧ p < b ∧ (h = 0 ∨ h = 1 ∨ h = 2) ∧ Below w.heap.size w wx

set_option maxRecDepth 100000 in
set_option maxHeartbeats 4000000 in
theorem pivot_any (w0 w : World) (g n cc a b : Nat) (rest : List Value) (d : Array Nat) (hs : SD w0 g rest d w) (hd : d.size = n) (hab : a + 12 < b) (hb : b ≤ n) (hn : n ≤ 100000) :
    Calls Try.prog 22 #[.slice (some ⟨g, 0, none⟩) n cc, .int .i64 (a : Int), .int .i64 (b : Int)] w (Pivot w a b) := by
  have HM := Lib.hid (fun a b c k wx (h : CP w k wx) (ha : a < n) (hb : b < n) (hc : c < n) (hk : k ≤ 90) => median_any w0 w g n cc a b c k rest d wx hs h hd ha hb hc hn hk)
  have HA := Lib.hid (fun a k wx (h : CP w k wx) (h1 : 1 ≤ a) (ha : a + 1 < n) (hk : k ≤ 90) => adjacent_any w0 w g n cc a k rest d wx hs h hd h1 ha hn hk)
  have HC0 := Lib.hid (show CP w 0 (w.alloc (.cells #[.int .i64 0] 3)) from ⟨Row.new w 3 [.int .i64 0] (0, 0), below_new w _⟩)
  obtain ⟨L, hL⟩ : ∃ L, b - a = L := ⟨_, rfl⟩
  have eL : (b : Int) - (a : Int) = (L : Int) := by omega
  obtain ⟨q, hq⟩ : ∃ q, L / 4 = q := ⟨_, rfl⟩
  have eq4 : (L : Int) / 4 = (q : Int) := by omega
  obtain ⟨i, hi⟩ : ∃ i, a + q * 1 = i := ⟨_, rfl⟩
  obtain ⟨j, hj⟩ : ∃ j, a + q * 2 = j := ⟨_, rfl⟩
  obtain ⟨k, hk⟩ : ∃ k, a + q * 3 = k := ⟨_, rfl⟩
  have ei : (a : Int) + (q : Int) = (i : Int) := by omega
  have ej : (a : Int) + (q : Int) * 2 = (j : Int) := by omega
  have ek : (a : Int) + (q : Int) * 3 = (k : Int) := by omega
  have hir : a + 1 ≤ i ∧ i + 1 < b := by omega
  have hjr : a + 1 ≤ j ∧ j + 1 < b := by omega
  have hkr : a + 1 ≤ k ∧ k + 1 < b := by omega
  have h8 : (8 : Int) ≤ (L : Int) := by omega
  obtain ⟨hi1, hi2⟩ := hir
  obtain ⟨hj1, hj2⟩ := hjr
  obtain ⟨hk1, hk2⟩ := hkr
  clear hL hq hi hj hk hs hd
  by_cases h50 : 50 ≤ L
  · have i50 : (50 : Int) ≤ (L : Int) := by omega
    go_enter Try.func22, Try.ntmps22
    go_wp2_with fail
    refine (HA.out _ _ _ HC0.out (by omega) (by omega) (by omega)).mono ?_
    rintro e w1 ⟨m1, k1, rfl, h1, hk1, hc1⟩
    have HC1 := Lib.hid hc1
    have b1 : a ≤ m1 ∧ m1 < b := by omega
    clear hc1 h1 HC0
    go_wp2_with fail
    refine (HA.out _ _ _ HC1.out (by omega) (by omega) (by omega)).mono ?_
    rintro e w2 ⟨m2, k2, rfl, h2, hk2, hc2⟩
    have HC2 := Lib.hid hc2
    have b2 : a ≤ m2 ∧ m2 < b := by omega
    clear hc2 h2 HC1
    go_wp2_with fail
    refine (HA.out _ _ _ HC2.out (by omega) (by omega) (by omega)).mono ?_
    rintro e w3 ⟨m3, k3, rfl, h3, hk3, hc3⟩
    have HC3 := Lib.hid hc3
    have b3 : a ≤ m3 ∧ m3 < b := by omega
    clear hc3 h3 HC2
    go_wp2_with fail
    refine (HM.out _ _ _ _ _ HC3.out (by omega) (by omega) (by omega) (by omega)).mono ?_
    rintro e w4 ⟨m4, k4, rfl, h4, hk4, hc4⟩
    have HC4 := Lib.hid hc4
    have b4 : a ≤ m4 ∧ m4 < b := by omega
    have k0 := hc4.cell
    clear hc4 h4 HC3 b1 b2 b3
    by_cases z1 : k4 = 0
    · subst z1
      go_wp2
      go_ret2
      exact ⟨m4, 1, rfl, b4.1, b4.2, .inr (.inl rfl), HC4.out.below⟩
    · have z1' : ¬ ((k4 : Int) = 0) := by omega
      by_cases z2 : k4 = 12
      · subst z2
        go_wp2
        go_ret2
        exact ⟨m4, 2, rfl, b4.1, b4.2, .inr (.inr rfl), HC4.out.below⟩
      · have z2' : ¬ ((k4 : Int) = 12) := by omega
        go_wp2
        go_ret2
        exact ⟨m4, 0, rfl, b4.1, b4.2, .inl rfl, HC4.out.below⟩
  · have i50 : ¬ ((50 : Int) ≤ (L : Int)) := by omega
    go_enter Try.func22, Try.ntmps22
    go_wp2_with fail
    refine (HM.out _ _ _ _ _ HC0.out (by omega) (by omega) (by omega) (by omega)).mono ?_
    rintro e w4 ⟨m4, k4, rfl, h4, hk4, hc4⟩
    have HC4 := Lib.hid hc4
    have b4 : a ≤ m4 ∧ m4 < b := by omega
    have k0 := hc4.cell
    clear hc4 h4 HC0
    by_cases z1 : k4 = 0
    · subst z1
      go_wp2
      go_ret2
      exact ⟨m4, 1, rfl, b4.1, b4.2, .inr (.inl rfl), HC4.out.below⟩
    · have z1' : ¬ ((k4 : Int) = 0) := by omega
      by_cases z2 : k4 = 12
      · subst z2
        go_wp2
        go_ret2
        exact ⟨m4, 2, rfl, b4.1, b4.2, .inr (.inr rfl), HC4.out.below⟩
      · have z2' : ¬ ((k4 : Int) = 12) := by omega
        go_wp2
        go_ret2
        exact ⟨m4, 0, rfl, b4.1, b4.2, .inl rfl, HC4.out.below⟩

end Go.Proofs.Ytbkhojopiimbdaa
