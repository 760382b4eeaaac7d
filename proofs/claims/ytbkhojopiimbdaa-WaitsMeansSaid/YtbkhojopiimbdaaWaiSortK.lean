/-
  slices.Sort of numbers of 64 bits, tenth part: the breaking of patterns.
-/
import Derived.Test.YtbkhojopiimbdaaWaiSortG
namespace Go.Proofs.Ytbkhojopiimbdaa
open Go.RowKit

set_option maxRecDepth 100000 in
set_option maxHeartbeats 8000000 in
theorem break_c : BreakC := by
  intro w0 g n c a b rest d w hs hd hab hb hn
  obtain ⟨L, hL⟩ : ∃ L, b - a = L := ⟨_, rfl⟩
  have eL : (b : Int) - (a : Int) = (L : Int) := by omega
  have L8 : (8 : Int) ≤ (L : Int) := by omega
  have HN2 := Lib.hid (fun w => next2_any L (by omega) (by omega) w)
  obtain ⟨q, hq⟩ : ∃ q, L / 4 = q := ⟨_, rfl⟩
  have eq4 : (L : Int) / 4 = (q : Int) := by omega
  obtain ⟨t, ht⟩ : ∃ t, a + q * 2 = t := ⟨_, rfl⟩
  have et : (a : Int) + (q : Int) * 2 = (t : Int) := by omega
  obtain ⟨t1, ht1⟩ : ∃ t1, t - 1 = t1 := ⟨_, rfl⟩
  have et1 : (t : Int) - 1 = (t1 : Int) := by omega
  obtain ⟨t2, ht2⟩ : ∃ t2, t + 1 = t2 := ⟨_, rfl⟩
  have et2 : (t : Int) + 1 = (t2 : Int) := by omega
  have r1 : a ≤ t1 := by omega
  have r2 : t2 < b := by omega
  have r3 : t1 ≤ t2 + 1 := by omega
  have hLn : a + L = b := by omega
  have hX0 : XS w0 g rest d w.heap.size L (w.alloc (.cells #[.int .u64 (L : Int)] 65)) :=
    ⟨hs.keep (below_new w _), Row.new w 65 [.int .u64 (L : Int)] (0, 0), hs.grow.size, Nat.ne_of_lt hs.row.lt, by omega⟩
  have HX0 := Lib.hid hX0
  have HD := Lib.hid hd
  have hL0 : L ≤ 1100 := by omega
  obtain ⟨s, hs0⟩ : ∃ s, w.heap.size = s := ⟨_, rfl⟩
  have HSZ := Lib.hid hs0
  rw [hs0] at HX0
  clear hL hq ht ht1 ht2 hs hd hX0
  go_enter Try.func21, Try.ntmps21
  go_wp2_with (go_at_call 31; refine (HN2.out _).mono ?_; rintro e w1 ⟨p, rfl, hp1, hp2, rfl⟩)
  try rw [hs0]
  have p1 : (1 : Int) ≤ (p : Int) := by omega
  have p2 : (p : Int) ≤ 2200 := by omega
  clear HN2 hs0
  go_loopw [9] (fun v wr => ∃ (k r : Nat) (D : Array Nat), t1 ≤ k ∧ k ≤ t2 + 1 ∧ v = .int .i64 k ∧ Hid (D.size = n) ∧ Hid (Sort.PermIn a b d D) ∧ Hid (XS w0 g rest D s r wr)) (fun v _ => t2 + 1 - (intOf v).toNat)
  case atStart => exact ⟨t1, L, d, Nat.le_refl _, r3, rfl, HD, Lib.hid (Sort.permIn_refl _ _ _), HX0⟩
  case round =>
    obtain ⟨k, r, D, hk1, hk2, rfl, HD2, HP, HX⟩ := hrel
    by_cases hk : k ≤ t2
    · have jk : (k : Int) ≤ (t2 : Int) := by omega
      have HN := Lib.hid (next_any w0 g rest D s r p wr HX.out (by omega) (by omega))
      go_upto_if 43 with (go_at_call 32; refine HN.out.mono ?_; rintro e w2 ⟨r2, o, rfl, hv, ho, hx2⟩)
      have HX2 := Lib.hid hx2
      clear hx2 hv HN
      obtain ⟨o2, ho2, hcase⟩ : ∃ o2 : Nat, o2 < L ∧ ((L ≤ o ∧ (o : Int) - (L : Int) = (o2 : Int)) ∨ (o < L ∧ o = o2)) := by
        by_cases hoL : L ≤ o
        · exact ⟨o - L, by omega, .inl ⟨hoL, by omega⟩⟩
        · exact ⟨o, by omega, .inr ⟨by omega, rfl⟩⟩
      obtain ⟨q2, hq2⟩ : ∃ q2, a + o2 = q2 := ⟨_, rfl⟩
      have eq2 : (a : Int) + (o2 : Int) = (q2 : Int) := by omega
      have hq2b : q2 < b := by omega
      have hq2a : a ≤ q2 := by omega
      clear hq2
      have HG := Lib.hid ((HX2.out.drewN 1).swp (i := k) (j := q2) (by rw [HD2.out]; omega) (by rw [HD2.out]; omega))
      have HP2 := Lib.hid (Sort.permIn_trans _ _ _ a b HP.out (Sort.swp_permIn D a b k q2 (by omega) (by omega) hq2a hq2b (by rw [HD2.out]; exact hb)))
      have g1 := HX2.out.sd.cell (j := k) (by rw [HD2.out]; omega)
      have g2 := HX2.out.sd.cell (j := q2) (by rw [HD2.out]; omega)
      have f1 := HX2.out.sd.free k
      have f2 := HX2.out.sd.free q2
      have HSZ2 := Lib.hid (show (Sort.swp D k q2).size = n by rw [Sort.size_swp]; exact HD2.out)
      obtain ⟨zz, g3, f3⟩ := HX2.out.sd.second (i := k) (j := q2) (by rw [HD2.out]; omega) (by rw [HD2.out]; omega) D[q2]!
      obtain ⟨x, hx⟩ : ∃ x, D[k]! = x := ⟨_, rfl⟩
      obtain ⟨y, hy⟩ : ∃ y, D[q2]! = y := ⟨_, rfl⟩
      rw [hx, hy] at HG
      rw [hx] at g1
      rw [hy] at g2 g3 f3
      have i0 : (0 : Int) ≤ (k : Int) := by omega
      have i1 : (k : Int) < (n : Int) := by omega
      have i2 : (0 : Int) ≤ (q2 : Int) := by omega
      have i3 : (q2 : Int) < (n : Int) := by omega
      have v1 := wadd eq2 (by omega)
      clear hx hy
      rcases hcase with ⟨hoL, eo⟩ | ⟨hoL, rfl⟩
      · have jo : (L : Int) ≤ (o : Int) := by omega
        clear et et1 et2 eq4 eL
        go_wp2_with fail
        go_region
        all_goals
          go_wp2_with fail
          go_roundw
          case rel => exact ⟨k + 1, r2, _, by omega, by omega, by go_num, HSZ2, HP2, HG⟩
          case measure => simp [intOf]; omega
      · have jo : ¬ ((L : Int) ≤ (o : Int)) := by omega
        clear et et1 et2 eq4 eL
        go_wp2_with fail
        go_region
        all_goals
          go_wp2_with fail
          go_roundw
          case rel => exact ⟨k + 1, r2, _, by omega, by omega, by go_num, HSZ2, HP2, HG⟩
          case measure => simp [intOf]; omega
    · have jk : ¬ ((k : Int) ≤ (t2 : Int)) := by omega
      go_wp2_with fail
      go_end0
      exact ⟨rfl, D, HP.out, HX.out.sd⟩

end Go.Proofs.Ytbkhojopiimbdaa
