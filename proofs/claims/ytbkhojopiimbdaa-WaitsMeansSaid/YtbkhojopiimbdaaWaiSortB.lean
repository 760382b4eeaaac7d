/-
  slices.Sort of numbers of 64 bits, second part: the heap.
-/
import Derived.Test.YtbkhojopiimbdaaWaiSortA
namespace Go.Proofs.Ytbkhojopiimbdaa
open Go.RowKit

theorem wadd {x y : Int} {z : Nat} (h : x + y = (z : Int)) (hz : z ≤ 1000000) : IntKind.i64.wrap (x + y) = (z : Int) := by
  rw [h]; exact IntWalk.i64_in _ (by omega)
theorem wsub {x y : Int} {z : Nat} (h : x - y = (z : Int)) (hz : z ≤ 1000000) : IntKind.i64.wrap (x - y) = (z : Int) := by
  rw [h]; exact IntWalk.i64_in _ (by omega)

theorem sift_end {hi f r : Nat} {d : Array Nat} (h : hi ≤ 2 * r + 1) : Sort.siftDown ltN hi f r d = d := by
  rw [Sort.siftDown, dif_pos h]
theorem sift_right {hi f r : Nat} {d : Array Nat} (h2 : 2 * r + 2 < hi) (hl : ltN d[f + (2 * r + 1)]! d[f + (2 * r + 1) + 1]! = true) :
    Sort.siftDown ltN hi f r d = if ltN d[f + r]! d[f + (2 * r + 2)]! then Sort.siftDown ltN hi f (2 * r + 2) (Sort.swp d (f + r) (f + (2 * r + 2))) else d := by
  rw [Sort.siftDown, dif_neg (by omega), if_pos (by rw [decide_eq_true (by omega), hl]; rfl), dif_pos h2]
  cases ltN d[f + r]! d[f + (2 * r + 2)]! <;> rfl
theorem sift_left {hi f r : Nat} {d : Array Nat} (h1 : 2 * r + 1 < hi) (hl : 2 * r + 2 < hi → ltN d[f + (2 * r + 1)]! d[f + (2 * r + 1) + 1]! = false) :
    Sort.siftDown ltN hi f r d = if ltN d[f + r]! d[f + (2 * r + 1)]! then Sort.siftDown ltN hi f (2 * r + 1) (Sort.swp d (f + r) (f + (2 * r + 1))) else d := by
  rw [Sort.siftDown, dif_neg (by omega), if_neg (by
    by_cases h2 : 2 * r + 2 < hi
    · rw [hl h2]; simp
    · rw [decide_eq_false (by omega)]; simp)]
  cases ltN d[f + r]! d[f + (2 * r + 1)]! <;> rfl

set_option maxRecDepth 100000 in
set_option maxHeartbeats 8000000 in
theorem sift_any (w0 : World) (g n c lo hi f : Nat) (rest : List Value) (d : Array Nat) (w : World) (h : SD w0 g rest d w) (hd : d.size = n) (hfit : f + hi ≤ n) (hn : n ≤ 100000) (hlo : lo ≤ n) :
    Calls Try.prog 30 #[.slice (some ⟨g, 0, none⟩) n c, .int .i64 (lo : Int), .int .i64 (hi : Int), .int .i64 (f : Int)] w fun e w' => e = .returned (.tuple #[]) ∧ SD w0 g rest (Sort.siftDown ltN hi f lo d) w' := by
  have HS := Lib.hid h
  have HD := Lib.hid hd
  obtain ⟨R, hR⟩ : ∃ R, Sort.siftDown ltN hi f lo d = R := ⟨_, rfl⟩
  have HRR := Lib.hid hR
  rw [hR]
  clear hR h hd
  go_enter Try.func30, Try.ntmps30
  go_wp2
  go_loopw [8] (fun s wr => ∃ (r : Nat) (d : Array Nat), r ≤ n ∧ s = .int .i64 r ∧ Hid (d.size = n) ∧ Hid (SD w0 g rest d wr) ∧ Hid (Sort.siftDown ltN hi f r d = R)) (fun s _ => n - (intOf s).toNat)
  case atStart => exact ⟨lo, d, hlo, rfl, HD, HS, HRR⟩
  case round =>
    obtain ⟨r, d, hrn, rfl, HD, HS, HR⟩ := hrel
    by_cases h1 : hi ≤ 2 * r + 1
    · have hD : d = R := by rw [← HR.out, sift_end h1]
      subst hD
      have i1 : (hi : Int) ≤ 2 * (r : Int) + 1 := by omega
      clear h1
      go_wp2
      go_end0
      exact ⟨rfl, HS.out⟩
    · obtain ⟨c1, hc1⟩ : ∃ c1, 2 * r + 1 = c1 := ⟨_, rfl⟩
      obtain ⟨c2, hc2⟩ : ∃ c2, 2 * r + 2 = c2 := ⟨_, rfl⟩
      have e1 : 2 * (r : Int) + 1 = (c1 : Int) := by omega
      have e2 : (c1 : Int) + 1 = (c2 : Int) := by omega
      have i1 : ¬ ((hi : Int) ≤ (c1 : Int)) := by omega
      have HCC := Lib.hid (show c1 = 2 * r + 1 ∧ c2 = 2 * r + 2 ∧ c1 < hi ∧ c2 = c1 + 1 from ⟨hc1.symm, hc2.symm, by omega, by omega⟩)
      have HRI := Lib.hid (fun (h2 : c2 < hi) (hl : ltN d[f + c1]! d[f + c2]! = true) => show (if ltN d[f + r]! d[f + c2]! then Sort.siftDown ltN hi f c2 (Sort.swp d (f + r) (f + c2)) else d) = R from by
        subst hc1 hc2
        rw [← HR.out, sift_right h2 hl])
      have HLE := Lib.hid (fun (hl : c2 < hi → ltN d[f + c1]! d[f + c2]! = false) => show (if ltN d[f + r]! d[f + c1]! then Sort.siftDown ltN hi f c1 (Sort.swp d (f + r) (f + c1)) else d) = R from by
        subst hc1 hc2
        rw [← HR.out, sift_left (by omega) hl])
      clear HR hc1 hc2 h1
      obtain ⟨p0, hp0⟩ : ∃ p, f + r = p := ⟨_, rfl⟩
      obtain ⟨p1, hp1⟩ : ∃ p, f + c1 = p := ⟨_, rfl⟩
      obtain ⟨p2, hp2⟩ : ∃ p, f + c2 = p := ⟨_, rfl⟩
      rw [hp0, hp1, hp2] at HRI
      rw [hp0, hp1, hp2] at HLE
      have hcc := HCC.out
      have e0 : (f : Int) + (r : Int) = (p0 : Int) := by omega
      have e3 : (f : Int) + (c1 : Int) = (p1 : Int) := by omega
      have e4 : (p1 : Int) + 1 = (p2 : Int) := by omega
      have e5 : (f : Int) + (c2 : Int) = (p2 : Int) := by omega
      have b0 : p0 < n := by omega
      have b1 : p1 < n := by omega
      have hcr : r < c1 := by omega
      have HP2 := Lib.hid (fun (h2 : c2 < hi) => show p2 < n by omega)
      have HPP := Lib.hid (show p0 ≠ p1 ∧ p0 ≠ p2 by omega)
      have HCN := Lib.hid (show c1 ≤ n ∧ (c2 < hi → c2 ≤ n) ∧ r < c2 ∧ c1 < hi by omega)
      clear hcc hp0 hp1 hp2 HCC
      have i0 : (0 : Int) ≤ (p0 : Int) := by omega
      have i01 : (0 : Int) ≤ (p1 : Int) := by omega
      have i02 : (0 : Int) ≤ (p2 : Int) := by omega
      have j0 : (p0 : Int) < (n : Int) := by omega
      have j1 : (p1 : Int) < (n : Int) := by omega
      have g0 := HS.out.cell (j := p0) (by rw [HD.out]; exact b0)
      have g1 := HS.out.cell (j := p1) (by rw [HD.out]; exact b1)
      obtain ⟨x0, hx0⟩ : ∃ x, d[p0]! = x := ⟨_, rfl⟩
      obtain ⟨x1, hx1⟩ : ∃ x, d[p1]! = x := ⟨_, rfl⟩
      rw [hx0] at g0
      rw [hx1] at g1
      have HX0 := Lib.hid hx0
      have HX1 := Lib.hid hx1
      clear hx0 hx1
      by_cases h2 : c2 < hi
      · have g2 := HS.out.cell (j := p2) (by rw [HD.out]; exact HP2.out h2)
        obtain ⟨x2, hx2⟩ : ∃ x, d[p2]! = x := ⟨_, rfl⟩
        rw [hx2] at g2
        have HX2 := Lib.hid hx2
        clear hx2
        cases hl2 : ltN x1 x2
        · skip
          have HL2 := Lib.hid (fun w => less_is hl2 w)
          have hrr := HLE.out (fun _ => by rw [HX1.out, HX2.out]; exact hl2)
          rw [HX0.out, HX1.out] at hrr
          cases hl : ltN x0 x1
          · have HL := Lib.hid (fun w => less_is hl w)
            rw [hl] at hrr
            have hD : d = R := hrr
            subst hD
            clear hl hrr hl2
            have k2 : (c2 : Int) < (hi : Int) := by omega
            have j2 : (p2 : Int) < (n : Int) := by have := HP2.out h2; omega
            have v0 := wadd e0 (by omega)
            have v1 := wadd e3 (by omega)
            have v2 := wadd e2 (by omega)
            have v3 := wadd e4 (by omega)
            have v4 := wadd e5 (by omega)
            clear HRI HLE
            go_wp2_with (go_quiet ((go_at_call 25; exact Calls.quiet_of_same (HL2.out _))))
            obtain ⟨wq, hwq⟩ : ∃ wq, wr.drewN nq = wq := ⟨_, rfl⟩
            have HSQ := Lib.hid (show SD w0 g rest d wq by rw [← hwq]; exact HS.out.drewN nq)
            rw [hwq]
            clear g0 g1 g2 hwq
            have g0 := HSQ.out.cell (j := p0) (by rw [HD.out]; exact b0)
            have g1 := HSQ.out.cell (j := p1) (by rw [HD.out]; exact b1)
            rw [HX0.out] at g0
            rw [HX1.out] at g1
            go_wp2_with (go_quiet ((go_at_call 25; exact Calls.quiet_of_same (HL.out _))))
            exact bodyPost_ret (v := .tuple #[]) (by simp [results, Try.results30, go_sem]) rfl ⟨rfl, HSQ.out.drewN _⟩
          · have HL := Lib.hid (fun w => less_is hl w)
            rw [hl] at hrr
            have HR2 := Lib.hid (show Sort.siftDown ltN hi f c1 (Sort.swp d p0 p1) = R from hrr)
            clear hl hrr hl2
            have k2 : (c2 : Int) < (hi : Int) := by omega
            have j2 : (p2 : Int) < (n : Int) := by have := HP2.out h2; omega
            have v0 := wadd e0 (by omega)
            have v1 := wadd e3 (by omega)
            have v2 := wadd e2 (by omega)
            have v3 := wadd e4 (by omega)
            have v4 := wadd e5 (by omega)
            clear HRI HLE
            go_wp2_with (go_quiet ((go_at_call 25; exact Calls.quiet_of_same (HL2.out _))))
            obtain ⟨wq, hwq⟩ : ∃ wq, wr.drewN nq = wq := ⟨_, rfl⟩
            have HSQ := Lib.hid (show SD w0 g rest d wq by rw [← hwq]; exact HS.out.drewN nq)
            rw [hwq]
            clear g0 g1 g2 hwq
            have g0 := HSQ.out.cell (j := p0) (by rw [HD.out]; exact b0)
            have g1 := HSQ.out.cell (j := p1) (by rw [HD.out]; exact b1)
            rw [HX0.out] at g0
            rw [HX1.out] at g1
            go_wp2_with (go_quiet ((go_at_call 25; exact Calls.quiet_of_same (HL.out _))))
            go_wp2_with fail
            obtain ⟨wz, hwz⟩ : ∃ wz, wq.drewN nq = wz := ⟨_, rfl⟩
            have HSZ := Lib.hid (show SD w0 g rest d wz by rw [← hwz]; exact HSQ.out.drewN nq)
            rw [hwz]
            clear g0 g1 hwz
            have HGG := Lib.hid (HSZ.out.drew.swp (i := p0) (j := p1) (by rw [HD.out]; exact b0) (by rw [HD.out]; exact b1))
            rw [HX0.out, HX1.out] at HGG
            have g0 := HSZ.out.cell (j := p0) (by rw [HD.out]; exact b0)
            have g1 := HSZ.out.cell (j := p1) (by rw [HD.out]; exact b1)
            rw [HX0.out] at g0
            rw [HX1.out] at g1
            have f0 := HSZ.out.free p0
            have f1 := HSZ.out.free p1
            have pne := HPP.out.1
            have pne2 := Ne.symm pne
            go_region
            all_goals
              go_wp2
              go_roundw
              case rel => exact ⟨c1, _, by have := HCN.out; omega, rfl, Lib.hid (by rw [Sort.size_swp]; exact HD.out), Lib.hid HGG.out, HR2⟩
              case measure => have := HCN.out; simp [intOf]; omega
        · skip
          have HL2 := Lib.hid (fun w => less_is hl2 w)
          have hrr := HRI.out h2 (by rw [HX1.out, HX2.out]; exact hl2)
          rw [HX0.out, HX2.out] at hrr
          cases hl : ltN x0 x2
          · have HL := Lib.hid (fun w => less_is hl w)
            rw [hl] at hrr
            have hD : d = R := hrr
            subst hD
            clear hl hrr hl2
            have k2 : (c2 : Int) < (hi : Int) := by omega
            have j2 : (p2 : Int) < (n : Int) := by have := HP2.out h2; omega
            have v0 := wadd e0 (by omega)
            have v1 := wadd e3 (by omega)
            have v2 := wadd e2 (by omega)
            have v3 := wadd e4 (by omega)
            have v4 := wadd e5 (by omega)
            clear HRI HLE
            go_wp2_with (go_quiet ((go_at_call 25; exact Calls.quiet_of_same (HL2.out _))))
            obtain ⟨wq, hwq⟩ : ∃ wq, wr.drewN nq = wq := ⟨_, rfl⟩
            have HSQ := Lib.hid (show SD w0 g rest d wq by rw [← hwq]; exact HS.out.drewN nq)
            rw [hwq]
            clear g0 g1 g2 hwq
            have g0 := HSQ.out.cell (j := p0) (by rw [HD.out]; exact b0)
            have g1 := HSQ.out.cell (j := p2) (by rw [HD.out]; exact HP2.out h2)
            rw [HX0.out] at g0
            rw [HX2.out] at g1
            go_wp2_with (go_quiet ((go_at_call 25; exact Calls.quiet_of_same (HL.out _))))
            exact bodyPost_ret (v := .tuple #[]) (by simp [results, Try.results30, go_sem]) rfl ⟨rfl, HSQ.out.drewN _⟩
          · have HL := Lib.hid (fun w => less_is hl w)
            rw [hl] at hrr
            have HR2 := Lib.hid (show Sort.siftDown ltN hi f c2 (Sort.swp d p0 p2) = R from hrr)
            clear hl hrr hl2
            have k2 : (c2 : Int) < (hi : Int) := by omega
            have j2 : (p2 : Int) < (n : Int) := by have := HP2.out h2; omega
            have v0 := wadd e0 (by omega)
            have v1 := wadd e3 (by omega)
            have v2 := wadd e2 (by omega)
            have v3 := wadd e4 (by omega)
            have v4 := wadd e5 (by omega)
            clear HRI HLE
            go_wp2_with (go_quiet ((go_at_call 25; exact Calls.quiet_of_same (HL2.out _))))
            obtain ⟨wq, hwq⟩ : ∃ wq, wr.drewN nq = wq := ⟨_, rfl⟩
            have HSQ := Lib.hid (show SD w0 g rest d wq by rw [← hwq]; exact HS.out.drewN nq)
            rw [hwq]
            clear g0 g1 g2 hwq
            have g0 := HSQ.out.cell (j := p0) (by rw [HD.out]; exact b0)
            have g1 := HSQ.out.cell (j := p2) (by rw [HD.out]; exact HP2.out h2)
            rw [HX0.out] at g0
            rw [HX2.out] at g1
            go_wp2_with (go_quiet ((go_at_call 25; exact Calls.quiet_of_same (HL.out _))))
            go_wp2_with fail
            obtain ⟨wz, hwz⟩ : ∃ wz, wq.drewN nq = wz := ⟨_, rfl⟩
            have HSZ := Lib.hid (show SD w0 g rest d wz by rw [← hwz]; exact HSQ.out.drewN nq)
            rw [hwz]
            clear g0 g1 hwz
            have HGG := Lib.hid (HSZ.out.drew.swp (i := p0) (j := p2) (by rw [HD.out]; exact b0) (by rw [HD.out]; exact HP2.out h2))
            rw [HX0.out, HX2.out] at HGG
            have g0 := HSZ.out.cell (j := p0) (by rw [HD.out]; exact b0)
            have g1 := HSZ.out.cell (j := p2) (by rw [HD.out]; exact HP2.out h2)
            rw [HX0.out] at g0
            rw [HX2.out] at g1
            have f0 := HSZ.out.free p0
            have f1 := HSZ.out.free p2
            have pne := HPP.out.2
            have pne2 := Ne.symm pne
            go_region
            all_goals
              go_wp2
              go_roundw
              case rel => exact ⟨c2, _, by have := HCN.out; omega, rfl, Lib.hid (by rw [Sort.size_swp]; exact HD.out), Lib.hid HGG.out, HR2⟩
              case measure => have := HCN.out; simp [intOf]; omega
      · skip
        have hrr := HLE.out (fun k => absurd k h2)
        rw [HX0.out, HX1.out] at hrr
        cases hl : ltN x0 x1
        · have HL := Lib.hid (fun w => less_is hl w)
          rw [hl] at hrr
          have hD : d = R := hrr
          subst hD
          clear hl hrr
          have k2 : decide ((c2 : Int) < (hi : Int)) = false := decide_eq_false (by omega)
          have v0 := wadd e0 (by omega)
          have v1 := wadd e3 (by omega)
          have v2 := wadd e2 (by omega)
          have v3 := wadd e4 (by omega)
          have v4 := wadd e5 (by omega)
          clear HRI HLE
          go_wp2_with (go_quiet (fail))
          obtain ⟨wq, hwq⟩ : ∃ wq, wr.drewN nq = wq := ⟨_, rfl⟩
          have HSQ := Lib.hid (show SD w0 g rest d wq by rw [← hwq]; exact HS.out.drewN nq)
          rw [hwq]
          clear g0 g1 hwq
          have g0 := HSQ.out.cell (j := p0) (by rw [HD.out]; exact b0)
          have g1 := HSQ.out.cell (j := p1) (by rw [HD.out]; exact b1)
          rw [HX0.out] at g0
          rw [HX1.out] at g1
          go_wp2_with (go_quiet ((go_at_call 25; exact Calls.quiet_of_same (HL.out _))))
          exact bodyPost_ret (v := .tuple #[]) (by simp [results, Try.results30, go_sem]) rfl ⟨rfl, HSQ.out.drewN _⟩
        · have HL := Lib.hid (fun w => less_is hl w)
          rw [hl] at hrr
          have HR2 := Lib.hid (show Sort.siftDown ltN hi f c1 (Sort.swp d p0 p1) = R from hrr)
          clear hl hrr
          have k2 : decide ((c2 : Int) < (hi : Int)) = false := decide_eq_false (by omega)
          have v0 := wadd e0 (by omega)
          have v1 := wadd e3 (by omega)
          have v2 := wadd e2 (by omega)
          have v3 := wadd e4 (by omega)
          have v4 := wadd e5 (by omega)
          clear HRI HLE
          go_wp2_with (go_quiet (fail))
          obtain ⟨wq, hwq⟩ : ∃ wq, wr.drewN nq = wq := ⟨_, rfl⟩
          have HSQ := Lib.hid (show SD w0 g rest d wq by rw [← hwq]; exact HS.out.drewN nq)
          rw [hwq]
          clear g0 g1 hwq
          have g0 := HSQ.out.cell (j := p0) (by rw [HD.out]; exact b0)
          have g1 := HSQ.out.cell (j := p1) (by rw [HD.out]; exact b1)
          rw [HX0.out] at g0
          rw [HX1.out] at g1
          go_wp2_with (go_quiet ((go_at_call 25; exact Calls.quiet_of_same (HL.out _))))
          go_wp2_with fail
          obtain ⟨wz, hwz⟩ : ∃ wz, wq.drewN nq = wz := ⟨_, rfl⟩
          have HSZ := Lib.hid (show SD w0 g rest d wz by rw [← hwz]; exact HSQ.out.drewN nq)
          rw [hwz]
          clear g0 g1 hwz
          have HGG := Lib.hid (HSZ.out.drew.swp (i := p0) (j := p1) (by rw [HD.out]; exact b0) (by rw [HD.out]; exact b1))
          rw [HX0.out, HX1.out] at HGG
          have g0 := HSZ.out.cell (j := p0) (by rw [HD.out]; exact b0)
          have g1 := HSZ.out.cell (j := p1) (by rw [HD.out]; exact b1)
          rw [HX0.out] at g0
          rw [HX1.out] at g1
          have f0 := HSZ.out.free p0
          have f1 := HSZ.out.free p1
          have pne := HPP.out.1
          have pne2 := Ne.symm pne
          go_region
          all_goals
            go_wp2
            go_roundw
            case rel => exact ⟨c1, _, by have := HCN.out; omega, rfl, Lib.hid (by rw [Sort.size_swp]; exact HD.out), Lib.hid HGG.out, HR2⟩
            case measure => have := HCN.out; simp [intOf]; omega

end Go.Proofs.Ytbkhojopiimbdaa
