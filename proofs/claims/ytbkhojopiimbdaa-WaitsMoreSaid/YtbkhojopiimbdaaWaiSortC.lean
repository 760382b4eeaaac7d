/-
  slices.Sort of numbers of 64 bits, third part: heap sort, reversal.
-/
import Derived.Test.YtbkhojopiimbdaaWaiSortB
namespace Go.Proofs.Ytbkhojopiimbdaa
open Go.RowKit

/-- The second store of an exchange finds its cell. -/
theorem SD.second {w0 wr : World} {g : Nat} {rest : List Value} {d : Array Nat} (h : SD w0 g rest d wr) {i j : Nat} (hi : i < d.size) (hj : j < d.size) (y : Nat) :
    ∃ z : Nat, (wr.setCell ⟨g, i, none⟩ (.int .u64 (y : Int))).cell? ⟨g, j, none⟩ = some (.int .u64 (z : Int)) ∧ (wr.setCell ⟨g, i, none⟩ (.int .u64 (y : Int))).frozen? ⟨g, j, none⟩ = false :=
  ⟨_, (h.set hi y).cell (by simpa using hj), (h.set hi y).free j⟩

theorem sift_size (hi f : Nat) : ∀ (k r : Nat) (d : Array Nat), hi - r ≤ k → (Sort.siftDown ltN hi f r d).size = d.size
  | 0, r, d, h => by rw [sift_end (by omega)]
  | k + 1, r, d, h => by
    by_cases h1 : hi ≤ 2 * r + 1
    · rw [sift_end h1]
    · by_cases h2 : 2 * r + 2 < hi ∧ ltN d[f + (2 * r + 1)]! d[f + (2 * r + 1) + 1]! = true
      · rw [sift_right h2.1 h2.2]
        split
        · rw [sift_size hi f k _ _ (by omega), Sort.size_swp]
        · rfl
      · rw [sift_left (by omega) (fun h3 => by
          cases hl : ltN d[f + (2 * r + 1)]! d[f + (2 * r + 1) + 1]!
          · rfl
          · exact absurd ⟨h3, hl⟩ h2)]
        split
        · rw [sift_size hi f k _ _ (by omega), Sort.size_swp]
        · rfl

set_option maxRecDepth 100000 in
set_option maxHeartbeats 8000000 in
theorem heap_any (w0 : World) (g n c a b : Nat) (rest : List Value) (d : Array Nat) (w : World) (h : SD w0 g rest d w) (hd : d.size = n) (hab : a < b) (hb : b ≤ n) (hn : n ≤ 100000) :
    Calls Try.prog 20 #[.slice (some ⟨g, 0, none⟩) n c, .int .i64 (a : Int), .int .i64 (b : Int)] w fun e w' => e = .returned (.tuple #[]) ∧ SD w0 g rest (Sort.heapSort ltN d a b) w' := by
  have HS := Lib.hid h
  have HD := Lib.hid hd
  obtain ⟨R, hR⟩ : ∃ R, Sort.heapSort ltN d a b = R := ⟨_, rfl⟩
  obtain ⟨H, hH⟩ : ∃ H, b - a = H := ⟨_, rfl⟩
  obtain ⟨M, hM⟩ : ∃ M, Sort.heapBuild ltN H a ((H - 1) / 2 + 1) d = M := ⟨_, rfl⟩
  have HRR := Lib.hid (show Sort.heapPop ltN a H M = R by rw [← hR, ← hM, ← hH]; rfl)
  have HMM := Lib.hid hM
  have eH : (b : Int) - (a : Int) = (H : Int) := by omega
  have hH1 : 1 ≤ H := by omega
  have hHn : a + H ≤ n := by omega
  have eH2 : ((H : Int) - 1) / 2 = (((H - 1) / 2 : Nat) : Int) := by omega
  rw [hR]
  clear hR h hd hM hH hab hb
  obtain ⟨H2, hH2⟩ : ∃ H2, (H - 1) / 2 = H2 := ⟨_, rfl⟩
  rw [hH2] at eH2 HMM
  have hH3 : H2 < H := by omega
  clear hH2
  go_enter Try.func20, Try.ntmps20
  go_wp2
  go_loopw [9] (fun s wr => ∃ (k : Nat) (i : Int) (d : Array Nat), k ≤ H ∧ i + 1 = (k : Int) ∧ s = .int .i64 i ∧ Hid (d.size = n) ∧ Hid (SD w0 g rest d wr) ∧ Hid (Sort.heapBuild ltN H a k d = M)) (fun s _ => (intOf s + 1).toNat)
  case atStart => exact ⟨H2 + 1, (H2 : Int), d, by omega, by omega, by rw [eH2], HD, HS, HMM⟩
  case round =>
    obtain ⟨k, i, d, hk, hi, rfl, HD, HS, HM⟩ := hrel
    cases k with
    | succ k =>
      obtain rfl : i = (k : Int) := by omega
      have HM2 := Lib.hid (show Sort.heapBuild ltN H a k (Sort.siftDown ltN H a k d) = M from HM.out)
      have HC := Lib.hid (sift_any w0 g n c k H a rest d wr HS.out HD.out (by omega) hn (by omega))
      have HZ := Lib.hid (sift_size H a _ k d (Nat.le_refl _))
      clear hi eH eH2
      go_wp2_with (go_at_call 30; refine HC.out.mono ?_; rintro e w2 ⟨rfl, hs2⟩)
      go_roundw
      case rel => exact ⟨k, (k : Int) - 1, _, by omega, by omega, rfl, Lib.hid (by rw [HZ.out]; exact HD.out), Lib.hid hs2, HM2⟩
      case measure => simp [intOf]
    | zero =>
      obtain rfl : i = -1 := by omega
      have hD : d = M := HM.out
      subst hD
      clear hi eH2
      go_wp2
      go_loopw [10] (fun s wr => ∃ (k : Nat) (i : Int) (d : Array Nat), k ≤ H ∧ i + 1 = (k : Int) ∧ s = .int .i64 i ∧ Hid (d.size = n) ∧ Hid (SD w0 g rest d wr) ∧ Hid (Sort.heapPop ltN a k d = R)) (fun s _ => (intOf s + 1).toNat)
      case atStart => exact ⟨H, (H : Int) - 1, d, by omega, by omega, rfl, HD, HS, HRR⟩
      case round =>
        obtain ⟨k, i, d, hk, hi, rfl, HD, HS, HM⟩ := hrel
        cases k with
        | succ k =>
          obtain rfl : i = (k : Int) := by omega
          have HM2 := Lib.hid (show Sort.heapPop ltN a k (Sort.siftDown ltN k a 0 (Sort.swp d a (a + k))) = R from HM.out)
          obtain ⟨p, hp⟩ : ∃ p, a + k = p := ⟨_, rfl⟩
          have ep : (a : Int) + (k : Int) = (p : Int) := by omega
          have hpn : p < n := by omega
          have han : a < n := by omega
          rw [hp] at HM2
          have HG := Lib.hid (HS.out.drew.swp (i := a) (j := p) (by rw [HD.out]; exact han) (by rw [HD.out]; exact hpn))
          have g1 := HS.out.cell (j := a) (by rw [HD.out]; exact han)
          have g2 := HS.out.cell (j := p) (by rw [HD.out]; exact hpn)
          have f1 := HS.out.free a
          have f2 := HS.out.free p
          have HC := Lib.hid (fun wx (hx : SD w0 g rest (Sort.swp d a p) wx) => show Calls Try.prog 30 #[.slice (some ⟨g, 0, none⟩) n c, .int .i64 0, .int .i64 (k : Int), .int .i64 (a : Int)] wx fun e w' => e = .returned (.tuple #[]) ∧ SD w0 g rest (Sort.siftDown ltN k a 0 (Sort.swp d a p)) w' from
            sift_any w0 g n c 0 k a rest (Sort.swp d a p) wx hx (by rw [Sort.size_swp]; exact HD.out) (by omega) hn (by omega))
          have HZ := Lib.hid (show (Sort.siftDown ltN k a 0 (Sort.swp d a p)).size = n by rw [sift_size k a _ 0 _ (Nat.le_refl _), Sort.size_swp]; exact HD.out)
          obtain ⟨x, hx⟩ : ∃ x, d[a]! = x := ⟨_, rfl⟩
          obtain ⟨y, hy⟩ : ∃ y, d[p]! = y := ⟨_, rfl⟩
          rw [hx, hy] at HG
          rw [hx] at g1
          rw [hy] at g2
          have i0 : (0 : Int) ≤ (a : Int) := by omega
          have i1 : (a : Int) < (n : Int) := by omega
          have i2 : (0 : Int) ≤ (p : Int) := by omega
          have i3 : (p : Int) < (n : Int) := by omega
          have v1 := wadd ep (by omega)
          obtain ⟨z, g3, f3⟩ := HS.out.second (i := a) (j := p) (by rw [HD.out]; exact han) (by rw [HD.out]; exact hpn) y
          clear hx hy hp hi eH
          go_wp2_with fail
          go_region
          all_goals
            go_wp2_with (go_at_call 30; refine (HC.out _ HG.out).mono ?_; rintro e w2 ⟨rfl, hs2⟩)
            go_roundw
            case rel => exact ⟨k, (k : Int) - 1, _, by omega, by omega, rfl, HZ, Lib.hid hs2, HM2⟩
            case measure => simp [intOf]
        | zero =>
          obtain rfl : i = -1 := by omega
          have hD : d = R := HM.out
          subst hD
          clear hi
          go_wp2
          go_end0
          exact ⟨rfl, HS.out⟩

theorem rev_go {i j : Nat} {d : Array Nat} (h : i < j) : Sort.reverseLoop i j d = Sort.reverseLoop (i + 1) (j - 1) (Sort.swp d i j) := by
  rw [Sort.reverseLoop, if_pos h]
theorem rev_end {i j : Nat} {d : Array Nat} (h : ¬ i < j) : Sort.reverseLoop i j d = d := by
  rw [Sort.reverseLoop, if_neg h]

set_option maxRecDepth 100000 in
set_option maxHeartbeats 4000000 in
theorem reverse_any (w0 : World) (g n c a b : Nat) (rest : List Value) (d : Array Nat) (w : World) (h : SD w0 g rest d w) (hd : d.size = n) (hab : a < b) (hb : b ≤ n) (hn : n ≤ 100000) :
    Calls Try.prog 23 #[.slice (some ⟨g, 0, none⟩) n c, .int .i64 (a : Int), .int .i64 (b : Int)] w fun e w' => e = .returned (.tuple #[]) ∧ SD w0 g rest (Sort.reverseRange d a b) w' := by
  have HS := Lib.hid h
  have HD := Lib.hid hd
  obtain ⟨R, hR⟩ : ∃ R, Sort.reverseRange d a b = R := ⟨_, rfl⟩
  have HRR := Lib.hid (show Sort.reverseLoop a (b - 1) d = R from hR)
  have eb : (b : Int) - 1 = ((b - 1 : Nat) : Int) := by omega
  rw [hR]
  clear hR h hd
  obtain ⟨b1, hb1⟩ : ∃ b1, b - 1 = b1 := ⟨_, rfl⟩
  rw [hb1] at eb HRR
  have hb1n : b1 < n := by omega
  clear hb1
  go_enter Try.func23, Try.ntmps23
  go_wp2
  go_loopw [6, 7] (fun s t wr => ∃ (i j : Nat) (d : Array Nat), i ≤ n ∧ j < n ∧ s = .int .i64 i ∧ t = .int .i64 j ∧ Hid (d.size = n) ∧ Hid (SD w0 g rest d wr) ∧ Hid (Sort.reverseLoop i j d = R)) (fun s _ _ => n + 1 - (intOf s).toNat)
  case atStart => exact ⟨a, b1, d, by omega, hb1n, rfl, rfl, HD, HS, HRR⟩
  case round =>
    obtain ⟨i, j, d, hi, hj, rfl, rfl, HD, HS, HR⟩ := hrel
    by_cases hij : i < j
    · obtain ⟨k, rfl⟩ : ∃ k, j = k + 1 := ⟨j - 1, by omega⟩
      have HR2 := Lib.hid (show Sort.reverseLoop (i + 1) k (Sort.swp d i (k + 1)) = R by rw [← HR.out, rev_go hij]; rfl)
      obtain ⟨p, hp⟩ : ∃ p, k + 1 = p := ⟨_, rfl⟩
      have ep : ((p : Int) - 1) = (k : Int) := by omega
      rw [hp] at HR2 hij hj
      have HG := Lib.hid (HS.out.drew.swp (i := i) (j := p) (by rw [HD.out]; omega) (by rw [HD.out]; exact hj))
      have g1 := HS.out.cell (j := i) (by rw [HD.out]; omega)
      have g2 := HS.out.cell (j := p) (by rw [HD.out]; exact hj)
      have f1 := HS.out.free i
      have f2 := HS.out.free p
      obtain ⟨x, hx⟩ : ∃ x, d[i]! = x := ⟨_, rfl⟩
      obtain ⟨y, hy⟩ : ∃ y, d[p]! = y := ⟨_, rfl⟩
      rw [hx, hy] at HG
      rw [hx] at g1
      rw [hy] at g2
      have i0 : (0 : Int) ≤ (i : Int) := by omega
      have i1 : (i : Int) < (n : Int) := by omega
      have i2 : (0 : Int) ≤ (p : Int) := by omega
      have i3 : (p : Int) < (n : Int) := by omega
      have hkn : k < n := by omega
      rw [hp]
      clear hx hy hp HR eb
      go_wp2_with fail
      go_region
      all_goals
        go_wp2
        go_roundw
        case rel => exact ⟨i + 1, k, _, by omega, hkn, by go_num, rfl, Lib.hid (by rw [Sort.size_swp]; exact HD.out), Lib.hid HG.out, HR2⟩
        case measure => simp [intOf]; omega
    · have hD : d = R := by rw [← HR.out, rev_end hij]
      subst hD
      go_wp2
      go_end0
      exact ⟨rfl, HS.out⟩

end Go.Proofs.Ytbkhojopiimbdaa
