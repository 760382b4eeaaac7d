/-
  slices.Sort of numbers of 64 bits, ninth part: the partial insertion sort.
-/
import Derived.Test.YtbkhojopiimbdaaWaiSortE
namespace Go.Proofs.Ytbkhojopiimbdaa
open Go.RowKit

theorem scanS_go {b i : Nat} {d : Array Nat} (h : i < b) (hl : ltN d[i]! d[i - 1]! = false) : Sort.scanSorted ltN d b i = Sort.scanSorted ltN d b (i + 1) := by
  rw [Sort.scanSorted, if_pos (by rw [decide_eq_true h, hl]; rfl)]
theorem scanS_no {b i : Nat} {d : Array Nat} (h : i < b → ltN d[i]! d[i - 1]! = true) : Sort.scanSorted ltN d b i = i := by
  rw [Sort.scanSorted, if_neg (by
    by_cases k : i < b
    · rw [h k]; simp
    · rw [decide_eq_false k]; simp)]
theorem scanS_range (b : Nat) (d : Array Nat) : ∀ (m i : Nat), b - i = m → i ≤ b → i ≤ Sort.scanSorted ltN d b i ∧ Sort.scanSorted ltN d b i ≤ b
  | 0, i, h, hi => by rw [scanS_no (fun h2 => by omega)]; exact ⟨Nat.le_refl _, hi⟩
  | m + 1, i, h, hi => by
    cases hl : ltN d[i]! d[i - 1]!
    · rw [scanS_go (by omega) hl]
      have := scanS_range b d m (i + 1) (by omega) (by omega)
      omega
    · rw [scanS_no (fun _ => hl)]; exact ⟨Nat.le_refl _, hi⟩
theorem down_go {j : Nat} {d : Array Nat} (h : ltN d[j + 1]! d[j]! = true) : Sort.shiftDown ltN (j + 1) d = Sort.shiftDown ltN j (Sort.swp d (j + 1) j) := by
  rw [Sort.shiftDown, h]; rfl
theorem down_no {j : Nat} {d : Array Nat} (h : ltN d[j + 1]! d[j]! = false) : Sort.shiftDown ltN (j + 1) d = d := by
  rw [Sort.shiftDown, h]; rfl
theorem up_go {b j : Nat} {d : Array Nat} (h : j < b) (hl : ltN d[j]! d[j - 1]! = true) : Sort.shiftUp ltN b j d = Sort.shiftUp ltN b (j + 1) (Sort.swp d j (j - 1)) := by
  rw [Sort.shiftUp, if_pos h, hl]; rfl
theorem up_no {b j : Nat} {d : Array Nat} (h : j < b → ltN d[j]! d[j - 1]! = false) : Sort.shiftUp ltN b j d = d := by
  rw [Sort.shiftUp]
  by_cases k : j < b
  · rw [if_pos k, h k]; rfl
  · rw [if_neg k]

/-- Where a shift has ended: the array that it leaves. -/
def Shifted (w0 : World) (g n : Nat) (rest : List Value) (d : Array Nat) (_s : Value) (wx : World) : Prop := d.size = n ∧ SD w0 g rest d wx

set_option maxRecDepth 100000 in
set_option maxHeartbeats 16000000 in
theorem partial_any (w0 : World) (g n c a b : Nat) (rest : List Value) (d : Array Nat) (w : World) (h : SD w0 g rest d w) (hd : d.size = n) (hab : a < b) (hb : b ≤ n) (hn : n ≤ 100000) :
    Calls Try.prog 24 #[.slice (some ⟨g, 0, none⟩) n c, .int .i64 (a : Int), .int .i64 (b : Int)] w fun e w' => e = .returned (.bool (Sort.partialInsertionSort ltN d a b).2) ∧ SD w0 g rest (Sort.partialInsertionSort ltN d a b).1 w' := by
  have HS := Lib.hid h
  have HD := Lib.hid hd
  obtain ⟨R, hR⟩ : ∃ R, Sort.partialInsertionSort ltN d a b = R := ⟨_, rfl⟩
  have HR := Lib.hid (show Sort.partialIns ltN a b 5 (a + 1) d = R from hR)
  rw [hR]
  clear hR h hd
  go_enter Try.func24, Try.ntmps24
  go_wp2_with fail
  go_loopw [7, 8] (fun u v wr => ∃ (i s : Nat) (d : Array Nat), u = .int .i64 i ∧ v = .int .i64 s ∧ a < i ∧ i ≤ b ∧ s ≤ 5 ∧ Hid (d.size = n) ∧ Hid (SD w0 g rest d wr) ∧ Hid (Sort.partialIns ltN a b (5 - s) i d = R)) (fun _ v _ => 5 - (intOf v).toNat)
  case atStart => exact ⟨a + 1, 0, d, by first | rfl | go_num, rfl, by omega, by omega, by omega, HD, HS, HR⟩
  case round =>
    obtain ⟨i, s, D, rfl, rfl, hai, hib, hs5, HD, HS, HR⟩ := hrel
    by_cases hs : s < 5
    · have j5 : (s : Int) < 5 := by omega
      obtain ⟨K, hK⟩ : ∃ K, Sort.scanSorted ltN D b i = K := ⟨_, rfl⟩
      have HK := Lib.hid hK
      obtain ⟨hiK, hKb⟩ : i ≤ K ∧ K ≤ b := by rw [← hK]; exact scanS_range b D _ i rfl hib
      have HR2 := Lib.hid (show (if K = b then (D, true) else if b - a < 50 then (D, false) else Sort.partialIns ltN a b (5 - (s + 1)) K (Sort.fixUp ltN b K (Sort.fixDown ltN a K (Sort.swp D K (K - 1))))) = R by
        rw [← HR.out, show 5 - s = (5 - (s + 1)) + 1 by omega, Sort.partialIns_succ, hK])
      clear hK HR
      go_upto_block 2 with fail
      go_cut [7] (fun s wx => ScanAt w0 g rest D K s wx)
      case first =>
        go_wp2_with fail
        go_loopw [7] (fun s wr => ∃ (k : Nat), i ≤ k ∧ k ≤ b ∧ s = .int .i64 k ∧ Hid (SD w0 g rest D wr) ∧ Hid (Sort.scanSorted ltN D b k = K)) (fun s _ => n + 1 - (intOf s).toNat)
        case atStart => exact ⟨i, Nat.le_refl _, hib, rfl, HS, HK⟩
        case round =>
          clear HK
          obtain ⟨k, hik, hkb, rfl, HS, HK⟩ := hrel
          by_cases hkb2 : k < b
          · have g1 := HS.out.cell (j := k) (by rw [HD.out]; omega)
            have g2 := HS.out.cell (j := k - 1) (by rw [HD.out]; omega)
            have HGO := Lib.hid (fun (h : ltN D[k]! D[k - 1]! = false) => scanS_go (b := b) (i := k) (d := D) hkb2 h)
            have HNO := Lib.hid (fun (h : ltN D[k]! D[k - 1]! = true) => scanS_no (b := b) (i := k) (d := D) (fun _ => h))
            obtain ⟨x, hx⟩ : ∃ x, D[k]! = x := ⟨_, rfl⟩
            obtain ⟨y, hy⟩ : ∃ y, D[k - 1]! = y := ⟨_, rfl⟩
            rw [hx, hy] at HGO HNO
            rw [hx] at g1
            rw [hy] at g2
            clear hx hy
            obtain ⟨k1, hk1⟩ : ∃ k1, k - 1 = k1 := ⟨_, rfl⟩
            rw [hk1] at g2
            have ek : (k : Int) - 1 = (k1 : Int) := by omega
            have i0 : (0 : Int) ≤ (k : Int) := by omega
            have i1 : (k : Int) < (n : Int) := by omega
            have i2 : (0 : Int) ≤ (k1 : Int) := by omega
            have i3 : (k1 : Int) < (n : Int) := by omega
            have i4 : (k : Int) < (b : Int) := by omega
            clear hk1
            cases hl : ltN x y
            · have HL := Lib.hid (fun w => less_is hl w)
              have HE := Lib.hid (show Sort.scanSorted ltN D b (k + 1) = K by rw [← HK.out, HGO.out hl])
              clear hl HGO HNO
              go_wp2_with (go_quiet ((go_at_call 25; exact Calls.quiet_of_same (HL.out _))))
              go_wp2_with fail
              go_roundw
              case rel => exact ⟨k + 1, by omega, by omega, by go_num, Lib.hid (HS.out.drewN _), HE⟩
              case measure => simp [intOf]; omega
            · have HL := Lib.hid (fun w => less_is hl w)
              have HE := Lib.hid (show k = K by rw [← HK.out, HNO.out hl])
              clear hl HGO HNO
              go_wp2_with (go_quiet ((go_at_call 25; exact Calls.quiet_of_same (HL.out _))))
              try go_wp2_with fail
              try go_frame
              go_meet
              exact ⟨by rw [← HE.out], HS.out.drewN _⟩
          · have HE := Lib.hid (show k = K by rw [← HK.out, scanS_no (fun h => absurd h hkb2)])
            have i4 : decide ((k : Int) < (b : Int)) = false := decide_eq_false (by omega)
            go_wp2_with (go_quiet (fail))
            try go_wp2_with fail
            try go_frame
            go_meet
            exact ⟨by rw [← HE.out], HS.out.drewN _⟩
      case rest =>
        obtain ⟨rfl, hsd⟩ := hcut
        have HS := Lib.hid hsd
        clear hsd HK
        by_cases hKb2 : K = b
        · have hRR : R = (D, true) := by rw [← HR2.out, if_pos hKb2]
          subst hRR
          have iK : (K : Int) = (b : Int) := by omega
          clear HR2
          go_wp2_with fail
          go_ret
          exact ⟨rfl, HS.out⟩
        · have iK : ¬ ((K : Int) = (b : Int)) := by omega
          by_cases h50 : b - a < 50
          · have hRR : R = (D, false) := by rw [← HR2.out, if_neg hKb2, if_pos h50]
            subst hRR
            have i50 : (b : Int) - (a : Int) < 50 := by omega
            clear HR2
            go_wp2_with fail
            go_ret
            exact ⟨rfl, HS.out⟩
          · have i50 : ¬ ((b : Int) - (a : Int) < 50) := by omega
            obtain ⟨K1, hK1⟩ : ∃ K1, K - 1 = K1 := ⟨_, rfl⟩
            have eK : (K : Int) - 1 = (K1 : Int) := by omega
            have HR3 := Lib.hid (show Sort.partialIns ltN a b (5 - (s + 1)) K (Sort.fixUp ltN b K (Sort.fixDown ltN a K (Sort.swp D K K1))) = R by rw [← hK1, ← HR2.out, if_neg hKb2, if_neg h50])
            clear HR2
            have HG := Lib.hid (HS.out.drew.swp (i := K) (j := K1) (by rw [HD.out]; omega) (by rw [HD.out]; omega))
            have g1 := HS.out.cell (j := K) (by rw [HD.out]; omega)
            have g2 := HS.out.cell (j := K1) (by rw [HD.out]; omega)
            have f1 := HS.out.free K
            have f2 := HS.out.free K1
            have HSZ := Lib.hid (show (Sort.swp D K K1).size = n by rw [Sort.size_swp]; exact HD.out)
            obtain ⟨zz, g3, f3⟩ := HS.out.second (i := K) (j := K1) (by rw [HD.out]; omega) (by rw [HD.out]; omega) D[K1]!
            obtain ⟨x, hx⟩ : ∃ x, D[K]! = x := ⟨_, rfl⟩
            obtain ⟨y, hy⟩ : ∃ y, D[K1]! = y := ⟨_, rfl⟩
            rw [hx, hy] at HG
            rw [hx] at g1
            rw [hy] at g2 g3 f3
            have i0 : (0 : Int) ≤ (K : Int) := by omega
            have i1 : (K : Int) < (n : Int) := by omega
            have i2 : (0 : Int) ≤ (K1 : Int) := by omega
            have i3 : (K1 : Int) < (n : Int) := by omega
            obtain ⟨D1, hnew⟩ : ∃ DX, Sort.swp D K K1 = DX := ⟨_, rfl⟩
            rw [hnew] at HG HSZ
            have HNEW := Lib.hid hnew
            clear hx hy hnew
            have HNEW2 := Lib.hid (show Sort.fixDown ltN a K D1 = (if K - a ≥ 2 then Sort.shiftDown ltN K1 D1 else D1) by rw [← hK1]; rfl)
            have HR4 := Lib.hid (show Sort.partialIns ltN a b (5 - (s + 1)) K (Sort.fixUp ltN b K (Sort.fixDown ltN a K D1)) = R by rw [← HNEW.out]; exact HR3.out)
            obtain ⟨DD, hDD⟩ : ∃ DD, Sort.fixDown ltN a K D1 = DD := ⟨_, rfl⟩
            rw [hDD] at HNEW2 HR4
            obtain ⟨UU, hUU⟩ : ∃ UU, Sort.fixUp ltN b K DD = UU := ⟨_, rfl⟩
            have HNEW3 := Lib.hid (show UU = (if b - K ≥ 2 then Sort.shiftUp ltN b (K + 1) DD else DD) by rw [← hUU]; rfl)
            rw [hUU] at HR4
            have hK1K : K1 < K := by omega
            clear hK1 hDD hUU HR3 HNEW
            go_upto_region 11 with fail
            go_region
            all_goals
              clear g1 g2 g3 f1 f2 f3 i0 i1 i2 i3 HS HD
              have HS := Lib.hid HG.out
              have HD := Lib.hid HSZ.out
              clear HG HSZ
              go_upto_if 61 with fail
              go_cut [9] (fun s wx => Shifted w0 g n rest DD s wx)
              case first =>
                clear HNEW3 HR4
                by_cases h2 : K - a ≥ 2
                · have j2 : (2 : Int) ≤ (K : Int) - (a : Int) := by omega
                  have HDN := Lib.hid (show Sort.shiftDown ltN K1 D1 = DD by rw [HNEW2.out, if_pos h2])
                  clear HNEW2
                  go_wp2_with fail
                  go_loopw [9] (fun s wr => ∃ (j : Nat) (d : Array Nat), j < K ∧ s = .int .i64 j ∧ Hid (d.size = n) ∧ Hid (SD w0 g rest d wr) ∧ Hid (Sort.shiftDown ltN j d = DD)) (fun s _ => (intOf s).toNat)
                  case atStart => exact ⟨K1, D1, hK1K, by first | rfl | rw [eK], HD, HS, HDN⟩
                  case round =>
                    clear HD HDN
                    obtain ⟨j, d, hjK, rfl, HD, HS, HDN⟩ := hrel
                    cases j with
                    | zero =>
                      have hE : d = DD := HDN.out
                      subst hE
                      go_wp2_with fail
                      go_meet
                      exact ⟨HD.out, HS.out⟩
                    | succ q =>
                      have HGO := Lib.hid (fun (h : ltN d[q + 1]! d[q]! = true) => down_go (j := q) (d := d) h)
                      have HNO := Lib.hid (fun (h : ltN d[q + 1]! d[q]! = false) => down_no (j := q) (d := d) h)
                      obtain ⟨j, hj⟩ : ∃ j, q + 1 = j := ⟨_, rfl⟩
                      have ej : (j : Int) - 1 = (q : Int) := by omega
                      rw [hj] at HGO HNO HDN hjK ⊢
                      have hqj : q < j := by omega
                      clear hj
                      have h1j : (1 : Int) ≤ (j : Int) := by omega
                      have g1 := HS.out.cell (j := j) (by rw [HD.out]; omega)
                      have g2 := HS.out.cell (j := q) (by rw [HD.out]; omega)
                      obtain ⟨x, hx⟩ : ∃ x, d[j]! = x := ⟨_, rfl⟩
                      obtain ⟨y, hy⟩ : ∃ y, d[q]! = y := ⟨_, rfl⟩
                      rw [hx, hy] at HGO HNO
                      rw [hx] at g1
                      rw [hy] at g2
                      have i0 : (0 : Int) ≤ (j : Int) := by omega
                      have i1 : (j : Int) < (n : Int) := by omega
                      have i2 : (0 : Int) ≤ (q : Int) := by omega
                      have i3 : (q : Int) < (n : Int) := by omega
                      clear hx hy
                      cases hl : ltN x y
                      · have HL := Lib.hid (fun w => less_is hl w)
                        have hE : d = DD := by rw [← HDN.out, HNO.out hl]
                        subst hE
                        clear hl HGO HNO
                        go_wp2_with (go_quiet ((go_at_call 25; exact Calls.quiet_of_same (HL.out _))))
                        try go_wp2_with fail
                        try go_frame
                        go_meet
                        exact ⟨HD.out, HS.out.drewN _⟩
                      · have HL := Lib.hid (fun w => less_is hl w)
                        have HDN2 := Lib.hid (show Sort.shiftDown ltN q (Sort.swp d j q) = DD by rw [← HDN.out, HGO.out hl])
                        clear hl HGO HNO HDN
                        go_wp2_with (go_quiet ((go_at_call 25; exact Calls.quiet_of_same (HL.out _))))
                        go_wp2_with fail
                        obtain ⟨wq, hwq⟩ : ∃ wq, wr.drewN nq = wq := ⟨_, rfl⟩
                        have HSQ := Lib.hid (show SD w0 g rest d wq by rw [← hwq]; exact HS.out.drewN nq)
                        rw [hwq]
                        clear g1 g2 hwq HS i0 i1 i2 i3
                        have HS := Lib.hid HSQ.out
                        clear HSQ
                        have HG := Lib.hid (HS.out.drew.swp (i := j) (j := q) (by rw [HD.out]; omega) (by rw [HD.out]; omega))
                        have g1 := HS.out.cell (j := j) (by rw [HD.out]; omega)
                        have g2 := HS.out.cell (j := q) (by rw [HD.out]; omega)
                        have f1 := HS.out.free j
                        have f2 := HS.out.free q
                        have HSZ := Lib.hid (show (Sort.swp d j q).size = n by rw [Sort.size_swp]; exact HD.out)
                        obtain ⟨zz, g3, f3⟩ := HS.out.second (i := j) (j := q) (by rw [HD.out]; omega) (by rw [HD.out]; omega) d[q]!
                        obtain ⟨x, hx⟩ : ∃ x, d[j]! = x := ⟨_, rfl⟩
                        obtain ⟨y, hy⟩ : ∃ y, d[q]! = y := ⟨_, rfl⟩
                        rw [hx, hy] at HG
                        rw [hx] at g1
                        rw [hy] at g2 g3 f3
                        have i0 : (0 : Int) ≤ (j : Int) := by omega
                        have i1 : (j : Int) < (n : Int) := by omega
                        have i2 : (0 : Int) ≤ (q : Int) := by omega
                        have i3 : (q : Int) < (n : Int) := by omega
                        obtain ⟨d2, hnew⟩ : ∃ DX, Sort.swp d j q = DX := ⟨_, rfl⟩
                        rw [hnew] at HG HSZ
                        have HNEW := Lib.hid hnew
                        clear hx hy hnew
                        go_region
                        all_goals
                          go_wp2_with fail
                          go_roundw
                          case rel => exact ⟨q, d2, by omega, by first | rfl | rw [ej], Lib.hid HSZ.out, Lib.hid HG.out, Lib.hid (by rw [← HNEW.out]; exact HDN2.out)⟩
                          case measure => simp [intOf]; omega
                · have j2 : ¬ ((2 : Int) ≤ (K : Int) - (a : Int)) := by omega
                  have hE : D1 = DD := by rw [HNEW2.out, if_neg h2]
                  subst hE
                  go_wp2_with fail
                  go_meet
                  exact ⟨HD.out, HS.out⟩
              case rest =>
                obtain ⟨hsz, hsd⟩ := hcut
                clear HS HD HNEW2
                have HS := Lib.hid hsd
                have HD := Lib.hid hsz
                clear hsd hsz
                by_cases h2 : b - K ≥ 2
                · have j2 : (2 : Int) ≤ (b : Int) - (K : Int) := by omega
                  have HUP := Lib.hid (show Sort.shiftUp ltN b (K + 1) DD = UU by rw [HNEW3.out, if_pos h2])
                  clear HNEW3
                  go_wp2_with fail
                  go_loopw [10] (fun s wr => ∃ (j : Nat) (d : Array Nat), K < j ∧ j ≤ b ∧ s = .int .i64 j ∧ Hid (d.size = n) ∧ Hid (SD w0 g rest d wr) ∧ Hid (Sort.shiftUp ltN b j d = UU)) (fun s _ => n + 1 - (intOf s).toNat)
                  case atStart => exact ⟨K + 1, DD, by omega, by omega, by first | rfl | go_num, HD, HS, HUP⟩
                  case round =>
                    clear HD HUP
                    obtain ⟨j, d, hjK, hjb, rfl, HD, HS, HUP⟩ := hrel
                    by_cases hjb2 : j < b
                    · have HGO := Lib.hid (fun (h : ltN d[j]! d[j - 1]! = true) => up_go (b := b) (j := j) (d := d) hjb2 h)
                      have HNO := Lib.hid (fun (h : ltN d[j]! d[j - 1]! = false) => up_no (b := b) (j := j) (d := d) (fun _ => h))
                      obtain ⟨q, hq⟩ : ∃ q, j - 1 = q := ⟨_, rfl⟩
                      have ej : (j : Int) - 1 = (q : Int) := by omega
                      rw [hq] at HGO HNO
                      have hqj : q < j := by omega
                      clear hq
                      have h1j : (j : Int) < (b : Int) := by omega
                      have g1 := HS.out.cell (j := j) (by rw [HD.out]; omega)
                      have g2 := HS.out.cell (j := q) (by rw [HD.out]; omega)
                      obtain ⟨x, hx⟩ : ∃ x, d[j]! = x := ⟨_, rfl⟩
                      obtain ⟨y, hy⟩ : ∃ y, d[q]! = y := ⟨_, rfl⟩
                      rw [hx, hy] at HGO HNO
                      rw [hx] at g1
                      rw [hy] at g2
                      have i0 : (0 : Int) ≤ (j : Int) := by omega
                      have i1 : (j : Int) < (n : Int) := by omega
                      have i2 : (0 : Int) ≤ (q : Int) := by omega
                      have i3 : (q : Int) < (n : Int) := by omega
                      clear hx hy
                      cases hl : ltN x y
                      · have HL := Lib.hid (fun w => less_is hl w)
                        have hE : d = UU := by rw [← HUP.out, HNO.out hl]
                        subst hE
                        clear hl HGO HNO
                        go_wp2_with (go_quiet ((go_at_call 25; exact Calls.quiet_of_same (HL.out _))))
                        go_wp2_with fail
                        go_roundw
                        case rel => exact ⟨K, s + 1, d, rfl, by go_num, by omega, hKb, by omega, HD, Lib.hid (HS.out.drewN _), HR4⟩
                        case measure => simp [intOf]; omega
                      · have HL := Lib.hid (fun w => less_is hl w)
                        have HUP2 := Lib.hid (show Sort.shiftUp ltN b (j + 1) (Sort.swp d j q) = UU by rw [← HUP.out, HGO.out hl])
                        clear hl HGO HNO HUP
                        go_wp2_with (go_quiet ((go_at_call 25; exact Calls.quiet_of_same (HL.out _))))
                        go_wp2_with fail
                        obtain ⟨wq, hwq⟩ : ∃ wq, wr.drewN nq = wq := ⟨_, rfl⟩
                        have HSQ := Lib.hid (show SD w0 g rest d wq by rw [← hwq]; exact HS.out.drewN nq)
                        rw [hwq]
                        clear g1 g2 hwq HS i0 i1 i2 i3
                        have HS := Lib.hid HSQ.out
                        clear HSQ
                        have HG := Lib.hid (HS.out.drew.swp (i := j) (j := q) (by rw [HD.out]; omega) (by rw [HD.out]; omega))
                        have g1 := HS.out.cell (j := j) (by rw [HD.out]; omega)
                        have g2 := HS.out.cell (j := q) (by rw [HD.out]; omega)
                        have f1 := HS.out.free j
                        have f2 := HS.out.free q
                        have HSZ := Lib.hid (show (Sort.swp d j q).size = n by rw [Sort.size_swp]; exact HD.out)
                        obtain ⟨zz, g3, f3⟩ := HS.out.second (i := j) (j := q) (by rw [HD.out]; omega) (by rw [HD.out]; omega) d[q]!
                        obtain ⟨x, hx⟩ : ∃ x, d[j]! = x := ⟨_, rfl⟩
                        obtain ⟨y, hy⟩ : ∃ y, d[q]! = y := ⟨_, rfl⟩
                        rw [hx, hy] at HG
                        rw [hx] at g1
                        rw [hy] at g2 g3 f3
                        have i0 : (0 : Int) ≤ (j : Int) := by omega
                        have i1 : (j : Int) < (n : Int) := by omega
                        have i2 : (0 : Int) ≤ (q : Int) := by omega
                        have i3 : (q : Int) < (n : Int) := by omega
                        obtain ⟨d2, hnew⟩ : ∃ DX, Sort.swp d j q = DX := ⟨_, rfl⟩
                        rw [hnew] at HG HSZ
                        have HNEW := Lib.hid hnew
                        clear hx hy hnew
                        go_region
                        all_goals
                          go_wp2_with fail
                          go_roundw
                          case rel => exact ⟨j + 1, d2, by omega, by omega, by first | rfl | go_num, Lib.hid HSZ.out, Lib.hid HG.out, Lib.hid (by rw [← HNEW.out]; exact HUP2.out)⟩
                          case measure => simp [intOf]; omega
                    · have h1j : ¬ ((j : Int) < (b : Int)) := by omega
                      have hE : d = UU := by rw [← HUP.out, up_no (fun h => absurd h hjb2)]
                      subst hE
                      go_wp2_with fail
                      go_roundw
                      case rel => exact ⟨K, s + 1, d, rfl, by go_num, by omega, hKb, by omega, HD, HS, HR4⟩
                      case measure => simp [intOf]; omega
                · have j2 : ¬ ((2 : Int) ≤ (b : Int) - (K : Int)) := by omega
                  have hE : UU = DD := by rw [HNEW3.out, if_neg h2]
                  rw [hE] at HR4
                  go_wp2_with fail
                  go_roundw
                  case rel => exact ⟨K, s + 1, DD, rfl, by go_num, by omega, hKb, by omega, HD, HS, HR4⟩
                  case measure => simp [intOf]; omega
    · have j5 : ¬ ((s : Int) < 5) := by omega
      have hRR : R = (D, false) := by rw [← HR.out, show 5 - s = 0 by omega]; rfl
      subst hRR
      go_wp2_with fail
      go_ret
      exact ⟨rfl, HS.out⟩

end Go.Proofs.Ytbkhojopiimbdaa
