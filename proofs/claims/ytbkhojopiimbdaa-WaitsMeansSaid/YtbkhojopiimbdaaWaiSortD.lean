/-
  slices.Sort of numbers of 64 bits, fourth part: the partitions.
-/
import Derived.Test.YtbkhojopiimbdaaWaiSortC
import Derived.Deep.DeepCutAuto
import Derived.Deep.CutBlock
import Derived.Outline
namespace Go.Proofs.Ytbkhojopiimbdaa
open Go.RowKit

theorem scanUp_go {p : Nat → Bool} {d : Array Nat} {i j : Nat} (h : i ≤ j) (hp : p d[i]! = true) : Sort.scanUp p d j i = Sort.scanUp p d j (i + 1) := by
  rw [Sort.scanUp, if_pos (by rw [decide_eq_true h, hp]; rfl)]
theorem scanUp_no {p : Nat → Bool} {d : Array Nat} {i j : Nat} (h : i ≤ j → p d[i]! = false) : Sort.scanUp p d j i = i := by
  rw [Sort.scanUp, if_neg (by
    by_cases k : i ≤ j
    · rw [h k]; simp
    · rw [decide_eq_false k]; simp)]
theorem scanDown_go {p : Nat → Bool} {d : Array Nat} {i j : Nat} (h : i ≤ j + 1) (hp : p d[j + 1]! = true) : Sort.scanDown p d i (j + 1) = Sort.scanDown p d i j := by
  rw [Sort.scanDown, if_pos (by rw [decide_eq_true h, hp]; rfl)]
theorem scanDown_no {p : Nat → Bool} {d : Array Nat} {i j : Nat} (h : i ≤ j → p d[j]! = false) : Sort.scanDown p d i j = j := by
  cases j with
  | zero => rfl
  | succ j =>
    rw [Sort.scanDown, if_neg (by
      by_cases k : i ≤ j + 1
      · rw [h k]; simp
      · rw [decide_eq_false k]; simp)]

/-- Behind a scan: its counter stands where it should. -/
def ScanAt (w0 : World) (g : Nat) (rest : List Value) (d : Array Nat) (I : Nat) (s : Value) (wx : World) : Prop := s = .int .i64 (I : Int) ∧ SD w0 g rest d wx
set_option maxRecDepth 100000 in
set_option maxHeartbeats 16000000 in
theorem parteq_any (w0 : World) (g n c a b p : Nat) (rest : List Value) (d : Array Nat) (w : World) (h : SD w0 g rest d w) (hd : d.size = n) (hap : a ≤ p) (hpb : p < b) (hab : a + 1 < b) (hb : b ≤ n) (hn : n ≤ 100000) :
    Calls Try.prog 26 #[.slice (some ⟨g, 0, none⟩) n c, .int .i64 (a : Int), .int .i64 (b : Int), .int .i64 (p : Int)] w fun e w' => e = .returned (.int .i64 ((Sort.partitionEqual ltN d a b p).1 : Int)) ∧ SD w0 g rest (Sort.partitionEqual ltN d a b p).2 w' := by
  have HS := Lib.hid h
  have HD := Lib.hid hd
  have hpn : p < n := by omega
  have han : a < n := by omega
  obtain ⟨R, hR⟩ : ∃ R, Sort.partEqLoop ltN a (a + 1) (b - 1) (Sort.swp d a p) = R := ⟨_, rfl⟩
  have HR0 := Lib.hid hR
  have HFIN := Lib.hid (show Sort.partitionEqual ltN d a b p = R by rw [← hR]; rfl)
  have eb : (b : Int) - 1 = ((b - 1 : Nat) : Int) := by omega
  clear hR h hd
  obtain ⟨b1, hb1⟩ : ∃ b1, b - 1 = b1 := ⟨_, rfl⟩
  rw [hb1] at eb HR0
  have hb1n : b1 < n := by omega
  have hab1 : a < b1 := by omega
  clear hb1
  rw [HFIN.out]
  clear HFIN
  have HG := Lib.hid (HS.out.drew.swp (i := a) (j := p) (by rw [HD.out]; omega) (by rw [HD.out]; omega))
  have g1 := HS.out.cell (j := a) (by rw [HD.out]; omega)
  have g2 := HS.out.cell (j := p) (by rw [HD.out]; omega)
  have f1 := HS.out.free a
  have f2 := HS.out.free p
  have HSZ := Lib.hid (show (Sort.swp d a p).size = n by rw [Sort.size_swp]; exact HD.out)
  obtain ⟨zz, g3, f3⟩ := HS.out.second (i := a) (j := p) (by rw [HD.out]; omega) (by rw [HD.out]; omega) d[p]!
  obtain ⟨x, hx⟩ : ∃ x, d[a]! = x := ⟨_, rfl⟩
  obtain ⟨y, hy⟩ : ∃ y, d[p]! = y := ⟨_, rfl⟩
  rw [hx, hy] at HG
  rw [hx] at g1
  rw [hy] at g2 g3 f3
  have i0 : (0 : Int) ≤ (a : Int) := by omega
  have i1 : (a : Int) < (n : Int) := by omega
  have i2 : (0 : Int) ≤ (p : Int) := by omega
  have i3 : (p : Int) < (n : Int) := by omega
  obtain ⟨D1, hnew⟩ : ∃ D, Sort.swp d a p = D := ⟨_, rfl⟩
  rw [hnew] at HG HSZ
  have HNEW := Lib.hid hnew
  clear hx hy hnew
  have HR := Lib.hid (show Sort.partEqLoop ltN a (a + 1) b1 D1 = R by rw [← HNEW.out]; exact HR0.out)
  obtain ⟨A0, hA0⟩ : ∃ A0, D1[a]! = A0 := ⟨_, rfl⟩
  have HA := Lib.hid hA0
  clear hA0 HR0 HNEW
  go_enter Try.func26, Try.ntmps26
  go_wp2_with fail
  go_region
  all_goals
    clear g1 g2 g3 f1 f2 f3 i0 i1 i2 i3 HS HD
    have HS := Lib.hid HG.out
    have HD := Lib.hid HSZ.out
    clear HG HSZ
    go_wp2_with fail
    go_loopw [9, 10] (fun s t wr => ∃ (i j : Nat) (d : Array Nat), a + 1 ≤ i ∧ i ≤ n ∧ j < n ∧ s = .int .i64 i ∧ t = .int .i64 j ∧ Hid (d.size = n) ∧ Hid (SD w0 g rest d wr) ∧ Hid (d[a]! = A0) ∧ Hid (Sort.partEqLoop ltN a i j d = R)) (fun s t _ => (intOf t + 1 - intOf s).toNat)
    case atStart => exact ⟨a + 1, b1, D1, Nat.le_refl _, by omega, hb1n, by first | rfl | go_num, rfl, HD, HS, HA, HR⟩
    case round =>
      obtain ⟨i, j, d, hai, hin, hjn, rfl, rfl, HD, HS, HA, HR⟩ := hrel
      obtain ⟨I, hI⟩ : ∃ I, Sort.scanUp (fun x => !ltN A0 x) d j i = I := ⟨_, rfl⟩
      obtain ⟨J, hJ⟩ : ∃ J, Sort.scanDown (fun x => ltN A0 x) d I j = J := ⟨_, rfl⟩
      have HR2 := Lib.hid (show (if I > J then (I, d) else Sort.partEqLoop ltN a (I + 1) (J - 1) (Sort.swp d I J)) = R by
        have h5 := Sort.partEqLoop_eq ltN a i j d
        rw [HA.out, hI, hJ] at h5
        rw [← h5]; exact HR.out)
      have hiI : i ≤ I := by rw [← hI]; exact Sort.scanUp_ge _ _ _ _
      have hJj : J ≤ j := by rw [← hJ]; exact Sort.scanDown_le _ _ _ _
      have HI := Lib.hid hI
      have HJ := Lib.hid hJ
      clear hI hJ HR
      go_upto_block 2 with fail
      go_cut [9] (fun s wx => ScanAt w0 g rest d I s wx)
      case first =>
        go_wp2_with fail
        go_loopw [9] (fun s wr => ∃ (k : Nat), i ≤ k ∧ k ≤ n ∧ s = .int .i64 k ∧ Hid (SD w0 g rest d wr) ∧ Hid (Sort.scanUp (fun x => !ltN A0 x) d j k = I)) (fun s _ => n + 1 - (intOf s).toNat)
        case atStart => exact ⟨i, Nat.le_refl _, by omega, by first | rfl | go_num, HS, HI⟩
        case round =>
          obtain ⟨k, hik, hkn, rfl, HS, HK⟩ := hrel
          by_cases hkj : k ≤ j
          · have g1 := HS.out.cell (j := k) (by rw [HD.out]; omega)
            have g2 := HS.out.cell (j := a) (by rw [HD.out]; omega)
            have HGO := Lib.hid (fun (h : (fun x => !ltN A0 x) d[k]! = true) => scanUp_go (p := (fun x => !ltN A0 x)) (d := d) hkj h)
            have HNO := Lib.hid (fun (h : (fun x => !ltN A0 x) d[k]! = false) => scanUp_no (p := (fun x => !ltN A0 x)) (d := d) (j := j) (fun _ => h))
            rw [HA.out] at g2
            obtain ⟨x, hx⟩ : ∃ x, d[k]! = x := ⟨_, rfl⟩
            rw [hx] at g1 HGO HNO
            clear hx
            have i0 : (0 : Int) ≤ (k : Int) := by omega
            have i1 : (k : Int) < (n : Int) := by omega
            have i2 : (0 : Int) ≤ (a : Int) := by omega
            have i3 : (a : Int) < (n : Int) := by omega
            have i4 : (k : Int) ≤ (j : Int) := by omega
            cases hl : ltN A0 x
            · have HL := Lib.hid (fun w => less_is hl w)
              have HE := Lib.hid (show Sort.scanUp (fun x => !ltN A0 x) d j (k + 1) = I by rw [← HK.out, HGO.out (by simp [hl])])
              clear hl HGO HNO
              go_wp2_with (go_quiet ((go_at_call 25; exact Calls.quiet_of_same (HL.out _))))
              go_wp2_with fail
              go_roundw
              case rel => exact ⟨k + 1, by omega, by omega, by go_num, Lib.hid (HS.out.drewN _), HE⟩
              case measure => simp [intOf]; omega
            · have HL := Lib.hid (fun w => less_is hl w)
              have HE := Lib.hid (show k = I by rw [← HK.out, HNO.out (by simp [hl])])
              clear hl HGO HNO
              go_wp2_with (go_quiet ((go_at_call 25; exact Calls.quiet_of_same (HL.out _))))
              try go_wp2_with fail
              try go_frame
              go_meet
              exact ⟨by rw [← HE.out], HS.out.drewN _⟩
          · have HE := Lib.hid (show k = I by rw [← HK.out, scanUp_no (fun h => absurd h hkj)])
            have i4 : decide ((k : Int) ≤ (j : Int)) = false := decide_eq_false (by omega)
            go_wp2_with (go_quiet (fail))
            try go_wp2_with fail
            try go_frame
            go_meet
            exact ⟨by rw [← HE.out], HS.out.drewN _⟩
      case rest =>
        obtain ⟨rfl, hs⟩ := hcut
        have HS := Lib.hid hs
        clear hs
        go_upto_block 4 with fail
        go_cut [10] (fun s wx => ScanAt w0 g rest d J s wx)
        case first =>
          go_wp2_with fail
          go_loopw [10] (fun s wr => ∃ (k : Nat), k ≤ j ∧ s = .int .i64 k ∧ Hid (SD w0 g rest d wr) ∧ Hid (Sort.scanDown (fun x => ltN A0 x) d I k = J)) (fun s _ => (intOf s).toNat)
          case atStart => exact ⟨j, Nat.le_refl _, by first | rfl | go_num, HS, HJ⟩
          case round =>
            obtain ⟨k, hkj, rfl, HS, HK⟩ := hrel
            by_cases hki : I ≤ k
            · obtain ⟨k, rfl⟩ : ∃ m, k = m + 1 := ⟨k - 1, by omega⟩
              have HGO := Lib.hid (fun (h : (fun x => ltN A0 x) d[k + 1]! = true) => scanDown_go (p := (fun x => ltN A0 x)) (d := d) hki h)
              have HNO := Lib.hid (fun (h : (fun x => ltN A0 x) d[k + 1]! = false) => scanDown_no (p := (fun x => ltN A0 x)) (d := d) (i := I) (fun _ => h))
              obtain ⟨q, hq⟩ : ∃ q, k + 1 = q := ⟨_, rfl⟩
              have eq1 : (q : Int) - 1 = (k : Int) := by omega
              rw [hq] at HGO HNO HK hki hkj ⊢
              have hkq : k < q := by omega
              clear hq
              have g1 := HS.out.cell (j := q) (by rw [HD.out]; omega)
              have g2 := HS.out.cell (j := a) (by rw [HD.out]; omega)
              rw [HA.out] at g2
              obtain ⟨x, hx⟩ : ∃ x, d[q]! = x := ⟨_, rfl⟩
              rw [hx] at g1 HGO HNO
              clear hx
              have i0 : (0 : Int) ≤ (q : Int) := by omega
              have i1 : (q : Int) < (n : Int) := by omega
              have i2 : (0 : Int) ≤ (a : Int) := by omega
              have i3 : (a : Int) < (n : Int) := by omega
              have i4 : (I : Int) ≤ (q : Int) := by omega
              cases hl : ltN A0 x
              · have HL := Lib.hid (fun w => less_is hl w)
                have HE := Lib.hid (show q = J by rw [← HK.out, HNO.out (by simp [hl])])
                clear hl HGO HNO eq1
                go_wp2_with (go_quiet ((go_at_call 25; exact Calls.quiet_of_same (HL.out _))))
                try go_wp2_with fail
                try go_frame
                go_meet
                exact ⟨by rw [← HE.out], HS.out.drewN _⟩
              · have HL := Lib.hid (fun w => less_is hl w)
                have HE := Lib.hid (show Sort.scanDown (fun x => ltN A0 x) d I k = J by rw [← HK.out, HGO.out (by simp [hl])])
                clear hl HGO HNO
                go_wp2_with (go_quiet ((go_at_call 25; exact Calls.quiet_of_same (HL.out _))))
                go_wp2_with fail
                go_roundw
                case rel => exact ⟨k, by omega, rfl, Lib.hid (HS.out.drewN _), HE⟩
                case measure => simp [intOf]; omega
            · have HE := Lib.hid (show k = J by rw [← HK.out, scanDown_no (fun h => absurd h hki)])
              have i4 : decide ((I : Int) ≤ (k : Int)) = false := decide_eq_false (by omega)
              go_wp2_with (go_quiet (fail))
              try go_wp2_with fail
              try go_frame
              go_meet
              exact ⟨by rw [← HE.out], HS.out.drewN _⟩
        case rest =>
          obtain ⟨rfl, hs⟩ := hcut
          have HS := Lib.hid hs
          clear hs
          by_cases hIJ : J < I
          · have hR : R = (I, d) := by rw [← HR2.out, if_pos hIJ]
            subst hR
            have kij : (J : Int) < (I : Int) := by omega
            go_wp2
            go_ret
            exact ⟨rfl, HS.out⟩
          · have HR3 := Lib.hid (show Sort.partEqLoop ltN a (I + 1) (J - 1) (Sort.swp d I J) = R by rw [← HR2.out, if_neg hIJ])
            have kij : ¬ ((J : Int) < (I : Int)) := by omega
            have hJn : J < n := by omega
            have HA2 := Lib.hid (show (Sort.swp d I J)[a]! = A0 by rw [Sort.swp_other d I J a (by omega) (by omega)]; exact HA.out)
            obtain ⟨J1, hJ1⟩ : ∃ J1, J - 1 = J1 := ⟨_, rfl⟩
            have eJ : (J : Int) - 1 = (J1 : Int) := by omega
            have hJ1n : J1 < n := by omega
            have hms : (J1 + 1 - (I + 1)) < j + 1 - i := by omega
            rw [hJ1] at HR3
            clear HR2 HI HJ hJ1
            have HG := Lib.hid (HS.out.drew.swp (i := I) (j := J) (by rw [HD.out]; omega) (by rw [HD.out]; omega))
            have g1 := HS.out.cell (j := I) (by rw [HD.out]; omega)
            have g2 := HS.out.cell (j := J) (by rw [HD.out]; omega)
            have f1 := HS.out.free I
            have f2 := HS.out.free J
            have HSZ := Lib.hid (show (Sort.swp d I J).size = n by rw [Sort.size_swp]; exact HD.out)
            obtain ⟨zz, g3, f3⟩ := HS.out.second (i := I) (j := J) (by rw [HD.out]; omega) (by rw [HD.out]; omega) d[J]!
            obtain ⟨x, hx⟩ : ∃ x, d[I]! = x := ⟨_, rfl⟩
            obtain ⟨y, hy⟩ : ∃ y, d[J]! = y := ⟨_, rfl⟩
            rw [hx, hy] at HG
            rw [hx] at g1
            rw [hy] at g2 g3 f3
            have i0 : (0 : Int) ≤ (I : Int) := by omega
            have i1 : (I : Int) < (n : Int) := by omega
            have i2 : (0 : Int) ≤ (J : Int) := by omega
            have i3 : (J : Int) < (n : Int) := by omega
            obtain ⟨D2, hnew⟩ : ∃ D, Sort.swp d I J = D := ⟨_, rfl⟩
            rw [hnew] at HG HSZ
            have HNEW := Lib.hid hnew
            clear hx hy hnew
            have HR := Lib.hid (show Sort.partEqLoop ltN a (I + 1) J1 D2 = R by rw [← HNEW.out]; exact HR3.out)
            have HA3 := Lib.hid (show D2[a]! = A0 by rw [← HNEW.out]; exact HA2.out)
            clear HNEW HA2 HR3
            go_wp2_with fail
            go_region
            all_goals
              go_wp2
              go_roundw
              case rel => exact ⟨I + 1, J1, D2, by omega, by omega, hJ1n, by first | rfl | go_num, by first | rfl | rw [eJ], HSZ, Lib.hid HG.out, HA3, HR⟩
              case measure => simp [intOf]; omega

end Go.Proofs.Ytbkhojopiimbdaa
