/-
  slices.Sort of numbers of 64 bits, fifth part: the partition.
-/
import Derived.Test.YtbkhojopiimbdaaWaiSortD
import Derived.Deep.DeepCutAuto
import Derived.Deep.CutBlock
import Derived.Outline
namespace Go.Proofs.Ytbkhojopiimbdaa
open Go.RowKit

/-- The answer of the partition. -/
def Parted (w0 : World) (g : Nat) (rest : List Value) (m : Nat) (d : Array Nat) (e : Ending) (wx : World) : Prop := ∃ ap : Bool, e = .returned (.tuple #[.int .i64 (m : Int), .bool ap]) ∧ SD w0 g rest d wx
set_option maxRecDepth 100000 in
set_option maxHeartbeats 16000000 in
theorem part_any (w0 : World) (g n c a b p : Nat) (rest : List Value) (d : Array Nat) (w : World) (h : SD w0 g rest d w) (hd : d.size = n) (hap : a ≤ p) (hpb : p < b) (hab : a + 1 < b) (hb : b ≤ n) (hn : n ≤ 100000) :
    Calls Try.prog 27 #[.slice (some ⟨g, 0, none⟩) n c, .int .i64 (a : Int), .int .i64 (b : Int), .int .i64 (p : Int)] w fun e w' => Parted w0 g rest (Sort.partition ltN d a b p).1 (Sort.partition ltN d a b p).2.2 e w' := by
  have HS := Lib.hid h
  have HD := Lib.hid hd
  have hpn : p < n := by omega
  have han : a < n := by omega
  obtain ⟨R, hR⟩ : ∃ R, Sort.partLoop ltN a (a + 1) (b - 1) (Sort.swp d a p) = R := ⟨_, rfl⟩
  have HR0 := Lib.hid hR
  have HFIN := Lib.hid (show (Sort.partition ltN d a b p).1 = R.1 ∧ (Sort.partition ltN d a b p).2.2 = Sort.swp R.2 R.1 a by rw [← hR]; exact ⟨Sort.partition_fst ltN d a b p, Sort.partition_arr ltN d a b p⟩)
  have eb : (b : Int) - 1 = ((b - 1 : Nat) : Int) := by omega
  clear hR h hd
  obtain ⟨b1, hb1⟩ : ∃ b1, b - 1 = b1 := ⟨_, rfl⟩
  rw [hb1] at eb HR0
  have hb1n : b1 < n := by omega
  have hab1 : a < b1 := by omega
  clear hb1
  rw [HFIN.out.1, HFIN.out.2]
  clear HFIN
  have HG := Lib.hid (HS.out.drew.swp (i := a) (j := p) (by rw [HD.out]; omega) (by rw [HD.out]; omega))
  have g1 := HS.out.cell (j := a) (by rw [HD.out]; omega)
  have g2 := HS.out.cell (j := p) (by rw [HD.out]; omega)
  have f1 := HS.out.free a
  have f2 := HS.out.free p
  have HSZ := Lib.hid (show (Sort.swp d a p).size = n by rw [Sort.size_swp]; exact HD.out)
  obtain ⟨zz, g3, f3⟩ := HS.out.second (i := a) (j := p) (by rw [HD.out]; omega) (by rw [HD.out]; omega) d[p]!
  obtain ⟨x, hx⟩ : ∃ x, d[a]! = x := ⟨_, rfl⟩
  obtain ⟨y, hy⟩ : ∃ y, d[p]! = y := ⟨_, rfl⟩
  rw [hx, hy] at HG
  rw [hx] at g1
  rw [hy] at g2 g3 f3
  have i0 : (0 : Int) ≤ (a : Int) := by omega
  have i1 : (a : Int) < (n : Int) := by omega
  have i2 : (0 : Int) ≤ (p : Int) := by omega
  have i3 : (p : Int) < (n : Int) := by omega
  obtain ⟨D1, hnew⟩ : ∃ D, Sort.swp d a p = D := ⟨_, rfl⟩
  rw [hnew] at HG HSZ
  have HNEW := Lib.hid hnew
  clear hx hy hnew
  have HR := Lib.hid (show Sort.partLoop ltN a (a + 1) b1 D1 = R by rw [← HNEW.out]; exact HR0.out)
  obtain ⟨A0, hA0⟩ : ∃ A0, D1[a]! = A0 := ⟨_, rfl⟩
  have HA := Lib.hid hA0
  clear hA0 HR0 HNEW
  go_enter Try.func27, Try.ntmps27
  go_wp2_with fail
  go_region
  all_goals
    clear g1 g2 g3 f1 f2 f3 i0 i1 i2 i3 HS HD
    have HS := Lib.hid HG.out
    have HD := Lib.hid HSZ.out
    clear HG HSZ
    obtain ⟨I, hI⟩ : ∃ I, Sort.scanUp (fun x => ltN x A0) D1 b1 (a + 1) = I := ⟨_, rfl⟩
    obtain ⟨J, hJ⟩ : ∃ J, Sort.scanDown (fun x => !ltN x A0) D1 I b1 = J := ⟨_, rfl⟩
    have HR2 := Lib.hid (show (if I > J then (J, D1) else Sort.partLoop ltN a (I + 1) (J - 1) (Sort.swp D1 I J)) = R by
      have h5 := Sort.partLoop_eq ltN a (a + 1) b1 D1
      rw [HA.out, hI, hJ] at h5
      rw [← h5]; exact HR.out)
    have hiI : (a + 1) ≤ I := by rw [← hI]; exact Sort.scanUp_ge _ _ _ _
    have hJj : J ≤ b1 := by rw [← hJ]; exact Sort.scanDown_le _ _ _ _
    have HI := Lib.hid hI
    have HJ := Lib.hid hJ
    clear hI hJ HR
    go_upto_block 0 with fail
    go_cut [10] (fun s wx => ScanAt w0 g rest D1 I s wx)
    case first =>
      go_wp2_with fail
      go_loopw [10] (fun s wr => ∃ (k : Nat), (a + 1) ≤ k ∧ k ≤ n ∧ s = .int .i64 k ∧ Hid (SD w0 g rest D1 wr) ∧ Hid (Sort.scanUp (fun x => ltN x A0) D1 b1 k = I)) (fun s _ => n + 1 - (intOf s).toNat)
      case atStart => exact ⟨(a + 1), Nat.le_refl _, by omega, by first | rfl | go_num, HS, HI⟩
      case round =>
        obtain ⟨k, hik, hkn, rfl, HS, HK⟩ := hrel
        by_cases hkj : k ≤ b1
        · have g1 := HS.out.cell (j := k) (by rw [HD.out]; omega)
          have g2 := HS.out.cell (j := a) (by rw [HD.out]; omega)
          have HGO := Lib.hid (fun (h : (fun x => ltN x A0) D1[k]! = true) => scanUp_go (p := (fun x => ltN x A0)) (d := D1) hkj h)
          have HNO := Lib.hid (fun (h : (fun x => ltN x A0) D1[k]! = false) => scanUp_no (p := (fun x => ltN x A0)) (d := D1) (j := b1) (fun _ => h))
          rw [HA.out] at g2
          obtain ⟨x, hx⟩ : ∃ x, D1[k]! = x := ⟨_, rfl⟩
          rw [hx] at g1 HGO HNO
          clear hx
          have i0 : (0 : Int) ≤ (k : Int) := by omega
          have i1 : (k : Int) < (n : Int) := by omega
          have i2 : (0 : Int) ≤ (a : Int) := by omega
          have i3 : (a : Int) < (n : Int) := by omega
          have i4 : (k : Int) ≤ (b1 : Int) := by omega
          cases hl : ltN x A0
          · have HL := Lib.hid (fun w => less_is hl w)
            have HE := Lib.hid (show k = I by rw [← HK.out, HNO.out (by simp [hl])])
            clear hl HGO HNO
            go_wp2_with (go_quiet ((go_at_call 25; exact Calls.quiet_of_same (HL.out _))))
            try go_wp2_with fail
            try go_frame
            go_meet
            exact ⟨by rw [← HE.out], HS.out.drewN _⟩
          · have HL := Lib.hid (fun w => less_is hl w)
            have HE := Lib.hid (show Sort.scanUp (fun x => ltN x A0) D1 b1 (k + 1) = I by rw [← HK.out, HGO.out (by simp [hl])])
            clear hl HGO HNO
            go_wp2_with (go_quiet ((go_at_call 25; exact Calls.quiet_of_same (HL.out _))))
            go_wp2_with fail
            go_roundw
            case rel => exact ⟨k + 1, by omega, by omega, by go_num, Lib.hid (HS.out.drewN _), HE⟩
            case measure => simp [intOf]; omega
        · have HE := Lib.hid (show k = I by rw [← HK.out, scanUp_no (fun h => absurd h hkj)])
          have i4 : decide ((k : Int) ≤ (b1 : Int)) = false := decide_eq_false (by omega)
          go_wp2_with (go_quiet (fail))
          try go_wp2_with fail
          try go_frame
          go_meet
          exact ⟨by rw [← HE.out], HS.out.drewN _⟩
    case rest =>
      obtain ⟨rfl, hs⟩ := hcut
      have HS := Lib.hid hs
      clear hs
      go_upto_block 2 with fail
      go_cut [11] (fun s wx => ScanAt w0 g rest D1 J s wx)
      case first =>
        go_wp2_with fail
        go_loopw [11] (fun s wr => ∃ (k : Nat), k ≤ b1 ∧ s = .int .i64 k ∧ Hid (SD w0 g rest D1 wr) ∧ Hid (Sort.scanDown (fun x => !ltN x A0) D1 I k = J)) (fun s _ => (intOf s).toNat)
        case atStart => exact ⟨b1, Nat.le_refl _, by first | rfl | go_num, HS, HJ⟩
        case round =>
          obtain ⟨k, hkj, rfl, HS, HK⟩ := hrel
          by_cases hki : I ≤ k
          · obtain ⟨k, rfl⟩ : ∃ m, k = m + 1 := ⟨k - 1, by omega⟩
            have HGO := Lib.hid (fun (h : (fun x => !ltN x A0) D1[k + 1]! = true) => scanDown_go (p := (fun x => !ltN x A0)) (d := D1) hki h)
            have HNO := Lib.hid (fun (h : (fun x => !ltN x A0) D1[k + 1]! = false) => scanDown_no (p := (fun x => !ltN x A0)) (d := D1) (i := I) (fun _ => h))
            obtain ⟨q, hq⟩ : ∃ q, k + 1 = q := ⟨_, rfl⟩
            have eq1 : (q : Int) - 1 = (k : Int) := by omega
            rw [hq] at HGO HNO HK hki hkj ⊢
            have hkq : k < q := by omega
            clear hq
            have g1 := HS.out.cell (j := q) (by rw [HD.out]; omega)
            have g2 := HS.out.cell (j := a) (by rw [HD.out]; omega)
            rw [HA.out] at g2
            obtain ⟨x, hx⟩ : ∃ x, D1[q]! = x := ⟨_, rfl⟩
            rw [hx] at g1 HGO HNO
            clear hx
            have i0 : (0 : Int) ≤ (q : Int) := by omega
            have i1 : (q : Int) < (n : Int) := by omega
            have i2 : (0 : Int) ≤ (a : Int) := by omega
            have i3 : (a : Int) < (n : Int) := by omega
            have i4 : (I : Int) ≤ (q : Int) := by omega
            cases hl : ltN x A0
            · have HL := Lib.hid (fun w => less_is hl w)
              have HE := Lib.hid (show Sort.scanDown (fun x => !ltN x A0) D1 I k = J by rw [← HK.out, HGO.out (by simp [hl])])
              clear hl HGO HNO
              go_wp2_with (go_quiet ((go_at_call 25; exact Calls.quiet_of_same (HL.out _))))
              go_wp2_with fail
              go_roundw
              case rel => exact ⟨k, by omega, rfl, Lib.hid (HS.out.drewN _), HE⟩
              case measure => simp [intOf]; omega
            · have HL := Lib.hid (fun w => less_is hl w)
              have HE := Lib.hid (show q = J by rw [← HK.out, HNO.out (by simp [hl])])
              clear hl HGO HNO eq1
              go_wp2_with (go_quiet ((go_at_call 25; exact Calls.quiet_of_same (HL.out _))))
              try go_wp2_with fail
              try go_frame
              go_meet
              exact ⟨by rw [← HE.out], HS.out.drewN _⟩
          · have HE := Lib.hid (show k = J by rw [← HK.out, scanDown_no (fun h => absurd h hki)])
            have i4 : decide ((I : Int) ≤ (k : Int)) = false := decide_eq_false (by omega)
            go_wp2_with (go_quiet (fail))
            try go_wp2_with fail
            try go_frame
            go_meet
            exact ⟨by rw [← HE.out], HS.out.drewN _⟩
      case rest =>
        obtain ⟨rfl, hs⟩ := hcut
        have HS := Lib.hid hs
        clear hs
        by_cases hIJ : J < I
        · have hR : R = (J, D1) := by rw [← HR2.out, if_pos hIJ]
          subst hR
          have kij : (J : Int) < (I : Int) := by omega
          have hJn : J < n := by omega
          clear HR2 HI HJ
          have HG := Lib.hid (HS.out.drew.swp (i := J) (j := a) (by rw [HD.out]; omega) (by rw [HD.out]; omega))
          have g1 := HS.out.cell (j := J) (by rw [HD.out]; omega)
          have g2 := HS.out.cell (j := a) (by rw [HD.out]; omega)
          have f1 := HS.out.free J
          have f2 := HS.out.free a
          have HSZ := Lib.hid (show (Sort.swp D1 J a).size = n by rw [Sort.size_swp]; exact HD.out)
          obtain ⟨zz, g3, f3⟩ := HS.out.second (i := J) (j := a) (by rw [HD.out]; omega) (by rw [HD.out]; omega) D1[a]!
          obtain ⟨x, hx⟩ : ∃ x, D1[J]! = x := ⟨_, rfl⟩
          obtain ⟨y, hy⟩ : ∃ y, D1[a]! = y := ⟨_, rfl⟩
          rw [hx, hy] at HG
          rw [hx] at g1
          rw [hy] at g2 g3 f3
          have i0 : (0 : Int) ≤ (J : Int) := by omega
          have i1 : (J : Int) < (n : Int) := by omega
          have i2 : (0 : Int) ≤ (a : Int) := by omega
          have i3 : (a : Int) < (n : Int) := by omega
          obtain ⟨D2, hnew⟩ : ∃ D, Sort.swp D1 J a = D := ⟨_, rfl⟩
          rw [hnew] at HG HSZ
          have HNEW := Lib.hid hnew
          clear hx hy hnew
          go_wp2_with fail
          go_region
          all_goals
            go_wp2
            go_ret2
            exact ⟨true, rfl, by rw [HNEW.out]; exact HG.out⟩
        · have HR3 := Lib.hid (show Sort.partLoop ltN a (I + 1) (J - 1) (Sort.swp D1 I J) = R by rw [← HR2.out, if_neg hIJ])
          have kij : ¬ ((J : Int) < (I : Int)) := by omega
          have hJn : J < n := by omega
          have HA2 := Lib.hid (show (Sort.swp D1 I J)[a]! = A0 by rw [Sort.swp_other D1 I J a (by omega) (by omega)]; exact HA.out)
          obtain ⟨J1, hJ1⟩ : ∃ J1, J - 1 = J1 := ⟨_, rfl⟩
          have eJ : (J : Int) - 1 = (J1 : Int) := by omega
          have hJ1n : J1 < n := by omega
          rw [hJ1] at HR3
          clear HR2 HI HJ HA hJ1
          have HG := Lib.hid (HS.out.drew.swp (i := I) (j := J) (by rw [HD.out]; omega) (by rw [HD.out]; omega))
          have g1 := HS.out.cell (j := I) (by rw [HD.out]; omega)
          have g2 := HS.out.cell (j := J) (by rw [HD.out]; omega)
          have f1 := HS.out.free I
          have f2 := HS.out.free J
          have HSZ := Lib.hid (show (Sort.swp D1 I J).size = n by rw [Sort.size_swp]; exact HD.out)
          obtain ⟨zz, g3, f3⟩ := HS.out.second (i := I) (j := J) (by rw [HD.out]; omega) (by rw [HD.out]; omega) D1[J]!
          obtain ⟨x, hx⟩ : ∃ x, D1[I]! = x := ⟨_, rfl⟩
          obtain ⟨y, hy⟩ : ∃ y, D1[J]! = y := ⟨_, rfl⟩
          rw [hx, hy] at HG
          rw [hx] at g1
          rw [hy] at g2 g3 f3
          have i0 : (0 : Int) ≤ (I : Int) := by omega
          have i1 : (I : Int) < (n : Int) := by omega
          have i2 : (0 : Int) ≤ (J : Int) := by omega
          have i3 : (J : Int) < (n : Int) := by omega
          obtain ⟨D2, hnew⟩ : ∃ D, Sort.swp D1 I J = D := ⟨_, rfl⟩
          rw [hnew] at HG HSZ
          have HNEW := Lib.hid hnew
          clear hx hy hnew
          have HR := Lib.hid (show Sort.partLoop ltN a (I + 1) J1 D2 = R by rw [← HNEW.out]; exact HR3.out)
          have HA := Lib.hid (show D2[a]! = A0 by rw [← HNEW.out]; exact HA2.out)
          clear HNEW HA2 HR3
          go_wp2_with fail
          go_region
          all_goals
            clear g1 g2 g3 f1 f2 f3 i0 i1 i2 i3 HS HD
            have HS := Lib.hid HG.out
            have HD := Lib.hid HSZ.out
            clear HG HSZ
            go_wp2_with fail
            go_loopw [10, 11] (fun s t wr => ∃ (i j : Nat) (d : Array Nat), a + 1 ≤ i ∧ i ≤ n ∧ j < n ∧ s = .int .i64 i ∧ t = .int .i64 j ∧ Hid (d.size = n) ∧ Hid (SD w0 g rest d wr) ∧ Hid (d[a]! = A0) ∧ Hid (Sort.partLoop ltN a i j d = R)) (fun s t _ => (intOf t + 1 - intOf s).toNat)
            case atStart => exact ⟨I + 1, J1, D2, by omega, by omega, hJ1n, by first | rfl | go_num, by first | rfl | rw [eJ], HD, HS, HA, HR⟩
            case round =>
              clear HA HR eJ hJ1n kij hIJ
              obtain ⟨i, j, d, hai, hin, hjn, rfl, rfl, HD, HS, HA, HR⟩ := hrel
              obtain ⟨I, hI⟩ : ∃ I, Sort.scanUp (fun x => ltN x A0) d j i = I := ⟨_, rfl⟩
              obtain ⟨J, hJ⟩ : ∃ J, Sort.scanDown (fun x => !ltN x A0) d I j = J := ⟨_, rfl⟩
              have HR2 := Lib.hid (show (if I > J then (J, d) else Sort.partLoop ltN a (I + 1) (J - 1) (Sort.swp d I J)) = R by
                have h5 := Sort.partLoop_eq ltN a i j d
                rw [HA.out, hI, hJ] at h5
                rw [← h5]; exact HR.out)
              have hiI : i ≤ I := by rw [← hI]; exact Sort.scanUp_ge _ _ _ _
              have hJj : J ≤ j := by rw [← hJ]; exact Sort.scanDown_le _ _ _ _
              have HI := Lib.hid hI
              have HJ := Lib.hid hJ
              clear hI hJ HR
              go_upto_block 6 with fail
              go_cut [10] (fun s wx => ScanAt w0 g rest d I s wx)
              case first =>
                go_wp2_with fail
                go_loopw [10] (fun s wr => ∃ (k : Nat), i ≤ k ∧ k ≤ n ∧ s = .int .i64 k ∧ Hid (SD w0 g rest d wr) ∧ Hid (Sort.scanUp (fun x => ltN x A0) d j k = I)) (fun s _ => n + 1 - (intOf s).toNat)
                case atStart => exact ⟨i, Nat.le_refl _, by omega, by first | rfl | go_num, HS, HI⟩
                case round =>
                  obtain ⟨k, hik, hkn, rfl, HS, HK⟩ := hrel
                  by_cases hkj : k ≤ j
                  · have g1 := HS.out.cell (j := k) (by rw [HD.out]; omega)
                    have g2 := HS.out.cell (j := a) (by rw [HD.out]; omega)
                    have HGO := Lib.hid (fun (h : (fun x => ltN x A0) d[k]! = true) => scanUp_go (p := (fun x => ltN x A0)) (d := d) hkj h)
                    have HNO := Lib.hid (fun (h : (fun x => ltN x A0) d[k]! = false) => scanUp_no (p := (fun x => ltN x A0)) (d := d) (j := j) (fun _ => h))
                    rw [HA.out] at g2
                    obtain ⟨x, hx⟩ : ∃ x, d[k]! = x := ⟨_, rfl⟩
                    rw [hx] at g1 HGO HNO
                    clear hx
                    have i0 : (0 : Int) ≤ (k : Int) := by omega
                    have i1 : (k : Int) < (n : Int) := by omega
                    have i2 : (0 : Int) ≤ (a : Int) := by omega
                    have i3 : (a : Int) < (n : Int) := by omega
                    have i4 : (k : Int) ≤ (j : Int) := by omega
                    cases hl : ltN x A0
                    · have HL := Lib.hid (fun w => less_is hl w)
                      have HE := Lib.hid (show k = I by rw [← HK.out, HNO.out (by simp [hl])])
                      clear hl HGO HNO
                      go_wp2_with (go_quiet ((go_at_call 25; exact Calls.quiet_of_same (HL.out _))))
                      try go_wp2_with fail
                      try go_frame
                      go_meet
                      exact ⟨by rw [← HE.out], HS.out.drewN _⟩
                    · have HL := Lib.hid (fun w => less_is hl w)
                      have HE := Lib.hid (show Sort.scanUp (fun x => ltN x A0) d j (k + 1) = I by rw [← HK.out, HGO.out (by simp [hl])])
                      clear hl HGO HNO
                      go_wp2_with (go_quiet ((go_at_call 25; exact Calls.quiet_of_same (HL.out _))))
                      go_wp2_with fail
                      go_roundw
                      case rel => exact ⟨k + 1, by omega, by omega, by go_num, Lib.hid (HS.out.drewN _), HE⟩
                      case measure => simp [intOf]; omega
                  · have HE := Lib.hid (show k = I by rw [← HK.out, scanUp_no (fun h => absurd h hkj)])
                    have i4 : decide ((k : Int) ≤ (j : Int)) = false := decide_eq_false (by omega)
                    go_wp2_with (go_quiet (fail))
                    try go_wp2_with fail
                    try go_frame
                    go_meet
                    exact ⟨by rw [← HE.out], HS.out.drewN _⟩
              case rest =>
                obtain ⟨rfl, hs⟩ := hcut
                have HS := Lib.hid hs
                clear hs
                go_upto_block 8 with fail
                go_cut [11] (fun s wx => ScanAt w0 g rest d J s wx)
                case first =>
                  go_wp2_with fail
                  go_loopw [11] (fun s wr => ∃ (k : Nat), k ≤ j ∧ s = .int .i64 k ∧ Hid (SD w0 g rest d wr) ∧ Hid (Sort.scanDown (fun x => !ltN x A0) d I k = J)) (fun s _ => (intOf s).toNat)
                  case atStart => exact ⟨j, Nat.le_refl _, by first | rfl | go_num, HS, HJ⟩
                  case round =>
                    obtain ⟨k, hkj, rfl, HS, HK⟩ := hrel
                    by_cases hki : I ≤ k
                    · obtain ⟨k, rfl⟩ : ∃ m, k = m + 1 := ⟨k - 1, by omega⟩
                      have HGO := Lib.hid (fun (h : (fun x => !ltN x A0) d[k + 1]! = true) => scanDown_go (p := (fun x => !ltN x A0)) (d := d) hki h)
                      have HNO := Lib.hid (fun (h : (fun x => !ltN x A0) d[k + 1]! = false) => scanDown_no (p := (fun x => !ltN x A0)) (d := d) (i := I) (fun _ => h))
                      obtain ⟨q, hq⟩ : ∃ q, k + 1 = q := ⟨_, rfl⟩
                      have eq1 : (q : Int) - 1 = (k : Int) := by omega
                      rw [hq] at HGO HNO HK hki hkj ⊢
                      have hkq : k < q := by omega
                      clear hq
                      have g1 := HS.out.cell (j := q) (by rw [HD.out]; omega)
                      have g2 := HS.out.cell (j := a) (by rw [HD.out]; omega)
                      rw [HA.out] at g2
                      obtain ⟨x, hx⟩ : ∃ x, d[q]! = x := ⟨_, rfl⟩
                      rw [hx] at g1 HGO HNO
                      clear hx
                      have i0 : (0 : Int) ≤ (q : Int) := by omega
                      have i1 : (q : Int) < (n : Int) := by omega
                      have i2 : (0 : Int) ≤ (a : Int) := by omega
                      have i3 : (a : Int) < (n : Int) := by omega
                      have i4 : (I : Int) ≤ (q : Int) := by omega
                      cases hl : ltN x A0
                      · have HL := Lib.hid (fun w => less_is hl w)
                        have HE := Lib.hid (show Sort.scanDown (fun x => !ltN x A0) d I k = J by rw [← HK.out, HGO.out (by simp [hl])])
                        clear hl HGO HNO
                        go_wp2_with (go_quiet ((go_at_call 25; exact Calls.quiet_of_same (HL.out _))))
                        go_wp2_with fail
                        go_roundw
                        case rel => exact ⟨k, by omega, rfl, Lib.hid (HS.out.drewN _), HE⟩
                        case measure => simp [intOf]; omega
                      · have HL := Lib.hid (fun w => less_is hl w)
                        have HE := Lib.hid (show q = J by rw [← HK.out, HNO.out (by simp [hl])])
                        clear hl HGO HNO eq1
                        go_wp2_with (go_quiet ((go_at_call 25; exact Calls.quiet_of_same (HL.out _))))
                        try go_wp2_with fail
                        try go_frame
                        go_meet
                        exact ⟨by rw [← HE.out], HS.out.drewN _⟩
                    · have HE := Lib.hid (show k = J by rw [← HK.out, scanDown_no (fun h => absurd h hki)])
                      have i4 : decide ((I : Int) ≤ (k : Int)) = false := decide_eq_false (by omega)
                      go_wp2_with (go_quiet (fail))
                      try go_wp2_with fail
                      try go_frame
                      go_meet
                      exact ⟨by rw [← HE.out], HS.out.drewN _⟩
                case rest =>
                  obtain ⟨rfl, hs⟩ := hcut
                  have HS := Lib.hid hs
                  clear hs
                  by_cases hIJ : J < I
                  · have hR : R = (J, d) := by rw [← HR2.out, if_pos hIJ]
                    subst hR
                    have kij : (J : Int) < (I : Int) := by omega
                    have hJn : J < n := by omega
                    clear HR2 HI HJ
                    have HG := Lib.hid (HS.out.drew.swp (i := J) (j := a) (by rw [HD.out]; omega) (by rw [HD.out]; omega))
                    have g1 := HS.out.cell (j := J) (by rw [HD.out]; omega)
                    have g2 := HS.out.cell (j := a) (by rw [HD.out]; omega)
                    have f1 := HS.out.free J
                    have f2 := HS.out.free a
                    have HSZ := Lib.hid (show (Sort.swp d J a).size = n by rw [Sort.size_swp]; exact HD.out)
                    obtain ⟨zz, g3, f3⟩ := HS.out.second (i := J) (j := a) (by rw [HD.out]; omega) (by rw [HD.out]; omega) d[a]!
                    obtain ⟨x, hx⟩ : ∃ x, d[J]! = x := ⟨_, rfl⟩
                    obtain ⟨y, hy⟩ : ∃ y, d[a]! = y := ⟨_, rfl⟩
                    rw [hx, hy] at HG
                    rw [hx] at g1
                    rw [hy] at g2 g3 f3
                    have i0 : (0 : Int) ≤ (J : Int) := by omega
                    have i1 : (J : Int) < (n : Int) := by omega
                    have i2 : (0 : Int) ≤ (a : Int) := by omega
                    have i3 : (a : Int) < (n : Int) := by omega
                    obtain ⟨D3, hnew⟩ : ∃ D, Sort.swp d J a = D := ⟨_, rfl⟩
                    rw [hnew] at HG HSZ
                    have HNEW := Lib.hid hnew
                    clear hx hy hnew
                    go_wp2_with fail
                    go_region
                    all_goals
                      go_wp2
                      go_ret2
                      exact ⟨false, rfl, by rw [HNEW.out]; exact HG.out⟩
                  · have HR3 := Lib.hid (show Sort.partLoop ltN a (I + 1) (J - 1) (Sort.swp d I J) = R by rw [← HR2.out, if_neg hIJ])
                    have kij : ¬ ((J : Int) < (I : Int)) := by omega
                    have hJn : J < n := by omega
                    have HA2 := Lib.hid (show (Sort.swp d I J)[a]! = A0 by rw [Sort.swp_other d I J a (by omega) (by omega)]; exact HA.out)
                    obtain ⟨J1, hJ1⟩ : ∃ J1, J - 1 = J1 := ⟨_, rfl⟩
                    have eJ : (J : Int) - 1 = (J1 : Int) := by omega
                    have hJ1n : J1 < n := by omega
                    have hms : (J1 + 1 - (I + 1)) < j + 1 - i := by omega
                    rw [hJ1] at HR3
                    clear HR2 HI HJ hJ1
                    have HG := Lib.hid (HS.out.drew.swp (i := I) (j := J) (by rw [HD.out]; omega) (by rw [HD.out]; omega))
                    have g1 := HS.out.cell (j := I) (by rw [HD.out]; omega)
                    have g2 := HS.out.cell (j := J) (by rw [HD.out]; omega)
                    have f1 := HS.out.free I
                    have f2 := HS.out.free J
                    have HSZ := Lib.hid (show (Sort.swp d I J).size = n by rw [Sort.size_swp]; exact HD.out)
                    obtain ⟨zz, g3, f3⟩ := HS.out.second (i := I) (j := J) (by rw [HD.out]; omega) (by rw [HD.out]; omega) d[J]!
                    obtain ⟨x, hx⟩ : ∃ x, d[I]! = x := ⟨_, rfl⟩
                    obtain ⟨y, hy⟩ : ∃ y, d[J]! = y := ⟨_, rfl⟩
                    rw [hx, hy] at HG
                    rw [hx] at g1
                    rw [hy] at g2 g3 f3
                    have i0 : (0 : Int) ≤ (I : Int) := by omega
                    have i1 : (I : Int) < (n : Int) := by omega
                    have i2 : (0 : Int) ≤ (J : Int) := by omega
                    have i3 : (J : Int) < (n : Int) := by omega
                    obtain ⟨D2, hnew⟩ : ∃ D, Sort.swp d I J = D := ⟨_, rfl⟩
                    rw [hnew] at HG HSZ
                    have HNEW := Lib.hid hnew
                    clear hx hy hnew
                    have HR := Lib.hid (show Sort.partLoop ltN a (I + 1) J1 D2 = R by rw [← HNEW.out]; exact HR3.out)
                    have HA3 := Lib.hid (show D2[a]! = A0 by rw [← HNEW.out]; exact HA2.out)
                    clear HNEW HA2 HR3
                    go_wp2_with fail
                    go_region
                    all_goals
                      go_wp2
                      go_roundw
                      case rel => exact ⟨I + 1, J1, D2, by omega, by omega, hJ1n, by first | rfl | go_num, by first | rfl | rw [eJ], HSZ, Lib.hid HG.out, HA3, HR⟩
                      case measure => simp [intOf]; omega

end Go.Proofs.Ytbkhojopiimbdaa
