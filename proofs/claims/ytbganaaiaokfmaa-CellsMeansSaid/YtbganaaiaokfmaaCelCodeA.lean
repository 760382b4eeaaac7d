/-
  The code's cells: size, isShort, Size, Right.
-/
import Derived.Test.YtbganaaiaokfmaaCelHold
namespace Go.Proofs.Ytbganaaiaokfmaa
open Go.RowKit

theorem below_drew_c {B : Nat} {w w' : World} (h : Below B w w') : Below B w w'.drew := ⟨h.os, h.tape, h.output, h.size, h.block⟩

set_option maxRecDepth 100000 in
theorem kshort_any (k v : ByteArray) (w : World) : Calls Try.prog 29 #[.agg #[.string k, .string v]] w fun e w' => e = .returned (.bool (fitC (cel (k, v)))) ∧ Below w.heap.size w w' := by
  have e0 : fitC (cel (k, v)) = (decide (k.size ≤ 513) && decide (v.size ≤ 2048)) := by
    unfold fitC cel
    simp only [len_size]
  rw [e0]
  by_cases h1 : k.size ≤ 513
  · by_cases h2 : v.size ≤ 2048
    · rw [decide_eq_true h1, decide_eq_true h2]
      have g1 : (k.size : Int) ≤ 513 := by omega
      have g2 : (v.size : Int) ≤ 2048 := by omega
      go_enter Try.func29, Try.ntmps29
      go_wp2
      go_ret
      exact ⟨by first | rfl | simp [g1, g2], (Below.refl _ _).alloc (Nat.le_refl _) _⟩
    · rw [decide_eq_true h1, decide_eq_false h2]
      have g1 : (k.size : Int) ≤ 513 := by omega
      have g2 : ¬ (v.size : Int) ≤ 2048 := by omega
      go_enter Try.func29, Try.ntmps29
      go_wp2
      go_ret
      exact ⟨by first | rfl | simp [g2], (Below.refl _ _).alloc (Nat.le_refl _) _⟩
  · rw [decide_eq_false h1, Bool.false_and]
    have g1 : ¬ (k.size : Int) ≤ 513 := by omega
    go_enter Try.func29, Try.ntmps29
    go_wp2
    go_ret
    exact ⟨by first | rfl | simp [g1], (Below.refl _ _).alloc (Nat.le_refl _) _⟩

set_option maxRecDepth 100000 in
theorem ksz_any (k v : ByteArray) (w : World) : Calls Try.prog 28 #[.agg #[.string k, .string v]] w fun e w' => e = .returned (.int .i64 (IntKind.i64.wrap (4 + k.size + v.size : Int))) ∧ Below w.heap.size w w' := by
  obtain ⟨t1, hw1⟩ : ∃ t1, IntKind.i64.wrap (2 + (k.size : Int)) = t1 := ⟨_, rfl⟩
  obtain ⟨t2, hw2⟩ : ∃ t2, IntKind.i64.wrap (t1 + 2) = t2 := ⟨_, rfl⟩
  obtain ⟨t3, hw3⟩ : ∃ t3, IntKind.i64.wrap (t2 + (v.size : Int)) = t3 := ⟨_, rfl⟩
  have HE := Lib.hid (show IntKind.i64.wrap (4 + k.size + v.size : Int) = t3 by
    rw [← hw3, ← hw2, ← hw1]
    rw [wrap_add (2 + (k.size : Int)) 2, wrap_add (2 + (k.size : Int) + 2) v.size]
    congr 1
    omega)
  rw [HE.out]
  clear HE
  go_enter Try.func28, Try.ntmps28
  go_wp2
  go_ret
  exact ⟨rfl, (Below.refl _ _).alloc (Nat.le_refl _) _⟩

set_option maxRecDepth 100000 in
set_option maxHeartbeats 2000000 in
theorem kSize_any (A : Option Addr) (n c : Nat) (l : List CB) (w : World) (hl : Cels w A l) (hn : l.length = n) (hnb : n ≤ 9223372036854775807) : Calls Try.prog 15 #[.slice A n c] w fun e w' => e = .returned (.int .i64 (IntKind.i64.wrap (sizeC (cels l) : Int))) ∧ Below w.heap.size w w' := by
  have HL := Lib.hid hl
  have HST := Lib.hid (fun k (hk : k < l.length) => show sizeC ((cels l).take (k + 1)) = sizeC ((cels l).take k) + 4 + l[k].1.size + l[k].2.size by
    rw [size_take _ _ (by rw [cels_length]; exact hk), cels_get _ _ hk]
    show _ + 4 + (l[k].1.toList).length + (l[k].2.toList).length = _
    rw [len_size, len_size])
  have HE := Lib.hid (show sizeC ((cels l).take n) = sizeC (cels l) by rw [List.take_of_length_le (by rw [cels_length]; omega)])
  have HB0 := Lib.hid (Below.refl w.heap.size w)
  have HSZ := Lib.hid ksz_any
  have nI : (n : Int) ≤ 9223372036854775807 := by omega
  have HHN := Lib.hid (fun _ : Unit => hn)
  clear hl hn hnb
  go_enter Try.func15, Try.ntmps15
  go_wp2_with fail
  go_loopw [3, 8] (fun s i wr => ∃ (k : Nat) (t : Int), k ≤ n ∧ i = .int .i64 (k : Int) ∧ s = .int .i64 t ∧ Hid (t = IntKind.i64.wrap (sizeC ((cels l).take k) : Int)) ∧ Hid (Below w.heap.size w wr)) (fun _ i _ => n - (intOf i).toNat)
  case atStart => exact ⟨0, 0, Nat.zero_le _, rfl, rfl, Lib.hid (by rw [List.take_zero]; decide), HB0⟩
  case round =>
    obtain ⟨k, t, hk, rfl, rfl, Ht, HBk⟩ := hrel
    by_cases hlt : k < n
    · have hkI : (k : Int) < (n : Int) := by omega
      have hkl : k < l.length := by have := HHN.out (); omega
      obtain ⟨g, off, rfl, HC⟩ := HL.out.at_ hkl
      have hst := HST.out k hkl
      obtain ⟨key, hkey⟩ : ∃ key, l[k].1 = key := ⟨_, rfl⟩
      obtain ⟨val, hval⟩ : ∃ val, l[k].2 = val := ⟨_, rfl⟩
      have HCk := Lib.hid (HC.out k hkl)
      rw [hkey, hval] at HCk
      rw [hkey, hval] at hst
      obtain ⟨c0, c1⟩ := HCk.out wr HBk.out
      obtain ⟨o, ho⟩ : ∃ o, wr.alloc (.cells #[.string key, .string val] 38) = o := ⟨_, rfl⟩
      have HBo := Lib.hid (show Below w.heap.size w o from ho ▸ HBk.out.alloc HBk.out.size _)
      have hRo : Row o wr.heap.size 38 [.string key, .string val] (0, 0) := ho ▸ Row.new wr 38 [.string key, .string val] (0, 0)
      have o0 : o.cell? ⟨wr.heap.size, 0, none⟩ = some (.string key) := by rw [hRo.cell]; rfl
      have o1 : o.cell? ⟨wr.heap.size, 1, none⟩ = some (.string val) := by rw [hRo.cell]; rfl
      have HZ := Lib.hid (HSZ.out key val o)
      obtain ⟨u, hu⟩ : ∃ u, IntKind.i64.wrap (4 + key.size + val.size : Int) = u := ⟨_, rfl⟩
      rw [hu] at HZ
      obtain ⟨t3, hw3⟩ : ∃ t3, IntKind.i64.wrap (t + u) = t3 := ⟨_, rfl⟩
      have HSN := Lib.hid (show t3 = IntKind.i64.wrap (sizeC ((cels l).take (k + 1)) : Int) by
        rw [hst, ← hw3, ← hu, Ht.out, wrap_add, Int.add_comm, wrap_add]
        congr 1
        omega)
      clear HL HST HE HB0 hst HHN HC HCk hkey hval Ht hkl hRo HSZ hu
      go_wp2_with fail
      refine HZ.out.mono ?_
      rintro e w1 ⟨rfl, hb1⟩
      have HB1 := Lib.hid (HBo.out.trans (hb1.mono HBo.out.size))
      clear hb1 HZ
      go_wp2_with fail
      go_roundw
      case rel => exact ⟨k + 1, t3, by omega, by go_num, rfl, HSN, HB1⟩
      case measure => simp [intOf]; omega
    · have hkI : ¬ (k : Int) < (n : Int) := by omega
      obtain rfl : k = n := by omega
      have HT := Lib.hid (show t = IntKind.i64.wrap (sizeC (cels l) : Int) by rw [Ht.out, HE.out])
      clear HL HST HE HB0 HHN Ht HSZ
      go_wp2_with fail
      go_ret
      exact ⟨by rw [← HT.out]; rfl, HBk.out⟩

set_option maxRecDepth 100000 in
set_option maxHeartbeats 4000000 in
theorem kright_any (A : Option Addr) (n c : Nat) (l : List CB) (w : World) (hl : Cels w A l) (hn : l.length = n) (hnb : n ≤ 1000000) : Calls Try.prog 13 #[.slice A n c] w fun e w' => e = .returned (.bool (rgtB (cels l))) ∧ Below w.heap.size w w' := by
  have HL := Lib.hid hl
  have HST := Lib.hid (fun k (hk : k < l.length) (h : Rgt ((cels l).take k)) => show Rgt ((cels l).take (k + 1)) ↔ fitC (cel l[k]) = true ∧ (0 < k → ble (l[k]).1.toList (l[k - 1]'(Nat.lt_of_le_of_lt (Nat.sub_le _ _) hk)).1.toList = false) by
    have hk' : k < (cels l).length := by rw [cels_length]; exact hk
    rw [rgt_step hk' h, cels_get l k hk, cels_get l (k - 1) (Nat.lt_of_le_of_lt (Nat.sub_le _ _) hk)]
    rfl)
  have HNO := Lib.hid (fun k (h : ¬ Rgt ((cels l).take k)) => rgtB_no h)
  have HE := Lib.hid (fun h : Rgt ((cels l).take n) => show rgtB (cels l) = true by
    rw [List.take_of_length_le (by rw [cels_length]; omega)] at h
    exact decide_eq_true h)
  have HB0 := Lib.hid (Below.refl w.heap.size w)
  have HF := Lib.hid (fun (k v : ByteArray) wx => kshort_any k v wx)
  have nI : (n : Int) ≤ 1000000 := by omega
  have HHN := Lib.hid (fun _ : Unit => hn)
  have HR0 := Lib.hid (show Rgt ((cels l).take 0) by rw [List.take_zero]; exact ⟨List.Pairwise.nil, fun x hx => by cases hx⟩)
  clear hl hn hnb
  go_enter Try.func13, Try.ntmps13
  go_wp2_with fail
  go_loopw [7] (fun i wr => ∃ k : Nat, k ≤ n ∧ i = .int .i64 (k : Int) ∧ Hid (Rgt ((cels l).take k)) ∧ Hid (Below w.heap.size w wr)) (fun i _ => n - (intOf i).toNat)
  case atStart => exact ⟨0, Nat.zero_le _, rfl, HR0, HB0⟩
  case round =>
    obtain ⟨k, hk, rfl, HRk, HBk⟩ := hrel
    by_cases hlt : k < n
    · have hkI : (k : Int) < (n : Int) := by omega
      have hkl : k < l.length := by have := HHN.out (); omega
      obtain ⟨g, off, rfl, HC⟩ := HL.out.at_ hkl
      have hst := HST.out k hkl HRk.out
      have HCp := Lib.hid (fun (h0 : 0 < k) => HC.out (k - 1) (Nat.lt_of_le_of_lt (Nat.sub_le _ _) hkl))
      have hpr : ∃ pk : ByteArray, ∀ h0 : 0 < k, (l[k - 1]'(Nat.lt_of_le_of_lt (Nat.sub_le _ _) hkl)).1 = pk := by
        by_cases h0 : 0 < k
        · exact ⟨_, fun _ => rfl⟩
        · exact ⟨⟨#[]⟩, fun h => (h0 h).elim⟩
      obtain ⟨pk, hpk⟩ := hpr
      obtain ⟨key, hkey⟩ : ∃ key, l[k].1 = key := ⟨_, rfl⟩
      obtain ⟨val, hval⟩ : ∃ val, l[k].2 = val := ⟨_, rfl⟩
      have HCk := Lib.hid (HC.out k hkl)
      rw [hkey, hval] at HCk
      rw [show cel l[k] = cel (key, val) by rw [← hkey, ← hval], hkey] at hst
      have HSK := Lib.hid hst
      have HCq := Lib.hid (fun (h0 : 0 < k) wx hb => show wx.cell? ⟨g, off + (k - 1) * 2, none⟩ = some (.string pk) from hpk h0 ▸ (HCp.out h0 wx hb).1)
      have HSQ := Lib.hid (fun (h0 : 0 < k) => show ble key.toList (l[k - 1]'(Nat.lt_of_le_of_lt (Nat.sub_le _ _) hkl)).1.toList = ble key.toList pk.toList by rw [hpk h0])
      obtain ⟨c0, c1⟩ := HCk.out wr HBk.out
      obtain ⟨o, ho⟩ : ∃ o, wr.alloc (.cells #[.string key, .string val] 38) = o := ⟨_, rfl⟩
      have HBo := Lib.hid (show Below w.heap.size w o from ho ▸ HBk.out.alloc HBk.out.size _)
      obtain ⟨B, hB⟩ : ∃ B, wr.heap.size = B := ⟨_, rfl⟩
      have HRo := Lib.hid (show Row o B 38 [.string key, .string val] (0, 0) from hB ▸ ho ▸ Row.new wr 38 [.string key, .string val] (0, 0))
      have HOO := Lib.hid (fun (wx : World) (hb : Below o.heap.size o wx) => And.intro (show wx.cell? ⟨B, 0, none⟩ = some (.string key) by rw [(HRo.out.below hb HRo.out.lt).cell]; rfl) (show wx.cell? ⟨B, 1, none⟩ = some (.string val) by rw [(HRo.out.below hb HRo.out.lt).cell]; rfl))
      obtain ⟨od, hod⟩ : ∃ od, o.drew = od := ⟨_, rfl⟩
      have HKd := Lib.hid (show Below o.heap.size o od from hod ▸ below_drew_c (Below.refl _ _))
      have HBd := Lib.hid (HBo.out.trans (HKd.out.mono HBo.out.size))
      have hHeld := HOO.out od HKd.out
      obtain ⟨ft, hft⟩ : ∃ ft, fitC (cel (key, val)) = ft := ⟨_, rfl⟩
      have HFk := Lib.hid (HF.out key val)
      rw [hft] at HFk
      clear HL HST HE HB0 HF HHN HC HCp hkey hval hst hpk HCk HRo
      cases ft with
      | false =>
        have HG := Lib.hid (HNO.out (k + 1) fun h => by have := (HSK.out.1 h).1; rw [hft] at this; cases this)
        have HH5 := Lib.hid (fun wx hb (_ : Below w.heap.size w wx) => HOO.out wx hb)
        clear HNO HSK HCq HSQ hft HRk HOO
        go_wp2_with fail
        refine wp_region_noPanic ?_
        refine wp_region_sch (fun wx => wx.cell? ⟨B, 0, none⟩ = some (.string key) ∧ wx.cell? ⟨B, 1, none⟩ = some (.string val)) (fun i => [1].contains i)
          (.takes [0] (.run 1 (.takes [2, 3, 4, 5, 6, 7, 8, 9, 10, 11, 12, 13, 14, 15, 16, 17] .done))) (by kernel_rfl) (fun _ _ _ _ _ h => h) (by kernel_rfl) ?_
        rw [hod]
        refine sch_takes_cons ?_
        first
          | (refine sch_take (v := ?_) rfl (by assumption) (by rfl) ?_ ?_; rotate_left; (focus (intro wy hSy; (try dsimp only at hSy); go_simp; (try with_reducible rfl))))
          | (refine sch_pass rfl (by assumption) (by rfl) ?_)
        simp only [Act.put, List.setIfInBounds_toArray, List.set_cons_zero, List.set_cons_succ]
        refine sch_takes_nil ?_
        refine sch_run rfl (fun K hK => ?_)
        go_simp
        with_reducible refine (HFk.out _).mono ?_
        rintro e w5 ⟨rfl, hb5⟩
        have HK5 := Lib.hid (HKd.out.trans (hb5.mono HKd.out.size))
        have HB5 := Lib.hid (HBo.out.trans (HK5.out.mono HBo.out.size))
        have hHeld := HH5.out w5 HK5.out HB5.out
        clear hb5
        refine hK.out _ _ (fun _ => hHeld) ?_
        clear hK K
        try simp only [Act.put, List.setIfInBounds_toArray, List.set_cons_zero, List.set_cons_succ]
        iterate 16 (
          refine sch_takes_cons ?_
          first
            | (refine sch_take (v := ?_) rfl (by assumption) (by rfl) ?_ ?_; rotate_left; (focus (intro wy hSy; (try dsimp only at hSy); go_simp; (try with_reducible rfl))))
            | (refine sch_pass rfl (by assumption) (by rfl) ?_)
          simp only [Act.put, List.setIfInBounds_toArray, List.set_cons_zero, List.set_cons_succ])
        refine sch_takes_nil ?_
        refine sch_done ?_
        refine NoPanic.normal ?_
        clear hHeld
        go_wp2_with fail
        rw [HG.out]
        go_ret
        exact ⟨rfl, HB5.out⟩
      | true =>
        by_cases h0 : k = 0
        · have hkp : decide ((0 : Int) < (k : Int)) = false := decide_eq_false (by omega)
          have hkp2 : decide (0 < k) = false := decide_eq_false (by omega)
          have HG := Lib.hid (HSK.out.2 ⟨hft, fun h => absurd h (by omega)⟩)
          have HH5 := Lib.hid (fun wx hb (_ : Below w.heap.size w wx) => HOO.out wx hb)
          clear HNO HSK HCq HSQ hft HRk h0 HOO
          go_wp2_with fail
          refine wp_region_noPanic ?_
          refine wp_region_sch (fun wx => wx.cell? ⟨B, 0, none⟩ = some (.string key) ∧ wx.cell? ⟨B, 1, none⟩ = some (.string val)) (fun i => [1].contains i)
            (.takes [0] (.run 1 (.takes [2, 3, 4, 5, 6, 7, 8, 9, 10, 11, 12, 13, 14, 15, 16, 17] .done))) (by kernel_rfl) (fun _ _ _ _ _ h => h) (by kernel_rfl) ?_
          rw [hod]
          refine sch_takes_cons ?_
          first
            | (refine sch_take (v := ?_) rfl (by assumption) (by rfl) ?_ ?_; rotate_left; (focus (intro wy hSy; (try dsimp only at hSy); go_simp; (try with_reducible rfl))))
            | (refine sch_pass rfl (by assumption) (by rfl) ?_)
          simp only [Act.put, List.setIfInBounds_toArray, List.set_cons_zero, List.set_cons_succ]
          refine sch_takes_nil ?_
          refine sch_run rfl (fun K hK => ?_)
          go_simp
          with_reducible refine (HFk.out _).mono ?_
          rintro e w5 ⟨rfl, hb5⟩
          have HK5 := Lib.hid (HKd.out.trans (hb5.mono HKd.out.size))
          have HB5 := Lib.hid (HBo.out.trans (HK5.out.mono HBo.out.size))
          have hHeld := HH5.out w5 HK5.out HB5.out
          clear hb5
          refine hK.out _ _ (fun _ => hHeld) ?_
          clear hK K
          try simp only [Act.put, List.setIfInBounds_toArray, List.set_cons_zero, List.set_cons_succ]
          iterate 16 (
            refine sch_takes_cons ?_
            first
              | (refine sch_take (v := ?_) rfl (by assumption) (by rfl) ?_ ?_; rotate_left; (focus (intro wy hSy; (try dsimp only at hSy); go_simp; (try with_reducible rfl))))
              | (refine sch_pass rfl (by assumption) (by rfl) ?_)
            simp only [Act.put, List.setIfInBounds_toArray, List.set_cons_zero, List.set_cons_succ])
          refine sch_takes_nil ?_
          refine sch_done ?_
          refine NoPanic.normal ?_
          clear hHeld
          go_wp2_with fail
          go_roundw
          case rel => exact ⟨k + 1, by omega, by go_num, HG, HB5⟩
          case measure => simp [intOf]; omega
        · obtain ⟨q, hq⟩ : ∃ q, q = k - 1 := ⟨_, rfl⟩
          have hp0 : 0 < k := by omega
          have hsub : (k : Int) - 1 = (q : Int) := by omega
          have hwq : IntKind.i64.wrap (q : Int) = (q : Int) := IntWalk.i64_in _ (by omega)
          have hkp : (0 : Int) < (k : Int) := by omega
          have hqn : (q : Int) < (n : Int) := by omega
          have HH5 := Lib.hid (fun wx hb hb2 => And.intro (HOO.out wx hb) (hq ▸ HCq.out hp0 wx hb2 : wx.cell? ⟨g, off + q * 2, none⟩ = some (.string pk)))
          have hHeld := HH5.out od HKd.out HBd.out
          cases hle : ble key.toList pk.toList with
          | true =>
            have hcmp : (Op.bytesLess key.toList pk.toList || key.toList == pk.toList) = true := hle
            have HG := Lib.hid (HNO.out (k + 1) fun h => by have := (HSK.out.1 h).2 hp0; rw [HSQ.out hp0, hle] at this; cases this)
            clear HNO HSK HCq HSQ hft HRk hle hq h0 HOO
            go_wp2_with fail
            refine wp_region_noPanic ?_
            refine wp_region_sch (fun wx => (wx.cell? ⟨B, 0, none⟩ = some (.string key) ∧ wx.cell? ⟨B, 1, none⟩ = some (.string val)) ∧ wx.cell? ⟨g, off + q * 2, none⟩ = some (.string pk)) (fun i => [1].contains i)
              (.takes [0] (.run 1 (.takes [2, 3, 4, 5, 6, 7, 8, 9, 10, 11, 12, 13, 14, 15, 16, 17] .done))) (by kernel_rfl) (fun _ _ _ _ _ h => h) (by kernel_rfl) ?_
            rw [hod]
            refine sch_takes_cons ?_
            first
              | (refine sch_take (v := ?_) rfl (by assumption) (by rfl) ?_ ?_; rotate_left; (focus (intro wy hSy; (try dsimp only at hSy); go_simp; (try with_reducible rfl))))
              | (refine sch_pass rfl (by assumption) (by rfl) ?_)
            simp only [Act.put, List.setIfInBounds_toArray, List.set_cons_zero, List.set_cons_succ]
            refine sch_takes_nil ?_
            refine sch_run rfl (fun K hK => ?_)
            go_simp
            with_reducible refine (HFk.out _).mono ?_
            rintro e w5 ⟨rfl, hb5⟩
            have HK5 := Lib.hid (HKd.out.trans (hb5.mono HKd.out.size))
            have HB5 := Lib.hid (HBo.out.trans (HK5.out.mono HBo.out.size))
            have hHeld := HH5.out w5 HK5.out HB5.out
            clear hb5
            refine hK.out _ _ (fun _ => hHeld) ?_
            clear hK K
            try simp only [Act.put, List.setIfInBounds_toArray, List.set_cons_zero, List.set_cons_succ]
            iterate 16 (
              refine sch_takes_cons ?_
              first
                | (refine sch_take (v := ?_) rfl (by assumption) (by rfl) ?_ ?_; rotate_left; (focus (intro wy hSy; (try dsimp only at hSy); go_simp; (try with_reducible rfl))))
                | (refine sch_pass rfl (by assumption) (by rfl) ?_)
              simp only [Act.put, List.setIfInBounds_toArray, List.set_cons_zero, List.set_cons_succ])
            refine sch_takes_nil ?_
            refine sch_done ?_
            refine NoPanic.normal ?_
            clear hHeld
            go_wp2_with fail
            rw [HG.out]
            go_ret
            exact ⟨rfl, HB5.out⟩
          | false =>
            have hcmp : (Op.bytesLess key.toList pk.toList || key.toList == pk.toList) = false := hle
            have HG := Lib.hid (HSK.out.2 ⟨hft, fun h => by rw [HSQ.out h, hle]⟩)
            clear HNO HSK HCq HSQ hft HRk hle hq h0 HOO
            go_wp2_with fail
            refine wp_region_noPanic ?_
            refine wp_region_sch (fun wx => (wx.cell? ⟨B, 0, none⟩ = some (.string key) ∧ wx.cell? ⟨B, 1, none⟩ = some (.string val)) ∧ wx.cell? ⟨g, off + q * 2, none⟩ = some (.string pk)) (fun i => [1].contains i)
              (.takes [0] (.run 1 (.takes [2, 3, 4, 5, 6, 7, 8, 9, 10, 11, 12, 13, 14, 15, 16, 17] .done))) (by kernel_rfl) (fun _ _ _ _ _ h => h) (by kernel_rfl) ?_
            rw [hod]
            refine sch_takes_cons ?_
            first
              | (refine sch_take (v := ?_) rfl (by assumption) (by rfl) ?_ ?_; rotate_left; (focus (intro wy hSy; (try dsimp only at hSy); go_simp; (try with_reducible rfl))))
              | (refine sch_pass rfl (by assumption) (by rfl) ?_)
            simp only [Act.put, List.setIfInBounds_toArray, List.set_cons_zero, List.set_cons_succ]
            refine sch_takes_nil ?_
            refine sch_run rfl (fun K hK => ?_)
            go_simp
            with_reducible refine (HFk.out _).mono ?_
            rintro e w5 ⟨rfl, hb5⟩
            have HK5 := Lib.hid (HKd.out.trans (hb5.mono HKd.out.size))
            have HB5 := Lib.hid (HBo.out.trans (HK5.out.mono HBo.out.size))
            have hHeld := HH5.out w5 HK5.out HB5.out
            clear hb5
            refine hK.out _ _ (fun _ => hHeld) ?_
            clear hK K
            try simp only [Act.put, List.setIfInBounds_toArray, List.set_cons_zero, List.set_cons_succ]
            iterate 16 (
              refine sch_takes_cons ?_
              first
                | (refine sch_take (v := ?_) rfl (by assumption) (by rfl) ?_ ?_; rotate_left; (focus (intro wy hSy; (try dsimp only at hSy); go_simp; (try with_reducible rfl))))
                | (refine sch_pass rfl (by assumption) (by rfl) ?_)
              simp only [Act.put, List.setIfInBounds_toArray, List.set_cons_zero, List.set_cons_succ])
            refine sch_takes_nil ?_
            refine sch_done ?_
            refine NoPanic.normal ?_
            clear hHeld
            go_wp2_with fail
            go_roundw
            case rel => exact ⟨k + 1, by omega, by go_num, HG, HB5⟩
            case measure => simp [intOf]; omega
    · have hkI : ¬ (k : Int) < (n : Int) := by omega
      obtain rfl : k = n := by omega
      have HT := Lib.hid (HE.out HRk.out)
      clear HL HST HE HB0 HHN HNO HF
      go_wp2_with fail
      rw [HT.out]
      go_ret
      exact ⟨rfl, HBk.out⟩
end Go.Proofs.Ytbganaaiaokfmaa
