/-
  The document's Get.
-/
import Derived.Test.YtbganaaiaokfmaaCelGetA
namespace Go.Proofs.Ytbganaaiaokfmaa
open Go.RowKit

theorem rd_at {m : List Cel} (h : Rgt m) {k : Nat} (hk : k < m.length) : rdT (bytesC m) (2 + 4 * m.length + sizeC (m.take k)) = some (m[k].1, 2 + 4 * m.length + sizeC (m.take k) + 2 + m[k].1.length) ∧ rdT (bytesC m) (2 + 4 * m.length + sizeC (m.take k) + 2 + m[k].1.length) = some (m[k].2, 2 + 4 * m.length + sizeC (m.take (k + 1))) := by
  have hf := h.2 _ (List.getElem_mem hk)
  unfold fitC at hf
  simp only [Bool.and_eq_true, decide_eq_true_eq] at hf
  have hm : heapC m = heapC (m.take k) ++ (entC m[k] ++ heapC (m.drop (k + 1))) := by
    have happ : ∀ a b : List Cel, heapC (a ++ b) = heapC a ++ heapC b := fun a b => by simp [heapC]
    have h1 := happ (m.take k) (m.drop k)
    rw [List.take_append_drop] at h1
    rw [h1]
    congr 1
    rw [List.drop_eq_getElem_cons hk]
    rfl
  obtain ⟨P, hP⟩ : ∃ P, be m.length 2 ++ slotsC m 0 ++ heapC (m.take k) = P := ⟨_, rfl⟩
  have hPl : P.length = 2 + 4 * m.length + sizeC (m.take k) := by rw [← hP, List.length_append, List.length_append, be_length, slotsC_length, heapC_length]
  obtain ⟨x, hx⟩ : ∃ x, m[k] = x := ⟨_, rfl⟩
  rw [size_take m k hk]
  rw [hx] at hf hm ⊢
  have e1 : bytesC m = P ++ (be x.1.length 2 ++ x.1 ++ (be x.2.length 2 ++ x.2 ++ heapC (m.drop (k + 1)))) := by
    unfold bytesC
    rw [hm, ← hP]
    unfold entC
    simp only [List.append_assoc]
  have e2 : bytesC m = (P ++ (be x.1.length 2 ++ x.1)) ++ (be x.2.length 2 ++ x.2 ++ heapC (m.drop (k + 1))) := by
    rw [e1]
    simp only [List.append_assoc]
  have hQl : (P ++ (be x.1.length 2 ++ x.1)).length = P.length + 2 + x.1.length := by rw [List.length_append, List.length_append, be_length]; omega
  rw [← hPl]
  refine ⟨?_, ?_⟩
  · rw [e1]
    exact rdT_here P _ x.1 (by omega)
  · have := rdT_here (P ++ (be x.1.length 2 ++ x.1)) (heapC (m.drop (k + 1))) x.2 (by omega)
    rw [hQl] at this
    rw [e2, this]
    congr 2
    omega
/-- In the middle of reading: so many cells are read, if the bytes are those of cells. -/
def Mid (S : Txt) (n k : Nat) (L : List Cel) (a : Nat) : Prop := ∀ m, getC S = some m → m.length = n ∧ L = m.take k ∧ a = 2 + 4 * n + sizeC (m.take k)
theorem Mid.rd {S : Txt} {n k a : Nat} {L : List Cel} (h : Mid S n k L a) (hk : k < n) {m : List Cel} (hm : getC S = some m) : ∃ hk' : k < m.length, rdT S a = some (m[k].1, a + 2 + m[k].1.length) ∧ rdT S (a + 2 + m[k].1.length) = some (m[k].2, 2 + 4 * n + sizeC (m.take (k + 1))) := by
  obtain ⟨h1, h2, h3⟩ := h m hm
  subst h1
  obtain ⟨g1, _, g3⟩ := getC_iff.1 hm
  refine ⟨hk, ?_⟩
  have := rd_at g1 hk
  rw [g3, ← h3] at this
  exact this
theorem Mid.no1 {S : Txt} {n k a : Nat} {L : List Cel} (h : Mid S n k L a) (hk : k < n) (hr : rdT S a = none) : getC S = none := by
  cases hg : getC S with
  | none => rfl
  | some m => obtain ⟨_, h1, _⟩ := h.rd hk hg; rw [hr] at h1; cases h1
theorem Mid.no2 {S : Txt} {n k a a1 : Nat} {t1 : Txt} {L : List Cel} (h : Mid S n k L a) (hk : k < n) (hr : rdT S a = some (t1, a1)) (hr2 : rdT S a1 = none) : getC S = none := by
  cases hg : getC S with
  | none => rfl
  | some m =>
    obtain ⟨_, h1, h2⟩ := h.rd hk hg
    rw [hr] at h1
    simp only [Option.some.injEq, Prod.mk.injEq] at h1
    rw [← h1.2, hr2] at h2
    cases h2
theorem Mid.step {S : Txt} {n k a a1 a2 : Nat} {t1 t2 : Txt} {L : List Cel} (h : Mid S n k L a) (hk : k < n) (hr : rdT S a = some (t1, a1)) (hr2 : rdT S a1 = some (t2, a2)) : Mid S n (k + 1) (L ++ [(t1, t2)]) a2 := fun m hm => by
  obtain ⟨h1, h2, h3⟩ := h m hm
  obtain ⟨hk', r1, r2⟩ := h.rd hk hm
  rw [hr] at r1
  simp only [Option.some.injEq, Prod.mk.injEq] at r1
  rw [← r1.2, hr2] at r2
  simp only [Option.some.injEq, Prod.mk.injEq] at r2
  refine ⟨h1, ?_, r2.2⟩
  rw [List.take_succ_eq_append_getElem hk', h2, r1.1, r2.1]
theorem Mid.start (S : Txt) : Mid S (val (S.take 2)) 0 [] (2 + 4 * val (S.take 2)) := fun m hm => by
  obtain ⟨g1, g2, rfl⟩ := getC_iff.1 hm
  refine ⟨(bytesC_read g1 g2).1.symm, by rw [List.take_zero], by rw [List.take_zero]; rfl⟩
theorem Mid.whole {S : Txt} {n a : Nat} {L : List Cel} (h : Mid S n n L a) : getC S = some L ∨ (getC S = none ∧ ¬ (Rgt L ∧ L.length ≤ 65535 ∧ bytesC L = S)) := by
  cases hg : getC S with
  | some m =>
    obtain ⟨h1, h2, _⟩ := h m hg
    rw [List.take_of_length_le (by omega)] at h2
    rw [h2]
    exact .inl rfl
  | none => exact .inr ⟨rfl, fun hx => by rw [getC_iff.2 hx] at hg; cases hg⟩
theorem bytesV_yes {S : Txt} {L : List Cel} (h : getC S = some L) : bytesV L = .tuple #[.string (tx S), .int .i64 0] := by
  obtain ⟨h1, h2, rfl⟩ := getC_iff.1 h
  unfold bytesV
  have h3 : rgtB L = true := decide_eq_true h1
  rw [if_pos h3, if_neg (by omega)]
theorem bytesV_no {S : Txt} {L : List Cel} (h : ¬ (Rgt L ∧ L.length ≤ 65535 ∧ bytesC L = S)) : (∃ x : Int, bytesV L = .tuple #[.string ⟨#[]⟩, .int .i64 x] ∧ x ≠ 0) ∨ ∃ X : ByteArray, bytesV L = .tuple #[.string X, .int .i64 0] ∧ X.toList ≠ S := by
  unfold bytesV
  split
  · rename_i hr
    split
    · exact .inl ⟨6, rfl, by omega⟩
    · refine .inr ⟨_, rfl, fun e => ?_⟩
      rw [tx_list] at e
      exact h ⟨of_decide_eq_true hr, by omega, e⟩
  · exact .inl ⟨100, rfl, by omega⟩
def unC (m : List Cel) : List CB := m.map fun x => (tx x.1, tx x.2)
theorem unC_cels (L : List CB) : unC (cels L) = L := by
  unfold unC cels cel
  rw [List.map_map]
  conv => rhs; rw [← List.map_id L]
  refine List.map_congr_left fun x _ => ?_
  show (tx x.1.toList, tx x.2.toList) = x
  rw [tx_of, tx_of]
theorem cels_unC (m : List Cel) : cels (unC m) = m := by
  unfold unC cels cel
  rw [List.map_map]
  conv => rhs; rw [← List.map_id m]
  refine List.map_congr_left fun x _ => ?_
  show ((tx x.1).toList, (tx x.2).toList) = x
  rw [tx_list, tx_list]
theorem rdT_le {S : Txt} {a a' : Nat} {t : Txt} (h : rdT S a = some (t, a')) : a' ≤ S.length := by
  unfold rdT at h
  split at h
  · rename_i hx
    simp only [Option.some.injEq, Prod.mk.injEq] at h
    omega
  · cases h
theorem val2_lt (S : Txt) : val (S.take 2) < 65536 := by
  have h1 := val_lt (S.take 2)
  have h2 : (S.take 2).length ≤ 2 := by rw [List.length_take]; omega
  exact Nat.lt_of_lt_of_le h1 (Nat.pow_le_pow_right (by omega) h2)

set_option maxRecDepth 100000 in
set_option maxHeartbeats 4000000 in
theorem cget_any (s : ByteArray) (w : World) (hs : s.size ≤ 30000) : Calls Try.prog 27 #[.string s] w (CelsO w ((getC s.toList).map unC)) := by
  have hlen := len_size s
  have HNONE := Lib.hid (fun (h : getC s.toList = none) e w' (h2 : e = .returned (.tuple #[.slice none 0 0, .int .i64 100]) ∧ Below w.heap.size w w') => show CelsO w ((getC s.toList).map unC) e w' by rw [h]; exact h2)
  have HSOME := Lib.hid (fun L (h : getC s.toList = some (cels L)) v' w' (hg : GrC w L v' w') => show CelsO w ((getC s.toList).map unC) (.returned (.tuple #[v', .int .i64 0])) w' by
    rw [h]
    show CelsO w (some (unC (cels L))) _ _
    rw [unC_cels]
    obtain ⟨A', c', rfl, hc, hA⟩ := hg.slot
    exact ⟨A', c', rfl, hg.cels, hc, hA, hg.2⟩)
  obtain ⟨Q, hQ⟩ : ∃ Q, CelsO w ((getC s.toList).map unC) = Q := ⟨_, rfl⟩
  rw [hQ] at HNONE HSOME
  rw [hQ]
  clear hQ
  by_cases h2 : s.size < 2
  · have HN := Lib.hid (HNONE.out (by
      cases hg : getC s.toList with
      | none => rfl
      | some m =>
        obtain ⟨_, _, h3⟩ := getC_iff.1 hg
        have := congrArg List.length h3
        rw [bytesC_length] at this
        omega))
    have g2 : (s.size : Int) < 2 := by omega
    clear HSOME HNONE h2 hlen
    go_enter Try.func27, Try.ntmps27
    go_wp2_with fail
    exact HN.out _ _ ⟨rfl, Below.refl _ _⟩
  · have g2 : ¬ (s.size : Int) < 2 := by omega
    have hv := two_val (s := s.toList) (a := 0) (by omega)
    rw [List.drop_zero] at hv
    have ix0 := cindex_at s 0 (by omega)
    have ix1 := cindex_at s 1 (by omega)
    have hx := (s.toList[0]).toNat_lt
    have hy := (s.toList[1]).toNat_lt
    have hnb := val2_lt s.toList
    have HM0 := Lib.hid (Mid.start s.toList)
    obtain ⟨x, hx0⟩ : ∃ x, (s.toList[0]).toNat = x := ⟨_, rfl⟩
    obtain ⟨y, hy0⟩ : ∃ y, (s.toList[1]).toNat = y := ⟨_, rfl⟩
    rw [hx0] at hx ix0
    rw [hy0] at hy ix1
    replace ix0 : ∀ W : World, (Instr.index 9 (.string s) (.int .i64 0)).run Try.prog W = .ok (.int .u8 (x : Int)) W := ix0
    replace ix1 : ∀ W : World, (Instr.index 9 (.string s) (.int .i64 1)).run Try.prog W = .ok (.int .u8 (y : Int)) W := ix1
    rw [show (s.toList[0]).toNat = x from hx0, show (s.toList[0 + 1]).toNat = y from hy0] at hv
    have w3 : IntKind.i64.wrap (256 * (x : Int)) = 256 * (x : Int) := IntWalk.i64_in _ (by omega)
    have w4 : IntKind.i64.wrap (256 * (x : Int) + (y : Int)) = 256 * (x : Int) + (y : Int) := IntWalk.i64_in _ (by omega)
    have w5 : IntKind.i64.wrap (x : Int) = (x : Int) := IntWalk.i64_in _ (by omega)
    have w6 : IntKind.i64.wrap (y : Int) = (y : Int) := IntWalk.i64_in _ (by omega)
    obtain ⟨n, hn⟩ : ∃ n, val (s.toList.take 2) = n := ⟨_, rfl⟩
    rw [hn] at hnb HM0 hv
    have hvI : 256 * (x : Int) + (y : Int) = (n : Int) := by omega
    have w7 : IntKind.i64.wrap (4 * (n : Int)) = 4 * (n : Int) := IntWalk.i64_in _ (by omega)
    have w8 : IntKind.i64.wrap (2 + 4 * (n : Int)) = 2 + 4 * (n : Int) := IntWalk.i64_in _ (by omega)
    have HTX := Lib.hid (fun (a : Nat) (ha : a ≤ 1000000) wx => ctext_any s a wx (by omega) ha)
    have HTN := Lib.hid (fun wx => ctext_neg s wx)
    simp only [textV] at HTN
    have HGR0 := Lib.hid (show ∀ wx, Below w.heap.size w wx → GrC w [] (.slice none 0 0) wx from fun wx h => GrC.nil h)
    have HBD := Lib.hid (show Below w.heap.size w w.drew from below_drew_c (Below.refl _ _))
    have HLE := Lib.hid (show s.toList.length ≤ 30000 by omega)
    have hHeld : True := trivial
    clear hv hx0 hy0 h2 hlen hn
    have HNB := Lib.hid hnb
    go_enter Try.func27, Try.ntmps27
    go_wp2_with fail
    refine wp_region_noPanic ?_
    refine wp_region_sch (fun _ => True) (fun i => [].contains i)
      (.takes [0, 1, 2, 3, 4, 5, 6, 7, 8] .done) (by kernel_rfl) (fun _ _ _ _ _ h => h) (by kernel_rfl) ?_
    skip
    iterate 9 (
      refine sch_takes_cons ?_
      first
        | (refine sch_take (v := ?_) rfl (by assumption) (by rfl) ?_ ?_; rotate_left; (focus (intro wy hSy; (try dsimp only at hSy); go_simp; (try with_reducible rfl))))
        | (refine sch_pass rfl (by assumption) (by rfl) ?_)
      simp only [Act.put, List.setIfInBounds_toArray, List.set_cons_zero, List.set_cons_succ])
    refine sch_takes_nil ?_
    refine sch_done ?_
    refine NoPanic.normal ?_
    clear hHeld ix0 ix1 w3 w4 w5 w6 hvI
    go_wp2_with fail
    go_loopw [5, 6, 7] (fun p u i wr => ∃ (k a : Nat) (L : List CB) (v : Value), k ≤ n ∧ a ≤ 1000000 ∧ i = .int .i64 (k : Int) ∧ p = .int .i64 (a : Int) ∧ v = u ∧ Hid (L.length = k) ∧ Hid (Mid s.toList n k (cels L) a) ∧ Hid (GrC w L v wr)) (fun _ _ i _ => n - (intOf i).toNat)
    case atStart => exact ⟨0, 2 + 4 * n, [], _, Nat.zero_le _, by have := HNB.out; omega, rfl, by go_num, rfl, Lib.hid rfl, HM0, Lib.hid (HGR0.out _ HBD.out)⟩
    case round =>
      obtain ⟨k, a, L, v, hk, ha, rfl, rfl, rfl, HLk, HMk, HGk⟩ := hrel
      by_cases hlt : k < n
      · have hkI : (k : Int) < (n : Int) := by omega
        obtain ⟨o, ho⟩ : ∃ o, wr.alloc (.cells #[.string ⟨#[]⟩, .string ⟨#[]⟩] 38) = o := ⟨_, rfl⟩
        have HKo := Lib.hid (show Below wr.heap.size wr o from ho ▸ (Below.refl _ _).alloc (Nat.le_refl _) _)
        obtain ⟨B, hB⟩ : ∃ B, wr.heap.size = B := ⟨_, rfl⟩
        have HRo := Lib.hid (show Row o B 38 [.string ⟨#[]⟩, .string ⟨#[]⟩] (0, 0) from hB ▸ ho ▸ Row.new wr 38 [.string ⟨#[]⟩, .string ⟨#[]⟩] (0, 0))
        rw [hB] at HKo
        have HGB := Lib.hid (show ∀ wx, Below B wr wx → GrC w L v wx from fun wx h => HGk.out.keeps (hB ▸ h))
        have HT1 := Lib.hid (HTX.out a ha o)
        cases h1 : rdT s.toList a with
        | none =>
          have HN := Lib.hid (HNONE.out (HMk.out.no1 hlt h1))
          rw [h1] at HT1
          unfold textV at HT1
          clear h1 HMk HSOME HNONE HTX hlt
          go_wp2_with fail
          refine HT1.out.mono ?_
          rintro e w1 ⟨rfl, hb1⟩
          have HR1 := Lib.hid (HRo.out.below hb1 HRo.out.lt)
          have HK1 := Lib.hid (HKo.out.trans (hb1.mono (by have := HKo.out.size; omega)))
          have c0 : w1.cell? ⟨B, 0, none⟩ = some (.string ⟨#[]⟩) := by rw [HR1.out.cell]; rfl
          have f0 := HR1.out.loose 0
          have HR2 := Lib.hid (HR1.out.put 0 (.string ⟨#[]⟩))
          have HK2 := Lib.hid (below_set HK1.out (Nat.le_refl _) 0 (.string ⟨#[]⟩))
          obtain ⟨w2, hw2⟩ : ∃ w2, w1.setCell ⟨B, 0, none⟩ (.string ⟨#[]⟩) = w2 := ⟨_, rfl⟩
          rw [hw2] at HR2 HK2
          clear hb1 HT1 HRo
          go_wp2_with fail
          refine (HTN.out _).mono ?_
          rintro e w3 ⟨rfl, hb3⟩
          have HR3 := Lib.hid (HR2.out.below hb3 HR2.out.lt)
          have HK3 := Lib.hid (HK2.out.trans (hb3.mono (by have := HK2.out.size; omega)))
          have c1 : w3.cell? ⟨B, 1, none⟩ = some (.string ⟨#[]⟩) := by rw [HR3.out.cell]; rfl
          have f1 := HR3.out.loose 1
          have HK4 := Lib.hid ((HGB.out _ (below_set HK3.out (Nat.le_refl _) 1 (.string ⟨#[]⟩))).2)
          clear hb3 c0 f0 hw2
          go_wp2_with fail
          exact HN.out _ _ ⟨rfl, HK4.out⟩
        | some p1 =>
          obtain ⟨t1, a1⟩ := p1
          rw [h1] at HT1
          simp only [textV] at HT1
          have ha1 : a1 ≤ 1000000 := by have := rdT_le h1; have := HLE.out; omega
          have HT2 := Lib.hid (fun wx => HTX.out a1 ha1 wx)
          cases h3 : rdT s.toList a1 with
          | none =>
            have HN := Lib.hid (HNONE.out (HMk.out.no2 hlt h1 h3))
            rw [h3] at HT2
            simp only [textV] at HT2
            clear h1 h3 HMk HSOME HNONE HTX hlt
            obtain ⟨T1, hT1⟩ : ∃ T1, tx t1 = T1 := ⟨_, rfl⟩
            rw [hT1] at HT1
            clear hT1
            go_wp2_with fail
            refine HT1.out.mono ?_
            rintro e w1 ⟨rfl, hb1⟩
            have HR1 := Lib.hid (HRo.out.below hb1 HRo.out.lt)
            have HK1 := Lib.hid (HKo.out.trans (hb1.mono (by have := HKo.out.size; omega)))
            have c0 : w1.cell? ⟨B, 0, none⟩ = some (.string ⟨#[]⟩) := by rw [HR1.out.cell]; rfl
            have f0 := HR1.out.loose 0
            have HR2 := Lib.hid (HR1.out.put 0 (.string T1))
            have HK2 := Lib.hid (below_set HK1.out (Nat.le_refl _) 0 (.string T1))
            obtain ⟨w2, hw2⟩ : ∃ w2, w1.setCell ⟨B, 0, none⟩ (.string T1) = w2 := ⟨_, rfl⟩
            rw [hw2] at HR2 HK2
            clear hb1 HT1 HRo
            go_wp2_with fail
            refine (HT2.out _).mono ?_
            rintro e w3 ⟨rfl, hb3⟩
            have HR3 := Lib.hid (HR2.out.below hb3 HR2.out.lt)
            have HK3 := Lib.hid (HK2.out.trans (hb3.mono (by have := HK2.out.size; omega)))
            have c1 : w3.cell? ⟨B, 1, none⟩ = some (.string ⟨#[]⟩) := by rw [HR3.out.cell]; rfl
            have f1 := HR3.out.loose 1
            clear hb3 c0 f0 hw2
            have HK4 := Lib.hid ((HGB.out _ (below_set HK3.out (Nat.le_refl _) 1 (.string ⟨#[]⟩))).2)
            go_wp2_with fail
            exact HN.out _ _ ⟨rfl, HK4.out⟩
          | some p2 =>
            obtain ⟨t2, a2⟩ := p2
            have ha2 : a2 ≤ 1000000 := by have := rdT_le h3; have := HLE.out; omega
            have HMN := Lib.hid (HMk.out.step hlt h1 h3)
            rw [h3] at HT2
            simp only [textV] at HT2
            clear h1 h3 HMk HSOME HNONE HTX
            have hc1 : (tx t1).toList = t1 := tx_list t1
            have hc2 : (tx t2).toList = t2 := tx_list t2
            obtain ⟨T1, hT1⟩ : ∃ T1, tx t1 = T1 := ⟨_, rfl⟩
            obtain ⟨T2, hT2⟩ : ∃ T2, tx t2 = T2 := ⟨_, rfl⟩
            rw [hT1] at HT1 hc1
            rw [hT2] at HT2 hc2
            have HMM := Lib.hid (show Mid s.toList n (k + 1) (cels (L ++ [(T1, T2)])) a2 by
              unfold cels at HMN ⊢
              rw [List.map_append]
              show Mid s.toList n (k + 1) (L.map cel ++ [(T1.toList, T2.toList)]) a2
              rw [hc1, hc2]
              exact HMN.out)
            clear hT1 hT2 hc1 hc2 HMN
            go_wp2_with fail
            refine HT1.out.mono ?_
            rintro e w1 ⟨rfl, hb1⟩
            have HR1 := Lib.hid (HRo.out.below hb1 HRo.out.lt)
            have HK1 := Lib.hid (HKo.out.trans (hb1.mono (by have := HKo.out.size; omega)))
            have c0 : w1.cell? ⟨B, 0, none⟩ = some (.string ⟨#[]⟩) := by rw [HR1.out.cell]; rfl
            have f0 := HR1.out.loose 0
            have HR2 := Lib.hid (HR1.out.put 0 (.string T1))
            have HK2 := Lib.hid (below_set HK1.out (Nat.le_refl _) 0 (.string T1))
            obtain ⟨w2, hw2⟩ : ∃ w2, w1.setCell ⟨B, 0, none⟩ (.string T1) = w2 := ⟨_, rfl⟩
            rw [hw2] at HR2 HK2
            clear hb1 HT1 HRo
            go_wp2_with fail
            refine (HT2.out _).mono ?_
            rintro e w3 ⟨rfl, hb3⟩
            have HR3 := Lib.hid (HR2.out.below hb3 HR2.out.lt)
            have HK3 := Lib.hid (HK2.out.trans (hb3.mono (by have := HK2.out.size; omega)))
            have c1 : w3.cell? ⟨B, 1, none⟩ = some (.string ⟨#[]⟩) := by rw [HR3.out.cell]; rfl
            have f1 := HR3.out.loose 1
            clear hb3 c0 f0 hw2
            have hneg : ¬ (a2 : Int) < 0 := by omega
            have HR4 := Lib.hid (HR3.out.put 1 (.string T2))
            have HK4 := Lib.hid (below_set HK3.out (Nat.le_refl _) 1 (.string T2))
            obtain ⟨w4, hw4⟩ : ∃ w4, w3.setCell ⟨B, 1, none⟩ (.string T2) = w4 := ⟨_, rfl⟩
            rw [hw4] at HR4 HK4
            have q0 : w4.cell? ⟨B, 0, none⟩ = some (.string T1) := by rw [HR4.out.cell]; rfl
            have q1 : w4.cell? ⟨B, 1, none⟩ = some (.string T2) := by rw [HR4.out.cell]; rfl
            have HNEW := Lib.hid (new_cel w4 38 (T1, T2))
            have HG5 := Lib.hid ((HGB.out w4 HK4.out).alloc (.cells #[.string T1, .string T2] 38))
            have HLL := Lib.hid (show L.length ≤ 1000000 by have := HLk.out; have := HNB.out; omega)
            go_wp2_with (at_builtin; refine wpList_cel (T1, T2) rfl (.tmp 46) (.tmp 48) rfl rfl HG5.out ⟨w4.heap.size, 0, none⟩ 1 rfl HNEW.out HLL.out ?_)
            intro v6 w6 hg6 _
            have HG6 := Lib.hid hg6
            have HL6 := Lib.hid (show (L ++ [(T1, T2)]).length = k + 1 by rw [List.length_append, HLk.out]; rfl)
            clear hg6
            go_wp2_with fail
            go_roundw
            case rel => exact ⟨k + 1, a2, L ++ [(T1, T2)], v6, by omega, ha2, by go_num, rfl, rfl, HL6, HMM, HG6⟩
            case measure => simp [intOf]; omega
      · have hkI : ¬ (k : Int) < (n : Int) := by omega
        obtain rfl : k = n := by omega
        have HW := Lib.hid HMk.out.whole
        obtain ⟨A', c', rfl, -, -⟩ := HGk.out.slot
        have hll := HLk.out
        rw [hll]
        have HCB := Lib.hid (cbytes_any A' k c' L wr HGk.out.cels hll (by have := HNB.out; omega))
        rcases HW.out with hG | ⟨hG, hno⟩
        · rw [bytesV_yes hG, tx_of] at HCB
          have hcmp : (s.toList == s.toList) = true := beq_self_eq_true _
          have HS := Lib.hid (fun w2 (hg : GrC w L (.slice A' L.length c') w2) => HSOME.out L hG _ w2 hg)
          rw [hll] at HS
          have HGG := Lib.hid (fun w2 (hb : Below wr.heap.size wr w2) => HGk.out.keeps hb)
          rw [hll] at HGG
          clear HNONE HSOME HTX HMk hll hG
          go_wp2_with fail
          refine HCB.out.mono ?_
          rintro e w2 ⟨rfl, hb2⟩
          have HE := Lib.hid (HS.out w2 (HGG.out w2 hb2))
          clear hb2 HCB
          go_wp2_with fail
          exact HE.out
        · have HN := Lib.hid (HNONE.out hG)
          rcases bytesV_no hno with ⟨x, h1, h2⟩ | ⟨X, h1, h2⟩
          · rw [h1] at HCB
            have hx0 : (x == 0) = false := beq_eq_false_iff_ne.2 h2
            have HX := Lib.hid h2
            clear HNONE HSOME HTX HMk hll hG hno h1 h2
            go_wp2_with fail
            refine HCB.out.mono ?_
            rintro e w2 ⟨rfl, hb2⟩
            have HB2 := Lib.hid (HGk.out.2.trans (hb2.mono HGk.out.2.size))
            clear hb2 HCB
            go_wp2_with fail
            all_goals first | exact HN.out _ _ ⟨rfl, HB2.out⟩ | exact absurd (by assumption) HX.out
          · rw [h1] at HCB
            have hcmp : (X.toList == s.toList) = false := beq_eq_false_iff_ne.2 h2
            clear HNONE HSOME HTX HMk hll hG hno h1 h2
            go_wp2_with fail
            refine HCB.out.mono ?_
            rintro e w2 ⟨rfl, hb2⟩
            have HB2 := Lib.hid (HGk.out.2.trans (hb2.mono HGk.out.2.size))
            clear hb2 HCB
            go_wp2_with fail
            exact HN.out _ _ ⟨rfl, HB2.out⟩
end Go.Proofs.Ytbganaaiaokfmaa
