/-
  Cells where they lie; the document's fits, Size, Right.
-/
import Derived.Test.YtbganaaiaokfmaaProg
import Derived.Test.YtbganaaiaokfmaaSpanRef
import Derived.Test.YtbganaaiaokfmaaCelPos
import Derived.Test.YtbganaaiaokfmaaDraw
namespace Go.Proofs.Ytbganaaiaokfmaa
open Go.RowKit

/-- A cell as it lies: its key, its value. -/
abbrev CB := ByteArray × ByteArray
def cel (x : CB) : Cel := (x.1.toList, x.2.toList)
def cels (l : List CB) : List Cel := l.map cel
theorem cels_get (l : List CB) (i : Nat) (h : i < l.length) : (cels l)[i]'(by unfold cels; rw [List.length_map]; exact h) = cel l[i] := by simp [cels]
theorem cels_length (l : List CB) : (cels l).length = l.length := List.length_map _
/-- Cells that lie somewhere. -/
def Cels (w : World) (A : Option Addr) (l : List CB) : Prop := ∀ i (h : i < l.length), ∃ g off, A = some ⟨g, off, none⟩ ∧ g < w.heap.size ∧ w.cell? ⟨g, off + i * 2, none⟩ = some (.string l[i].1) ∧ w.cell? ⟨g, off + i * 2 + 1, none⟩ = some (.string l[i].2)
theorem Cels.keeps {w w' : World} {A : Option Addr} {l : List CB} (h : Cels w A l) (hb : Below w.heap.size w w') : Cels w' A l := fun i hi => by
  obtain ⟨g, off, e, hg, h1, h2⟩ := h i hi
  exact ⟨g, off, e, Nat.lt_of_lt_of_le hg hb.size, (hb.cell (p := ⟨g, off + i * 2, none⟩) hg).trans h1, (hb.cell (p := ⟨g, off + i * 2 + 1, none⟩) hg).trans h2⟩
/-- The address, where there is one. -/
theorem Cels.at_ {w : World} {A : Option Addr} {l : List CB} (h : Cels w A l) {i : Nat} (hi : i < l.length) : ∃ g off, A = some ⟨g, off, none⟩ ∧ Hid (∀ j (hj : j < l.length) wx, Below w.heap.size w wx → wx.cell? ⟨g, off + j * 2, none⟩ = some (.string l[j].1) ∧ wx.cell? ⟨g, off + j * 2 + 1, none⟩ = some (.string l[j].2)) := by
  obtain ⟨g, off, e, hg, _⟩ := h i hi
  refine ⟨g, off, e, Lib.hid fun j hj wx hb => ?_⟩
  obtain ⟨g', off', e', hg', h1, h2⟩ := h j hj
  rw [e] at e'
  injection e' with e'
  injection e' with e1 e2
  subst e1 e2
  exact ⟨(hb.cell (p := ⟨g, off + j * 2, none⟩) hg).trans h1, (hb.cell (p := ⟨g, off + j * 2 + 1, none⟩) hg).trans h2⟩

set_option maxRecDepth 100000 in
theorem cfits_any (k v : ByteArray) (w : World) : Calls Try.prog 30 #[.agg #[.string k, .string v]] w fun e w' => e = .returned (.bool (fitC (cel (k, v)))) ∧ Below w.heap.size w w' := by
  have e0 : fitC (cel (k, v)) = (decide (k.size ≤ 513) && decide (v.size ≤ 2048)) := by
    unfold fitC cel
    simp only [len_size]
  rw [e0]
  by_cases h1 : k.size ≤ 513
  · by_cases h2 : v.size ≤ 2048
    · rw [decide_eq_true h1, decide_eq_true h2]
      have g1 : (k.size : Int) ≤ 513 := by omega
      have g2 : (v.size : Int) ≤ 2048 := by omega
      go_enter Try.func30, Try.ntmps30
      go_wp2
      go_ret
      exact ⟨by first | rfl | simp [g1, g2], (Below.refl _ _).alloc (Nat.le_refl _) _⟩
    · rw [decide_eq_true h1, decide_eq_false h2]
      have g1 : (k.size : Int) ≤ 513 := by omega
      have g2 : ¬ (v.size : Int) ≤ 2048 := by omega
      go_enter Try.func30, Try.ntmps30
      go_wp2
      go_ret
      exact ⟨by first | rfl | simp [g2], (Below.refl _ _).alloc (Nat.le_refl _) _⟩
  · rw [decide_eq_false h1, Bool.false_and]
    have g1 : ¬ (k.size : Int) ≤ 513 := by omega
    go_enter Try.func30, Try.ntmps30
    go_wp2
    go_ret
    exact ⟨by first | rfl | simp [g1], (Below.refl _ _).alloc (Nat.le_refl _) _⟩

theorem wrap_add (a b : Int) : IntKind.i64.wrap (IntKind.i64.wrap a + b) = IntKind.i64.wrap (a + b) := by
  rw [IntKind.wrap_i64, IntKind.wrap_i64, IntKind.wrap_i64]
  omega
theorem size_mono (l : List Cel) (n : Nat) : sizeC (l.take n) ≤ sizeC l := by
  conv => rhs; rw [← List.take_append_drop n l, sizeC_append]
  omega

set_option maxRecDepth 100000 in
set_option maxHeartbeats 2000000 in
theorem csize_any (A : Option Addr) (n c : Nat) (l : List CB) (w : World) (hl : Cels w A l) (hn : l.length = n) (hnb : n ≤ 9223372036854775807) : Calls Try.prog 16 #[.slice A n c] w fun e w' => e = .returned (.int .i64 (IntKind.i64.wrap (sizeC (cels l) : Int))) ∧ Below w.heap.size w w' := by
  have HL := Lib.hid hl
  have HST := Lib.hid (fun k (hk : k < l.length) => show sizeC ((cels l).take (k + 1)) = sizeC ((cels l).take k) + 4 + l[k].1.size + l[k].2.size by
    rw [size_take _ _ (by rw [cels_length]; exact hk), cels_get _ _ hk]
    show _ + 4 + (l[k].1.toList).length + (l[k].2.toList).length = _
    rw [len_size, len_size])
  have HE := Lib.hid (show sizeC ((cels l).take n) = sizeC (cels l) by rw [List.take_of_length_le (by rw [cels_length]; omega)])
  have HB0 := Lib.hid (Below.refl w.heap.size w)
  have nI : (n : Int) ≤ 9223372036854775807 := by omega
  have HHN := Lib.hid (fun _ : Unit => hn)
  clear hl hn hnb
  go_enter Try.func16, Try.ntmps16
  go_wp2_with fail
  go_loopw [3, 4] (fun s i wr => ∃ (k : Nat) (t : Int), k ≤ n ∧ i = .int .i64 (k : Int) ∧ s = .int .i64 t ∧ Hid (t = IntKind.i64.wrap (sizeC ((cels l).take k) : Int)) ∧ Hid (Below w.heap.size w wr)) (fun _ i _ => n - (intOf i).toNat)
  case atStart => exact ⟨0, 0, Nat.zero_le _, rfl, rfl, Lib.hid (by rw [List.take_zero]; decide), HB0⟩
  case round =>
    obtain ⟨k, t, hk, rfl, rfl, Ht, HBk⟩ := hrel
    by_cases hlt : k < n
    · have hkI : (k : Int) < (n : Int) := by omega
      have hkl : k < l.length := by have := HHN.out (); omega
      obtain ⟨g, off, rfl, HC⟩ := HL.out.at_ hkl
      have hst := HST.out k hkl
      obtain ⟨key, hkey⟩ : ∃ key, l[k].1 = key := ⟨_, rfl⟩
      obtain ⟨val, hval⟩ : ∃ val, l[k].2 = val := ⟨_, rfl⟩
      have HCk := Lib.hid (HC.out k hkl)
      rw [hkey, hval] at HCk
      rw [hkey, hval] at hst
      obtain ⟨wd, hwd⟩ : ∃ wd, wr.drew = wd := ⟨_, rfl⟩
      have HBd := Lib.hid (show Below w.heap.size w wd from hwd ▸ ⟨HBk.out.os, HBk.out.tape, HBk.out.output, HBk.out.size, HBk.out.block⟩)
      have hHeld := HCk.out wd HBd.out
      obtain ⟨t1, hw1⟩ : ∃ t1, IntKind.i64.wrap (t + 4) = t1 := ⟨_, rfl⟩
      obtain ⟨t2, hw2⟩ : ∃ t2, IntKind.i64.wrap (t1 + (key.size : Int)) = t2 := ⟨_, rfl⟩
      obtain ⟨t3, hw3⟩ : ∃ t3, IntKind.i64.wrap (t2 + (val.size : Int)) = t3 := ⟨_, rfl⟩
      have HSN := Lib.hid (show t3 = IntKind.i64.wrap (sizeC ((cels l).take (k + 1)) : Int) by
        rw [hst, ← hw3, ← hw2, ← hw1, Ht.out, wrap_add, wrap_add, Int.add_assoc, wrap_add, Int.add_assoc]
        congr 1
        omega)
      clear HL HST HE HB0 hst HHN HC HCk hkey hval Ht hkl
      go_wp2_with fail
      refine wp_region_noPanic ?_
      refine wp_region_sch (fun wx => wx.cell? ⟨g, off + k * 2, none⟩ = some (.string key) ∧ wx.cell? ⟨g, off + k * 2 + 1, none⟩ = some (.string val)) (fun i => [].contains i)
        (.takes [0, 1, 2, 3, 4, 5, 6, 7, 8, 9, 10, 11, 12, 13, 14, 15, 16] .done) (by kernel_rfl) (fun _ _ _ _ _ h => h) (by kernel_rfl) ?_
      rw [hwd]
      iterate 17 (
        refine sch_takes_cons ?_
        first
          | (refine sch_take (v := ?_) rfl (by assumption) (by rfl) ?_ ?_; rotate_left; (focus (intro wy hSy; (try dsimp only at hSy); go_simp; (try with_reducible rfl))))
          | (refine sch_pass rfl (by assumption) (by rfl) ?_)
        simp only [Act.put, List.setIfInBounds_toArray, List.set_cons_zero, List.set_cons_succ])
      refine sch_takes_nil ?_
      refine sch_done ?_
      refine NoPanic.normal ?_
      clear hHeld
      go_wp2_with fail
      go_roundw
      case rel => exact ⟨k + 1, t3, by omega, by go_num, rfl, HSN, HBd⟩
      case measure => simp [intOf]; omega
    · have hkI : ¬ (k : Int) < (n : Int) := by omega
      obtain rfl : k = n := by omega
      have HT := Lib.hid (show t = IntKind.i64.wrap (sizeC (cels l) : Int) by rw [Ht.out, HE.out])
      clear HL HST HE HB0 HHN Ht
      go_wp2_with fail
      go_ret
      exact ⟨by rw [← HT.out]; rfl, HBk.out⟩

instance (l : List Cel) : Decidable (Rgt l) := by unfold Rgt Srt; infer_instance
/-- Are they valid? -/
def rgtB (l : List Cel) : Bool := decide (Rgt l)
theorem Rgt.take {l : List Cel} (h : Rgt l) (n : Nat) : Rgt (l.take n) := ⟨h.1.sublist (List.take_sublist _ _), fun x hx => h.2 x (List.mem_of_mem_take hx)⟩
/-- One more: it fits, and its key is above the last one's. -/
theorem rgt_step {l : List Cel} {k : Nat} (hk : k < l.length) (h : Rgt (l.take k)) : Rgt (l.take (k + 1)) ↔ fitC l[k] = true ∧ (0 < k → ble (l[k]).1 (l[k - 1]'(by omega)).1 = false) := by
  rw [List.take_succ_eq_append_getElem hk]
  constructor
  · intro hr
    refine ⟨hr.2 _ (List.mem_append_right _ (List.mem_singleton.2 rfl)), fun h0 => ?_⟩
    have hp := (List.pairwise_append.1 hr.1).2.2 (l[k - 1]'(by omega)) (by
      rw [← List.getElem_take (j := k) (h := by rw [List.length_take]; omega)]
      exact List.getElem_mem _) l[k] (List.mem_singleton.2 rfl)
    rw [ble_not, hp]
    rfl
  · rintro ⟨hf, hb⟩
    refine ⟨List.pairwise_append.2 ⟨h.1, by simp, fun a ha b hb' => ?_⟩, fun x hx => ?_⟩
    · have eb : b = l[k] := by simpa using hb'
      subst eb
      obtain ⟨i, hi, rfl⟩ := List.getElem_of_mem ha
      have hi' : i < k := by rw [List.length_take] at hi; omega
      rw [List.getElem_take]
      have h1 := hb (by omega)
      rw [ble_not] at h1
      have h2 : bl (l[k - 1]'(by omega)).1 l[k].1 = true := by simpa using h1
      by_cases e : i = k - 1
      · subst e
        exact h2
      · refine bl_trans ?_ h2
        have := List.pairwise_iff_getElem.1 h.1 i (k - 1) (by rw [List.length_take]; omega) (by rw [List.length_take]; omega) (by omega)
        rw [List.getElem_take, List.getElem_take] at this
        exact this
    · rcases List.mem_append.1 hx with hx | hx
      · exact h.2 x hx
      · have : x = l[k] := by simpa using hx
        rw [this]
        exact hf
theorem rgtB_no {l : List Cel} {k : Nat} (h : ¬ Rgt (l.take k)) : rgtB l = false := decide_eq_false fun hr => h (hr.take k)

set_option maxRecDepth 100000 in
set_option maxHeartbeats 4000000 in
theorem cright_any (A : Option Addr) (n c : Nat) (l : List CB) (w : World) (hl : Cels w A l) (hn : l.length = n) (hnb : n ≤ 1000000) : Calls Try.prog 14 #[.slice A n c] w fun e w' => e = .returned (.bool (rgtB (cels l))) ∧ Below w.heap.size w w' := by
  have HL := Lib.hid hl
  have HST := Lib.hid (fun k (hk : k < l.length) (h : Rgt ((cels l).take k)) => show Rgt ((cels l).take (k + 1)) ↔ fitC (cel l[k]) = true ∧ (0 < k → ble (l[k]).1.toList (l[k - 1]'(Nat.lt_of_le_of_lt (Nat.sub_le _ _) hk)).1.toList = false) by
    have hk' : k < (cels l).length := by rw [cels_length]; exact hk
    rw [rgt_step hk' h, cels_get l k hk, cels_get l (k - 1) (Nat.lt_of_le_of_lt (Nat.sub_le _ _) hk)]
    rfl)
  have HNO := Lib.hid (fun k (h : ¬ Rgt ((cels l).take k)) => rgtB_no h)
  have HE := Lib.hid (fun h : Rgt ((cels l).take n) => show rgtB (cels l) = true by
    rw [List.take_of_length_le (by rw [cels_length]; omega)] at h
    exact decide_eq_true h)
  have HB0 := Lib.hid (Below.refl w.heap.size w)
  have HF := Lib.hid (fun (k v : ByteArray) wx => cfits_any k v wx)
  have nI : (n : Int) ≤ 1000000 := by omega
  have HHN := Lib.hid (fun _ : Unit => hn)
  have HR0 := Lib.hid (show Rgt ((cels l).take 0) by rw [List.take_zero]; exact ⟨List.Pairwise.nil, fun x hx => by cases hx⟩)
  clear hl hn hnb
  go_enter Try.func14, Try.ntmps14
  go_wp2_with fail
  go_loopw [3] (fun i wr => ∃ k : Nat, k ≤ n ∧ i = .int .i64 (k : Int) ∧ Hid (Rgt ((cels l).take k)) ∧ Hid (Below w.heap.size w wr)) (fun i _ => n - (intOf i).toNat)
  case atStart => exact ⟨0, Nat.zero_le _, rfl, HR0, HB0⟩
  case round =>
    obtain ⟨k, hk, rfl, HRk, HBk⟩ := hrel
    by_cases hlt : k < n
    · have hkI : (k : Int) < (n : Int) := by omega
      have hkl : k < l.length := by have := HHN.out (); omega
      obtain ⟨g, off, rfl, HC⟩ := HL.out.at_ hkl
      have hst := HST.out k hkl HRk.out
      have HCp := Lib.hid (fun (h0 : 0 < k) => HC.out (k - 1) (Nat.lt_of_le_of_lt (Nat.sub_le _ _) hkl))
      have hpr : ∃ pk : ByteArray, ∀ h0 : 0 < k, (l[k - 1]'(Nat.lt_of_le_of_lt (Nat.sub_le _ _) hkl)).1 = pk := by
        by_cases h0 : 0 < k
        · exact ⟨_, fun _ => rfl⟩
        · exact ⟨⟨#[]⟩, fun h => (h0 h).elim⟩
      obtain ⟨pk, hpk⟩ := hpr
      obtain ⟨key, hkey⟩ : ∃ key, l[k].1 = key := ⟨_, rfl⟩
      obtain ⟨val, hval⟩ : ∃ val, l[k].2 = val := ⟨_, rfl⟩
      have HCk := Lib.hid (HC.out k hkl)
      rw [hkey, hval] at HCk
      rw [show cel l[k] = cel (key, val) by rw [← hkey, ← hval], hkey] at hst
      have HSK := Lib.hid hst
      have HCq := Lib.hid (fun (h0 : 0 < k) wx hb => show wx.cell? ⟨g, off + (k - 1) * 2, none⟩ = some (.string pk) from hpk h0 ▸ (HCp.out h0 wx hb).1)
      have HSQ := Lib.hid (fun (h0 : 0 < k) => show ble key.toList (l[k - 1]'(Nat.lt_of_le_of_lt (Nat.sub_le _ _) hkl)).1.toList = ble key.toList pk.toList by rw [hpk h0])
      obtain ⟨wd, hwd⟩ : ∃ wd, wr.drew = wd := ⟨_, rfl⟩
      have HBd := Lib.hid (show Below w.heap.size w wd from hwd ▸ ⟨HBk.out.os, HBk.out.tape, HBk.out.output, HBk.out.size, HBk.out.block⟩)
      have hHeld := HCk.out wd HBd.out
      obtain ⟨ft, hft⟩ : ∃ ft, fitC (cel (key, val)) = ft := ⟨_, rfl⟩
      have HFk := Lib.hid (HF.out key val)
      rw [hft] at HFk
      clear HL HST HE HB0 HF HHN HC HCp hkey hval hst hpk
      cases ft with
      | false =>
        have HG := Lib.hid (HNO.out (k + 1) fun h => by have := (HSK.out.1 h).1; rw [hft] at this; cases this)
        have HH5 := Lib.hid (fun wx hb => HCk.out wx hb)
        clear HNO HSK HCq HSQ HCk hft HRk
        go_wp2_with fail
        refine wp_region_noPanic ?_
        refine wp_region_sch (fun wx => wx.cell? ⟨g, off + k * 2, none⟩ = some (.string key) ∧ wx.cell? ⟨g, off + k * 2 + 1, none⟩ = some (.string val)) (fun i => [4].contains i)
          (.takes [0, 1, 2, 3] (.run 4 (.takes [5, 6, 7, 8, 9, 10, 11, 12, 13, 14, 15, 16, 17, 18, 19, 20, 21, 22, 23] .done))) (by kernel_rfl) (fun _ _ _ _ _ h => h) (by kernel_rfl) ?_
        rw [hwd]
        iterate 4 (
          refine sch_takes_cons ?_
          first
            | (refine sch_take (v := ?_) rfl (by assumption) (by rfl) ?_ ?_; rotate_left; (focus (intro wy hSy; (try dsimp only at hSy); go_simp; (try with_reducible rfl))))
            | (refine sch_pass rfl (by assumption) (by rfl) ?_)
          simp only [Act.put, List.setIfInBounds_toArray, List.set_cons_zero, List.set_cons_succ])
        refine sch_takes_nil ?_
        refine sch_run rfl (fun K hK => ?_)
        go_simp
        with_reducible refine (HFk.out _).mono ?_
        rintro e w5 ⟨rfl, hb5⟩
        have HB5 := Lib.hid (HBd.out.trans (hb5.mono HBd.out.size))
        have hHeld := HH5.out w5 HB5.out
        clear hb5
        refine hK.out _ _ (fun _ => hHeld) ?_
        clear hK K
        try simp only [Act.put, List.setIfInBounds_toArray, List.set_cons_zero, List.set_cons_succ]
        iterate 19 (
          refine sch_takes_cons ?_
          first
            | (refine sch_take (v := ?_) rfl (by assumption) (by rfl) ?_ ?_; rotate_left; (focus (intro wy hSy; (try dsimp only at hSy); go_simp; (try with_reducible rfl))))
            | (refine sch_pass rfl (by assumption) (by rfl) ?_)
          simp only [Act.put, List.setIfInBounds_toArray, List.set_cons_zero, List.set_cons_succ])
        refine sch_takes_nil ?_
        refine sch_done ?_
        refine NoPanic.normal ?_
        clear hHeld
        go_wp2_with fail
        rw [HG.out]
        go_ret
        exact ⟨rfl, HB5.out⟩
      | true =>
        by_cases h0 : k = 0
        · have hkp : decide ((0 : Int) < (k : Int)) = false := decide_eq_false (by omega)
          have hkp2 : decide (0 < k) = false := decide_eq_false (by omega)
          have HG := Lib.hid (HSK.out.2 ⟨hft, fun h => absurd h (by omega)⟩)
          have HH5 := Lib.hid (fun wx hb => HCk.out wx hb)
          clear HNO HSK HCq HSQ HCk hft HRk h0
          go_wp2_with fail
          refine wp_region_noPanic ?_
          refine wp_region_sch (fun wx => wx.cell? ⟨g, off + k * 2, none⟩ = some (.string key) ∧ wx.cell? ⟨g, off + k * 2 + 1, none⟩ = some (.string val)) (fun i => [4].contains i)
            (.takes [0, 1, 2, 3] (.run 4 (.takes [5, 6, 7, 8, 9, 10, 11, 12, 13, 14, 15, 16, 17, 18, 19, 20, 21, 22, 23] .done))) (by kernel_rfl) (fun _ _ _ _ _ h => h) (by kernel_rfl) ?_
          rw [hwd]
          iterate 4 (
            refine sch_takes_cons ?_
            first
              | (refine sch_take (v := ?_) rfl (by assumption) (by rfl) ?_ ?_; rotate_left; (focus (intro wy hSy; (try dsimp only at hSy); go_simp; (try with_reducible rfl))))
              | (refine sch_pass rfl (by assumption) (by rfl) ?_)
            simp only [Act.put, List.setIfInBounds_toArray, List.set_cons_zero, List.set_cons_succ])
          refine sch_takes_nil ?_
          refine sch_run rfl (fun K hK => ?_)
          go_simp
          with_reducible refine (HFk.out _).mono ?_
          rintro e w5 ⟨rfl, hb5⟩
          have HB5 := Lib.hid (HBd.out.trans (hb5.mono HBd.out.size))
          have hHeld := HH5.out w5 HB5.out
          clear hb5
          refine hK.out _ _ (fun _ => hHeld) ?_
          clear hK K
          try simp only [Act.put, List.setIfInBounds_toArray, List.set_cons_zero, List.set_cons_succ]
          iterate 19 (
            refine sch_takes_cons ?_
            first
              | (refine sch_take (v := ?_) rfl (by assumption) (by rfl) ?_ ?_; rotate_left; (focus (intro wy hSy; (try dsimp only at hSy); go_simp; (try with_reducible rfl))))
              | (refine sch_pass rfl (by assumption) (by rfl) ?_)
            simp only [Act.put, List.setIfInBounds_toArray, List.set_cons_zero, List.set_cons_succ])
          refine sch_takes_nil ?_
          refine sch_done ?_
          refine NoPanic.normal ?_
          clear hHeld
          go_wp2_with fail
          go_roundw
          case rel => exact ⟨k + 1, by omega, by go_num, HG, HB5⟩
          case measure => simp [intOf]; omega
        · obtain ⟨q, hq⟩ : ∃ q, q = k - 1 := ⟨_, rfl⟩
          have hp0 : 0 < k := by omega
          have hsub : (k : Int) - 1 = (q : Int) := by omega
          have hwq : IntKind.i64.wrap (q : Int) = (q : Int) := IntWalk.i64_in _ (by omega)
          have hkp : (0 : Int) < (k : Int) := by omega
          have hqn : (q : Int) < (n : Int) := by omega
          have HH5 := Lib.hid (fun wx hb => And.intro (HCk.out wx hb) (hq ▸ HCq.out hp0 wx hb : wx.cell? ⟨g, off + q * 2, none⟩ = some (.string pk)))
          have hHeld := HH5.out wd HBd.out
          cases hle : ble key.toList pk.toList with
          | true =>
            have hcmp : (Op.bytesLess key.toList pk.toList || key.toList == pk.toList) = true := hle
            have HG := Lib.hid (HNO.out (k + 1) fun h => by have := (HSK.out.1 h).2 hp0; rw [HSQ.out hp0, hle] at this; cases this)
            clear HNO HSK HCq HSQ HCk hft HRk hle hq h0
            go_wp2_with fail
            refine wp_region_noPanic ?_
            refine wp_region_sch (fun wx => (wx.cell? ⟨g, off + k * 2, none⟩ = some (.string key) ∧ wx.cell? ⟨g, off + k * 2 + 1, none⟩ = some (.string val)) ∧ wx.cell? ⟨g, off + q * 2, none⟩ = some (.string pk)) (fun i => [4].contains i)
              (.takes [0, 1, 2, 3] (.run 4 (.takes [5, 6, 7, 8, 9, 10, 11, 12, 13, 14, 15, 16, 17, 18, 19, 20, 21, 22, 23] .done))) (by kernel_rfl) (fun _ _ _ _ _ h => h) (by kernel_rfl) ?_
            rw [hwd]
            iterate 4 (
              refine sch_takes_cons ?_
              first
                | (refine sch_take (v := ?_) rfl (by assumption) (by rfl) ?_ ?_; rotate_left; (focus (intro wy hSy; (try dsimp only at hSy); go_simp; (try with_reducible rfl))))
                | (refine sch_pass rfl (by assumption) (by rfl) ?_)
              simp only [Act.put, List.setIfInBounds_toArray, List.set_cons_zero, List.set_cons_succ])
            refine sch_takes_nil ?_
            refine sch_run rfl (fun K hK => ?_)
            go_simp
            with_reducible refine (HFk.out _).mono ?_
            rintro e w5 ⟨rfl, hb5⟩
            have HB5 := Lib.hid (HBd.out.trans (hb5.mono HBd.out.size))
            have hHeld := HH5.out w5 HB5.out
            clear hb5
            refine hK.out _ _ (fun _ => hHeld) ?_
            clear hK K
            try simp only [Act.put, List.setIfInBounds_toArray, List.set_cons_zero, List.set_cons_succ]
            iterate 19 (
              refine sch_takes_cons ?_
              first
                | (refine sch_take (v := ?_) rfl (by assumption) (by rfl) ?_ ?_; rotate_left; (focus (intro wy hSy; (try dsimp only at hSy); go_simp; (try with_reducible rfl))))
                | (refine sch_pass rfl (by assumption) (by rfl) ?_)
              simp only [Act.put, List.setIfInBounds_toArray, List.set_cons_zero, List.set_cons_succ])
            refine sch_takes_nil ?_
            refine sch_done ?_
            refine NoPanic.normal ?_
            clear hHeld
            go_wp2_with fail
            rw [HG.out]
            go_ret
            exact ⟨rfl, HB5.out⟩
          | false =>
            have hcmp : (Op.bytesLess key.toList pk.toList || key.toList == pk.toList) = false := hle
            have HG := Lib.hid (HSK.out.2 ⟨hft, fun h => by rw [HSQ.out h, hle]⟩)
            clear HNO HSK HCq HSQ HCk hft HRk hle hq h0
            go_wp2_with fail
            refine wp_region_noPanic ?_
            refine wp_region_sch (fun wx => (wx.cell? ⟨g, off + k * 2, none⟩ = some (.string key) ∧ wx.cell? ⟨g, off + k * 2 + 1, none⟩ = some (.string val)) ∧ wx.cell? ⟨g, off + q * 2, none⟩ = some (.string pk)) (fun i => [4].contains i)
              (.takes [0, 1, 2, 3] (.run 4 (.takes [5, 6, 7, 8, 9, 10, 11, 12, 13, 14, 15, 16, 17, 18, 19, 20, 21, 22, 23] .done))) (by kernel_rfl) (fun _ _ _ _ _ h => h) (by kernel_rfl) ?_
            rw [hwd]
            iterate 4 (
              refine sch_takes_cons ?_
              first
                | (refine sch_take (v := ?_) rfl (by assumption) (by rfl) ?_ ?_; rotate_left; (focus (intro wy hSy; (try dsimp only at hSy); go_simp; (try with_reducible rfl))))
                | (refine sch_pass rfl (by assumption) (by rfl) ?_)
              simp only [Act.put, List.setIfInBounds_toArray, List.set_cons_zero, List.set_cons_succ])
            refine sch_takes_nil ?_
            refine sch_run rfl (fun K hK => ?_)
            go_simp
            with_reducible refine (HFk.out _).mono ?_
            rintro e w5 ⟨rfl, hb5⟩
            have HB5 := Lib.hid (HBd.out.trans (hb5.mono HBd.out.size))
            have hHeld := HH5.out w5 HB5.out
            clear hb5
            refine hK.out _ _ (fun _ => hHeld) ?_
            clear hK K
            try simp only [Act.put, List.setIfInBounds_toArray, List.set_cons_zero, List.set_cons_succ]
            iterate 19 (
              refine sch_takes_cons ?_
              first
                | (refine sch_take (v := ?_) rfl (by assumption) (by rfl) ?_ ?_; rotate_left; (focus (intro wy hSy; (try dsimp only at hSy); go_simp; (try with_reducible rfl))))
                | (refine sch_pass rfl (by assumption) (by rfl) ?_)
              simp only [Act.put, List.setIfInBounds_toArray, List.set_cons_zero, List.set_cons_succ])
            refine sch_takes_nil ?_
            refine sch_done ?_
            refine NoPanic.normal ?_
            clear hHeld
            go_wp2_with fail
            go_roundw
            case rel => exact ⟨k + 1, by omega, by go_num, HG, HB5⟩
            case measure => simp [intOf]; omega
    · have hkI : ¬ (k : Int) < (n : Int) := by omega
      obtain rfl : k = n := by omega
      have HT := Lib.hid (HE.out HRk.out)
      clear HL HST HE HB0 HHN HNO HF
      go_wp2_with fail
      rw [HT.out]
      go_ret
      exact ⟨rfl, HBk.out⟩

end Go.Proofs.Ytbganaaiaokfmaa
