/-
  The document's Find and At of cells.
-/
import Derived.Test.YtbganaaiaokfmaaCelRefA
namespace Go.Proofs.Ytbganaaiaokfmaa
open Go.RowKit

/-- What Find answers. -/
def findP (l : List Cel) (k : Txt) : Option Txt := if rgtB l = true then findC l k else none
def findV (o : Option Txt) : Value := match o with
  | none => .tuple #[.string ⟨#[]⟩, .bool false]
  | some v => .tuple #[.string ⟨v.toArray⟩, .bool true]
/-- What At answers. -/
def atP (l : List Cel) (k : Txt) : Int := if rgtB l = true then (uptoN l k : Int) - 1 else -1
theorem text_back (s : ByteArray) : (⟨s.toList.toArray⟩ : ByteArray) = s := by rw [ByteArray.toList_eq]

set_option maxRecDepth 100000 in
set_option maxHeartbeats 4000000 in
theorem cfind_any (A : Option Addr) (n c : Nat) (l : List CB) (key : ByteArray) (w : World) (hl : Cels w A l) (hn : l.length = n) (hnb : n ≤ 1000000) : Calls Try.prog 10 #[.slice A n c, .string key] w fun e w' => e = .returned (findV (findP (cels l) key.toList)) ∧ Below w.heap.size w w' := by
  have HL := Lib.hid hl
  have HRT := Lib.hid (fun wx (hb : Below w.heap.size w wx) => cright_any A n c l wx (hl.keeps hb) hn hnb)
  have HB0 := Lib.hid (Below.refl w.heap.size w)
  have nI : (n : Int) ≤ 1000000 := by omega
  have HHN := Lib.hid (fun _ : Unit => hn)
  have HEMP := Lib.hid (show n = 0 → findP (cels l) key.toList = none from fun h0 => by
    have : l = [] := List.length_eq_zero_iff.1 (by omega)
    subst this
    unfold findP
    split <;> rfl)
  cases hr : rgtB (cels l) with
  | false =>
    have HF := Lib.hid (show findP (cels l) key.toList = none by unfold findP; rw [hr]; rfl)
    rw [HF.out]
    rw [hr] at HRT
    have HR0 := Lib.hid (HRT.out w (Below.refl _ _))
    clear hl HL HRT HEMP HF hr
    by_cases h0 : n = 0
    · have g0 : ¬ (0 : Int) < (n : Int) := by omega
      go_enter Try.func10, Try.ntmps10
      go_wp2_with fail
      go_loopw [6] (fun i wr => i = .int .i64 0 ∧ Hid (Below w.heap.size w wr)) (fun _ _ => 0)
      case atStart => exact ⟨rfl, HB0⟩
      case round =>
        obtain ⟨rfl, HBk⟩ := hrel
        go_wp2_with fail
        go_ret2
        exact ⟨rfl, HBk.out⟩
    · have g0 : (0 : Int) < (n : Int) := by omega
      go_enter Try.func10, Try.ntmps10
      go_wp2_with fail
      go_loopw [6] (fun i wr => i = .int .i64 0 ∧ wr = w) (fun _ _ => 0)
      case atStart => exact ⟨rfl, rfl⟩
      case round =>
        obtain ⟨rfl, rfl⟩ := hrel
        go_wp2_with fail
        refine HR0.out.mono ?_
        rintro e w1 ⟨rfl, hb1⟩
        have HB1 := Lib.hid hb1
        clear hb1
        go_wp2_with fail
        go_ret2
        exact ⟨rfl, HB1.out⟩
  | true =>
    have hR : Rgt (cels l) := of_decide_eq_true hr
    have HF := Lib.hid (show findP (cels l) key.toList = findC (cels l) key.toList by unfold findP; rw [hr]; rfl)
    rw [HF.out]
    rw [hr] at HRT
    have HYES := Lib.hid (fun k (hk : k < l.length) (h : l[k].1.toList = key.toList) => show findC (cels l) key.toList = some l[k].2.toList by
      refine (find_iff hR.1).2 ?_
      have : cel l[k] ∈ cels l := List.mem_map.2 ⟨_, List.getElem_mem hk, rfl⟩
      have e : cel l[k] = (key.toList, l[k].2.toList) := by unfold cel; rw [h]
      exact e ▸ this)
    have HNO := Lib.hid (fun (h : ∀ i (hi : i < l.length), l[i].1.toList ≠ key.toList) => show findC (cels l) key.toList = none by
      refine find_none.2 fun x hx => ?_
      obtain ⟨y, hy, rfl⟩ := List.mem_map.1 hx
      obtain ⟨i, hi, rfl⟩ := List.getElem_of_mem hy
      exact h i hi)
    clear hl HEMP HF hR hr
    go_enter Try.func10, Try.ntmps10
    go_wp2_with fail
    go_loopw [6] (fun i wr => ∃ k : Nat, k ≤ n ∧ i = .int .i64 (k : Int) ∧ Hid (∀ j (hj : j < l.length), j < k → l[j].1.toList ≠ key.toList) ∧ Hid (Below w.heap.size w wr)) (fun i _ => n - (intOf i).toNat)
    case atStart => exact ⟨0, Nat.zero_le _, rfl, Lib.hid (fun _ _ h => absurd h (Nat.not_lt_zero _)), HB0⟩
    case round =>
      obtain ⟨k, hk, rfl, HNk, HBk⟩ := hrel
      by_cases hlt : k < n
      · have hkI : (k : Int) < (n : Int) := by omega
        have hkl : k < l.length := by have := HHN.out (); omega
        have HRk := Lib.hid (HRT.out wr HBk.out)
        obtain ⟨g, off, rfl, HC⟩ := HL.out.at_ hkl
        have HCk := Lib.hid (HC.out k hkl)
        have hy := HYES.out k hkl
        have HNX := Lib.hid (fun (hne : l[k].1.toList ≠ key.toList) j (hj : j < l.length) (h : j < k + 1) => show l[j].1.toList ≠ key.toList by
          by_cases e : j = k
          · subst e; exact hne
          · exact HNk.out j hj (by omega))
        obtain ⟨ky, hky⟩ : ∃ ky, l[k].1 = ky := ⟨_, rfl⟩
        obtain ⟨vl, hvl⟩ : ∃ vl, l[k].2 = vl := ⟨_, rfl⟩
        rw [hky, hvl] at HCk hy
        rw [hky] at HNX
        have HY := Lib.hid hy
        clear hy HL HRT HC HYES HNO HNk HB0 hky hvl hkl
        go_wp2_with fail
        refine HRk.out.mono ?_
        rintro e w1 ⟨rfl, hb1⟩
        have HB1 := Lib.hid (HBk.out.trans (hb1.mono HBk.out.size))
        obtain ⟨c0, c1⟩ := HCk.out w1 HB1.out
        clear hb1 HRk HBk HCk
        by_cases heq : ky.toList = key.toList
        · have hcmp : (ky.toList == key.toList) = true := by rw [heq]; exact beq_self_eq_true _
          have HYY := Lib.hid (HY.out heq)
          clear HY HNX heq
          go_wp2_with fail
          go_ret2
          exact ⟨by rw [HYY.out]; show _ = Ending.returned (.tuple #[.string ⟨vl.toList.toArray⟩, .bool true]); rw [text_back]; rfl, HB1.out⟩
        · have hcmp : (ky.toList == key.toList) = false := beq_eq_false_iff_ne.2 heq
          have HNN := Lib.hid (HNX.out heq)
          clear HY HNX heq
          go_wp2_with fail
          go_roundw
          case rel => exact ⟨k + 1, by omega, by go_num, HNN, HB1⟩
          case measure => simp [intOf]; omega
      · have hkI : ¬ (k : Int) < (n : Int) := by omega
        obtain rfl : k = n := by omega
        have HT := Lib.hid (HNO.out fun i hi => HNk.out i hi (by have := HHN.out (); omega))
        clear HL HRT HYES HNO HNk HB0 HHN
        go_wp2_with fail
        go_ret2
        exact ⟨by rw [HT.out]; rfl, HBk.out⟩

set_option maxRecDepth 100000 in
set_option maxHeartbeats 4000000 in
theorem cat_any (A : Option Addr) (n c : Nat) (l : List CB) (key : ByteArray) (w : World) (hl : Cels w A l) (hn : l.length = n) (hnb : n ≤ 1000000) : Calls Try.prog 21 #[.slice A n c, .string key] w fun e w' => e = .returned (.int .i64 (atP (cels l) key.toList)) ∧ Below w.heap.size w w' := by
  have HL := Lib.hid hl
  have HRT := Lib.hid (fun wx (hb : Below w.heap.size w wx) => cright_any A n c l wx (hl.keeps hb) hn hnb)
  have HB0 := Lib.hid (Below.refl w.heap.size w)
  have nI : (n : Int) ≤ 1000000 := by omega
  have HHN := Lib.hid (fun _ : Unit => hn)
  cases hr : rgtB (cels l) with
  | false =>
    have HF := Lib.hid (show atP (cels l) key.toList = -1 by unfold atP; rw [hr]; rfl)
    rw [HF.out]
    rw [hr] at HRT
    have HR0 := Lib.hid (HRT.out w (Below.refl _ _))
    clear hl HL HRT HF hr
    by_cases h0 : n = 0
    · have g0 : ¬ (0 : Int) < (n : Int) := by omega
      go_enter Try.func21, Try.ntmps21
      go_wp2_with fail
      go_loopw [5, 6] (fun s i wr => s = .int .i64 (-1) ∧ i = .int .i64 0 ∧ Hid (Below w.heap.size w wr)) (fun _ _ _ => 0)
      case atStart => exact ⟨rfl, rfl, HB0⟩
      case round =>
        obtain ⟨rfl, rfl, HBk⟩ := hrel
        go_wp2_with fail
        go_ret
        exact ⟨rfl, HBk.out⟩
    · have g0 : (0 : Int) < (n : Int) := by omega
      go_enter Try.func21, Try.ntmps21
      go_wp2_with fail
      go_loopw [5, 6] (fun s i wr => s = .int .i64 (-1) ∧ i = .int .i64 0 ∧ wr = w) (fun _ _ _ => 0)
      case atStart => exact ⟨rfl, rfl, rfl⟩
      case round =>
        obtain ⟨rfl, rfl, rfl⟩ := hrel
        go_wp2_with fail
        refine HR0.out.mono ?_
        rintro e w1 ⟨rfl, hb1⟩
        have HB1 := Lib.hid hb1
        clear hb1
        go_wp2_with fail
        go_ret
        exact ⟨rfl, HB1.out⟩
  | true =>
    have hR : Rgt (cels l) := of_decide_eq_true hr
    have HF := Lib.hid (show atP (cels l) key.toList = (uptoN (cels l) key.toList : Int) - 1 by unfold atP; rw [hr]; rfl)
    have hu : uptoN (cels l) key.toList ≤ n := by have := cnt_le (cels l) (fun x => ble x key.toList); rw [cels_length, hn] at this; exact this
    rw [HF.out]
    rw [hr] at HRT
    have HIF := Lib.hid (fun k (hk : k < l.length) => show k < uptoN (cels l) key.toList ↔ ble l[k].1.toList key.toList = true by
      have := cnt_iff (low_ble key.toList) hR.1 (i := k) (by rw [cels_length]; exact hk)
      rw [cels_get l k hk] at this
      exact this)
    obtain ⟨U, hU⟩ : ∃ U, uptoN (cels l) key.toList = U := ⟨_, rfl⟩
    rw [hU] at HIF hu ⊢
    have HU := Lib.hid (fun _ : Unit => hu)
    clear hl HF hR hr hU hn hnb hu
    go_enter Try.func21, Try.ntmps21
    go_wp2_with fail
    go_loopw [5, 6] (fun s i wr => ∃ (k : Nat) (t : Int), k ≤ n ∧ i = .int .i64 (k : Int) ∧ s = .int .i64 t ∧ Hid (t = (min k U : Nat) - 1) ∧ Hid (Below w.heap.size w wr)) (fun _ i _ => n - (intOf i).toNat)
    case atStart => exact ⟨0, -1, Nat.zero_le _, rfl, rfl, Lib.hid (by rw [Nat.zero_min]; rfl), HB0⟩
    case round =>
      obtain ⟨k, t, hk, rfl, rfl, Ht, HBk⟩ := hrel
      by_cases hlt : k < n
      · have hkI : (k : Int) < (n : Int) := by omega
        have hkl : k < l.length := by have := HHN.out (); omega
        have HRk := Lib.hid (HRT.out wr HBk.out)
        obtain ⟨g, off, rfl, HC⟩ := HL.out.at_ hkl
        have HCk := Lib.hid (HC.out k hkl)
        have hy := HIF.out k hkl
        obtain ⟨ky, hky⟩ : ∃ ky, l[k].1 = ky := ⟨_, rfl⟩
        obtain ⟨vl, hvl⟩ : ∃ vl, l[k].2 = vl := ⟨_, rfl⟩
        rw [hky, hvl] at HCk
        rw [hky] at hy
        have HY := Lib.hid hy
        clear hy HL HRT HC HIF HB0 hky hvl hkl
        go_wp2_with fail
        refine HRk.out.mono ?_
        rintro e w1 ⟨rfl, hb1⟩
        have HB1 := Lib.hid (HBk.out.trans (hb1.mono HBk.out.size))
        obtain ⟨c0, -⟩ := HCk.out w1 HB1.out
        clear hb1 HRk HBk HCk
        cases hle : ble ky.toList key.toList with
        | true =>
          have hcmp : (Op.bytesLess ky.toList key.toList || ky.toList == key.toList) = true := hle
          have HYY := Lib.hid (HY.out.2 hle)
          clear HY hle
          go_wp2_with fail
          go_roundw
          case rel => exact ⟨k + 1, (k : Int), by omega, by go_num, rfl, Lib.hid (by have := HYY.out; omega), HB1⟩
          case measure => simp [intOf]; omega
        | false =>
          have hcmp : (Op.bytesLess ky.toList key.toList || ky.toList == key.toList) = false := hle
          have HYY := Lib.hid (show ¬ k < U from fun h => by have := HY.out.1 h; rw [hle] at this; cases this)
          clear HY hle
          go_wp2_with fail
          go_roundw
          case rel => exact ⟨k + 1, t, by omega, by go_num, rfl, Lib.hid (by have := HYY.out; have := Ht.out; omega), HB1⟩
          case measure => simp [intOf]; omega
      · have hkI : ¬ (k : Int) < (n : Int) := by omega
        have HT := Lib.hid (show t = (U : Int) - 1 by have := Ht.out; have := HU.out (); omega)
        clear HL HRT HIF HB0 HHN Ht
        go_wp2_with fail
        go_ret
        exact ⟨by rw [← HT.out]; rfl, HBk.out⟩
end Go.Proofs.Ytbganaaiaokfmaa
