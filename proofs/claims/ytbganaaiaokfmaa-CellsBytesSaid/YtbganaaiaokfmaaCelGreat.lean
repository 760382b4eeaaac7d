/-
  Which cells are more than the statements look at.
-/
import Derived.Test.YtbganaaiaokfmaaCelRefA
namespace Go.Proofs.Ytbganaaiaokfmaa
open Go.RowKit

/-- The bytes of keys and values. -/
def kvB (l : List CB) : Nat := (l.map fun x => x.1.size + x.2.size).sum
def greatB (l : List CB) : Bool := decide (50 < l.length ∨ 20000 < IntKind.i64.wrap (kvB (l.take 50) : Int))
theorem kvB_step (l : List CB) (k : Nat) (h : k < l.length) : kvB (l.take (k + 1)) = kvB (l.take k) + l[k].1.size + l[k].2.size := by
  unfold kvB
  rw [List.take_succ_eq_append_getElem h, List.map_append, List.sum_append]
  simp
  omega
set_option maxRecDepth 100000 in
set_option maxHeartbeats 2000000 in
theorem cgreat_any (A : Option Addr) (n c : Nat) (l : List CB) (w : World) (hl : Cels w A l) (hn : l.length = n) (hnb : n ≤ 9223372036854775807) : Calls Try.prog 7 #[.slice A n c] w fun e w' => e = .returned (.bool (greatB l)) ∧ Below w.heap.size w w' := by
  have HL := Lib.hid hl
  have HST := Lib.hid (fun k (hk : k < l.length) => kvB_step l k hk)
  have HB0 := Lib.hid (Below.refl w.heap.size w)
  have nI : (n : Int) ≤ 9223372036854775807 := by omega
  have HHN := Lib.hid (fun _ : Unit => hn)
  have HEND := Lib.hid (show ∀ (k : Nat) (t : Int), k ≤ n → (k = n ∨ k = 50) → k ≤ 50 → t = IntKind.i64.wrap (kvB (l.take k) : Int) → greatB l = decide (50 < n ∨ 20000 < t) from fun k t h1 h2 h3 h4 => by
    have e : l.take 50 = l.take k := by
      rcases h2 with h2 | h2
      · rw [List.take_of_length_le (by omega), List.take_of_length_le (by omega)]
      · rw [h2]
    unfold greatB
    rw [e, ← h4, hn])
  clear hl hn hnb
  go_enter Try.func7, Try.ntmps7
  go_wp2_with fail
  go_loopw [3, 4] (fun s i wr => ∃ (k : Nat) (t : Int), k ≤ n ∧ k ≤ 50 ∧ i = .int .i64 (k : Int) ∧ s = .int .i64 t ∧ Hid (t = IntKind.i64.wrap (kvB (l.take k) : Int)) ∧ Hid (Below w.heap.size w wr)) (fun _ i _ => 50 - (intOf i).toNat)
  case atStart => exact ⟨0, 0, Nat.zero_le _, Nat.zero_le _, rfl, rfl, Lib.hid (by rw [List.take_zero]; decide), HB0⟩
  case round =>
    obtain ⟨k, t, hk, hk5, rfl, rfl, Ht, HBk⟩ := hrel
    by_cases hlt : k < n ∧ k < 50
    · have hkI : (k : Int) < (n : Int) := by omega
      have hkJ : (k : Int) < 50 := by omega
      have hk1 : k + 1 ≤ n := by omega
      have hk2 : k + 1 ≤ 50 := by omega
      have hkl : k < l.length := by have := HHN.out (); omega
      obtain ⟨g, off, rfl, HC⟩ := HL.out.at_ hkl
      have hst := HST.out k hkl
      obtain ⟨key, hkey⟩ : ∃ key, l[k].1 = key := ⟨_, rfl⟩
      obtain ⟨val, hval⟩ : ∃ val, l[k].2 = val := ⟨_, rfl⟩
      have HCk := Lib.hid (HC.out k hkl)
      rw [hkey, hval] at HCk
      rw [hkey, hval] at hst
      obtain ⟨wd, hwd⟩ : ∃ wd, wr.drew = wd := ⟨_, rfl⟩
      have HBd := Lib.hid (show Below w.heap.size w wd from hwd ▸ ⟨HBk.out.os, HBk.out.tape, HBk.out.output, HBk.out.size, HBk.out.block⟩)
      have hHeld := HCk.out wd HBd.out
      obtain ⟨t1, hw1⟩ : ∃ t1, IntKind.i64.wrap (t + (key.size : Int)) = t1 := ⟨_, rfl⟩
      obtain ⟨t2, hw2⟩ : ∃ t2, IntKind.i64.wrap (t1 + (val.size : Int)) = t2 := ⟨_, rfl⟩
      have HSN := Lib.hid (show t2 = IntKind.i64.wrap (kvB (l.take (k + 1)) : Int) by
        rw [hst, ← hw2, ← hw1, Ht.out, wrap_add, Int.add_assoc, wrap_add]
        congr 1
        omega)
      clear HL HST HB0 hst HHN HC HCk hkey hval Ht hkl hlt hk hk5
      go_wp2_with fail
      refine wp_region_noPanic ?_
      refine wp_region_sch (fun wx => wx.cell? ⟨g, off + k * 2, none⟩ = some (.string key) ∧ wx.cell? ⟨g, off + k * 2 + 1, none⟩ = some (.string val)) (fun i => [].contains i)
        (.takes [0, 1, 2, 3, 4, 5, 6, 7, 8, 9, 10, 11, 12, 13, 14, 15] .done) (by kernel_rfl) (fun _ _ _ _ _ h => h) (by kernel_rfl) ?_
      rw [hwd]
      iterate 16 (
        refine sch_takes_cons ?_
        first
          | (refine sch_take (v := ?_) rfl (by assumption) (by rfl) ?_ ?_; rotate_left; (focus (intro wy hSy; (try dsimp only at hSy); go_simp; (try with_reducible rfl))))
          | (refine sch_pass rfl (by assumption) (by rfl) ?_)
        simp only [Act.put, List.setIfInBounds_toArray, List.set_cons_zero, List.set_cons_succ])
      refine sch_takes_nil ?_
      refine sch_done ?_
      refine NoPanic.normal ?_
      clear hHeld
      go_wp2_with fail
      go_roundw
      case rel => exact ⟨k + 1, t2, hk1, hk2, by go_num, rfl, HSN, HBd⟩
      case measure => simp [intOf]; omega
    · rcases (show (k = n ∧ k < 50) ∨ (k < n ∧ k = 50) ∨ (k = n ∧ k = 50) by omega) with ⟨h1, h2⟩ | ⟨h1, h2⟩ | ⟨h1, h2⟩
      all_goals
        have HG := Lib.hid (HEND.out k t hk (by omega) hk5 Ht.out)
        clear HL HST HB0 HHN HEND Ht hlt
      · obtain rfl := h1
        have g1 : ¬ (50 : Int) < (k : Int) := by omega
        by_cases h3 : 20000 < t
        · have g3 : (20000 : Int) < t := by omega
          rw [decide_eq_true (.inr h3)] at HG
          go_wp2_with fail
          go_ret
          exact ⟨by rw [HG.out]; first | rfl | simp [g1, g3], HBk.out⟩
        · have g3 : ¬ (20000 : Int) < t := by omega
          rw [decide_eq_false (show ¬ (50 < k ∨ 20000 < t) by omega)] at HG
          go_wp2_with fail
          go_ret
          exact ⟨by rw [HG.out]; first | rfl | simp [g1, g3], HBk.out⟩
      · have g0 : (k : Int) < (n : Int) := by omega
        have g1 : (50 : Int) < (n : Int) := by omega
        have g2 : ¬ (k : Int) < 50 := by omega
        rw [decide_eq_true (.inl (by omega))] at HG
        clear h2
        go_wp2_with fail
        go_ret
        exact ⟨by rw [HG.out]; first | rfl | simp [g1], HBk.out⟩
      · obtain rfl := h1
        have g1 : ¬ (50 : Int) < (k : Int) := by omega
        clear h2
        by_cases h3 : 20000 < t
        · have g3 : (20000 : Int) < t := by omega
          rw [decide_eq_true (.inr h3)] at HG
          go_wp2_with fail
          go_ret
          exact ⟨by rw [HG.out]; first | rfl | simp [g1, g3], HBk.out⟩
        · have g3 : ¬ (20000 : Int) < t := by omega
          rw [decide_eq_false (show ¬ (50 < k ∨ 20000 < t) by omega)] at HG
          go_wp2_with fail
          go_ret
          exact ⟨by rw [HG.out]; first | rfl | simp [g1, g3], HBk.out⟩
end Go.Proofs.Ytbganaaiaokfmaa
