/-
  The document's Get: a text at a place; what is read is written again.
-/
import Derived.Test.YtbganaaiaokfmaaCelBytesC
namespace Go.Proofs.Ytbganaaiaokfmaa
open Go.RowKit

theorem tx_cut (s : ByteArray) (i j : Nat) : s.extract i j = tx ((s.toList.take j).drop i) := by
  apply ByteArray.ext
  rw [ByteArray.data_extract, ByteArray.toList_eq]
  apply Array.ext'
  simp [tx, List.drop_take]
theorem cindex_at (s : ByteArray) (j : Nat) (h : j < s.toList.length) : ∀ W : World, (Instr.index 9 (.string s) (.int .i64 (j : Int))).run Try.prog W = .ok (.int .u8 ((s.toList[j]).toNat : Int)) W := fun W => by
  have hz : j < s.size := by rw [← len_size]; exact h
  rw [run_index_string _ _ _ _ _ Try.underlying9, dif_pos ⟨by omega, by omega⟩]
  congr 3
  simp only [ByteArray.toList_eq]
  rfl
/-- What a text at a place comes back as. -/
def textV (o : Option (Txt × Nat)) : Value := match o with
  | none => .tuple #[.string ⟨#[]⟩, .int .i64 (-1)]
  | some (t, a) => .tuple #[.string (tx t), .int .i64 (a : Int)]
theorem two_val {s : List UInt8} {a : Nat} (h : a + 2 ≤ s.length) : val ((s.drop a).take 2) = 256 * (s[a]).toNat + (s[a + 1]).toNat := by
  rw [List.drop_eq_getElem_cons (show a < s.length by omega), List.drop_eq_getElem_cons (show a + 1 < s.length by omega)]
  simp only [List.take_succ_cons, List.take_zero, val, List.foldl_cons, List.foldl_nil]
  omega

set_option maxRecDepth 100000 in
set_option maxHeartbeats 1000000 in
theorem ctext_neg (s : ByteArray) (w : World) : Calls Try.prog 44 #[.string s, .int .i64 (-1)] w fun e w' => e = .returned (textV none) ∧ Below w.heap.size w w' := by
  go_enter Try.func44, Try.ntmps44
  go_wp2_with fail
  go_ret2
  exact ⟨rfl, Below.refl _ _⟩

set_option maxRecDepth 100000 in
set_option maxHeartbeats 2000000 in
theorem ctext_any (s : ByteArray) (a : Nat) (w : World) (hs : s.size ≤ 100000) (ha : a ≤ 1000000) : Calls Try.prog 44 #[.string s, .int .i64 (a : Int)] w fun e w' => e = .returned (textV (rdT s.toList a)) ∧ Below w.heap.size w w' := by
  have hlen := len_size s
  have ga : ¬ (a : Int) < 0 := by omega
  have hw2 : IntKind.i64.wrap ((a : Int) + 2) = (a : Int) + 2 := IntWalk.i64_in _ (by omega)
  by_cases h2 : a + 2 ≤ s.size
  · have g2 : ¬ (s.size : Int) < (a : Int) + 2 := by omega
    have h2' : a + 2 ≤ s.toList.length := by omega
    have hv := two_val h2'
    have ix0 := cindex_at s a (by omega)
    have ix1 := cindex_at s (a + 1) (by omega)
    have hx := (s.toList[a]).toNat_lt
    have hy := (s.toList[a + 1]).toNat_lt
    have hrd : rdT s.toList a = if a + 2 + val ((s.toList.drop a).take 2) ≤ s.size then some ((s.toList.drop (a + 2)).take (val ((s.toList.drop a).take 2)), a + 2 + val ((s.toList.drop a).take 2)) else none := by
      unfold rdT
      by_cases h3 : a + 2 + val ((s.toList.drop a).take 2) ≤ s.size
      · rw [if_pos ⟨h2', by omega⟩, if_pos h3]
      · rw [if_neg (by rintro ⟨_, h⟩; omega), if_neg h3]
    obtain ⟨x, hx0⟩ : ∃ x, (s.toList[a]).toNat = x := ⟨_, rfl⟩
    obtain ⟨y, hy0⟩ : ∃ y, (s.toList[a + 1]).toNat = y := ⟨_, rfl⟩
    rw [hx0] at hx hv ix0
    rw [hy0] at hy hv ix1
    rw [hv] at hrd
    have HRD := Lib.hid hrd
    have HCUT := Lib.hid (fun v => show s.extract (a + 2) (a + 2 + v) = tx ((s.toList.drop (a + 2)).take v) by rw [tx_cut, List.drop_take]; congr 2; omega)
    have hsuc : ((a + 1 : Nat) : Int) = (a : Int) + 1 := by omega
    rw [hsuc] at ix1
    have w1 : IntKind.i64.wrap ((a : Int) + 1) = (a : Int) + 1 := IntWalk.i64_in _ (by omega)
    have w3 : IntKind.i64.wrap (256 * (x : Int)) = 256 * (x : Int) := IntWalk.i64_in _ (by omega)
    have w4 : IntKind.i64.wrap (256 * (x : Int) + (y : Int)) = 256 * (x : Int) + (y : Int) := IntWalk.i64_in _ (by omega)
    have w5 : IntKind.i64.wrap (x : Int) = (x : Int) := IntWalk.i64_in _ (by omega)
    have w6 : IntKind.i64.wrap (y : Int) = (y : Int) := IntWalk.i64_in _ (by omega)
    obtain ⟨v, hvv⟩ : ∃ v : Nat, 256 * x + y = v := ⟨_, rfl⟩
    have hvI : 256 * (x : Int) + (y : Int) = (v : Int) := by omega
    have hvb : v ≤ 70000 := by omega
    rw [hvv] at HRD
    have w7 : IntKind.i64.wrap ((a : Int) + 2 + (v : Int)) = (a : Int) + 2 + (v : Int) := IntWalk.i64_in _ (by omega)
    have hHeld : True := trivial
    clear hrd hv hx0 hy0 h2' hlen hvv
    by_cases h3 : a + 2 + v ≤ s.size
    · have g3 : ¬ (s.size : Int) < (a : Int) + 2 + (v : Int) := by omega
      have HT := Lib.hid (show textV (rdT s.toList a) = .tuple #[.string (s.extract (a + 2) (a + 2 + v)), .int .i64 ((a + 2 + v : Nat) : Int)] by rw [HRD.out, if_pos h3, HCUT.out]; rfl)
      rw [HT.out]
      have g4 : (a : Int) + 2 ≤ (a : Int) + 2 + (v : Int) := by omega
      have g5 : (a : Int) + 2 + (v : Int) ≤ (s.size : Int) := by omega
      clear HRD HCUT HT
      go_enter Try.func44, Try.ntmps44
      go_wp2_with fail
      refine wp_region_noPanic ?_
      refine wp_region_sch (fun _ => True) (fun i => [].contains i)
        (.takes [0, 1, 2, 3, 4, 5, 6, 7, 8, 9, 10, 11] .done) (by kernel_rfl) (fun _ _ _ _ _ h => h) (by kernel_rfl) ?_
      skip
      iterate 12 (
        refine sch_takes_cons ?_
        first
          | (refine sch_take (v := ?_) rfl (by assumption) (by rfl) ?_ ?_; rotate_left; (focus (intro wy hSy; (try dsimp only at hSy); go_simp; (try with_reducible rfl))))
          | (refine sch_pass rfl (by assumption) (by rfl) ?_)
        simp only [Act.put, List.setIfInBounds_toArray, List.set_cons_zero, List.set_cons_succ])
      refine sch_takes_nil ?_
      refine sch_done ?_
      refine NoPanic.normal ?_
      clear hHeld
      go_wp2_with fail
      go_ret2
      exact ⟨by first | rfl | (simp; done), below_drew_c (Below.refl _ _)⟩
    · have g3 : (s.size : Int) < (a : Int) + 2 + (v : Int) := by omega
      have HT := Lib.hid (show textV (rdT s.toList a) = textV none by rw [HRD.out, if_neg h3])
      rw [HT.out]
      clear HRD HCUT HT h3
      go_enter Try.func44, Try.ntmps44
      go_wp2_with fail
      refine wp_region_noPanic ?_
      refine wp_region_sch (fun _ => True) (fun i => [].contains i)
        (.takes [0, 1, 2, 3, 4, 5, 6, 7, 8, 9, 10, 11] .done) (by kernel_rfl) (fun _ _ _ _ _ h => h) (by kernel_rfl) ?_
      skip
      iterate 12 (
        refine sch_takes_cons ?_
        first
          | (refine sch_take (v := ?_) rfl (by assumption) (by rfl) ?_ ?_; rotate_left; (focus (intro wy hSy; (try dsimp only at hSy); go_simp; (try with_reducible rfl))))
          | (refine sch_pass rfl (by assumption) (by rfl) ?_)
        simp only [Act.put, List.setIfInBounds_toArray, List.set_cons_zero, List.set_cons_succ])
      refine sch_takes_nil ?_
      refine sch_done ?_
      refine NoPanic.normal ?_
      clear hHeld
      go_wp2_with fail
      go_ret2
      exact ⟨rfl, below_drew_c (Below.refl _ _)⟩
  · have g2 : (s.size : Int) < (a : Int) + 2 := by omega
    have HT := Lib.hid (show textV (rdT s.toList a) = textV none by unfold rdT; rw [if_neg (by rintro ⟨h, _⟩; omega)])
    rw [HT.out]
    clear HT h2 hlen
    go_enter Try.func44, Try.ntmps44
    go_wp2_with fail
    go_ret2
    exact ⟨rfl, Below.refl _ _⟩
end Go.Proofs.Ytbganaaiaokfmaa
