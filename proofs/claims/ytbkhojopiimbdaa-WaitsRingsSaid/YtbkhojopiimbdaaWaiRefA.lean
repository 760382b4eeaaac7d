/-
  The document's answer for package waits, part A: how far one is (at).
-/
import Derived.Test.YtbkhojopiimbdaaWaiBase
namespace Go.Proofs.Ytbkhojopiimbdaa
open Go.RowKit

set_option maxRecDepth 100000 in
set_option maxHeartbeats 2000000 in
theorem wat_any (l : List (Nat × Nat)) (A : Option Addr) (c tx : Nat) (w : World) (h : Lie w A (fv l)) (_hc : l.length ≤ c) (hn : l.length ≤ 1000000) :
    Calls Try.prog 13 #[.slice A l.length c, .int .u64 (tx : Int)] w fun e w' => e = .returned (.int .i64 (atF l tx)) ∧ Below w.heap.size w w' := by
  obtain ⟨F, hF⟩ : ∃ F, atF l tx = F := ⟨_, rfl⟩
  have HT := Lib.hid (fun (k : Nat) (hk : k < l.length) (hno : ∀ j (hj : j < k), (l[j]'(by omega)).1 ≠ tx) (he : l[k].1 = tx) => hF.symm.trans (atF_take hk hno he))
  have HN := Lib.hid (fun (hno : ∀ j (hj : j < l.length), l[j].1 ≠ tx) => hF.symm.trans (atF_none hno))
  rw [hF]
  clear hF
  have HL := Lib.hid h
  clear h
  go_enter Try.func13, Try.ntmps13
  go_wp2
  go_loopw [5] (fun i wr => ∃ k : Nat, k ≤ l.length ∧ i = .int .i64 k ∧ Hid (∀ j (hj : j < k) (hl : j < l.length), l[j].1 ≠ tx) ∧ Keep w wr) (fun i _ => l.length - (intOf i).toNat)
  case atStart => exact ⟨0, by omega, rfl, Lib.hid (fun j hj => absurd hj (Nat.not_lt_zero _)), Keep.refl w⟩
  case round =>
    obtain ⟨k, hk, rfl, HA, hkp⟩ := hrel
    have HK := Lib.hid hkp
    by_cases hlt : k < l.length
    · have hI : (k : Int) < (l.length : Int) := by omega
      obtain ⟨g, off, rfl, c0, c1⟩ := (HL.out.keep hkp).far hlt
      clear hkp
      obtain ⟨x, hx⟩ : ∃ x, l[k].1 = x := ⟨_, rfl⟩
      obtain ⟨d, hd⟩ : ∃ d, l[k].2 = d := ⟨_, rfl⟩
      rw [hx] at c0
      rw [hd] at c1
      have HX := Lib.hid hx
      have HD := Lib.hid hd
      clear hx hd
      by_cases e : x = tx
      · subst e
        have HFF := Lib.hid ((HT.out k hlt (fun j hj => HA.out j hj (by omega)) HX.out).trans (by rw [HD.out]))
        clear HN HT
        go_wp2
        go_ret
        exact ⟨by rw [HFF.out]; rfl, HK.out⟩
      · have e1 : ¬ (x : Int) = (tx : Int) := by omega
        have e2 : ((x : Int) == (tx : Int)) = false := beq_false_of_ne e1
        have HA2 := Lib.hid (show ∀ j (hj : j < k + 1) (hl : j < l.length), l[j].1 ≠ tx from fun j hj hl => by
          rcases Nat.lt_or_ge j k with h1 | h1
          · exact HA.out j h1 hl
          · obtain rfl : j = k := by omega
            rw [HX.out]; exact e)
        go_wp2
        go_roundw
        case rel => exact ⟨k + 1, by omega, by go_num, HA2, HK.out⟩
        case measure => simp [intOf]; omega
    · have hI : ¬ (k : Int) < (l.length : Int) := by omega
      have HFF := Lib.hid (HN.out fun j hj => HA.out j (by omega) hj)
      go_wp2
      go_ret
      exact ⟨by rw [HFF.out]; rfl, HK.out⟩
end Go.Proofs.Ytbkhojopiimbdaa
