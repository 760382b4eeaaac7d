/-
  The walk over the document's answer: are two rows of records the same?
-/
import Derived.Test.YtlhcacancnmhcaaDoorRecBase
import Derived.Test.YtlhcacancnmhcaaDoorProg
import Derived.Deep.QuietTactic
import Derived.BigQuiet
import Derived.StillTailTactics
import Derived.RegionTactic
import Derived.Outline
namespace Go.Proofs.YtlhcacancnmhcaaDoor
open Go.RowKit

theorem below_draw {B : Nat} {w w' : World} (h : Below B w w') (n : Nat) : Below B w (w'.drewN n) := ⟨h.os, h.tape, h.output, h.size, h.block⟩

set_option maxRecDepth 100000 in
set_option maxHeartbeats 1000000 in
theorem rsame_any (A B : Option Addr) (a b : List Rec) (c d : Nat) (w : World) (ha : Recs w A a) (hb : Recs w B b) (hn : a.length ≤ 1000000) :
    Calls Tryd.prog 14 #[.slice A a.length c, .slice B b.length d] w fun r w' => r = .returned (.bool (decide (a = b))) ∧ Below w.heap.size w w' := by
  have HA := Lib.hid ha
  have HB := Lib.hid hb
  clear ha hb
  obtain ⟨n, hbn⟩ : ∃ n, b.length = n := ⟨_, rfl⟩
  rw [hbn]
  have HN := Lib.hid hbn
  clear hbn
  by_cases e1 : a.length = n
  · subst e1
    go_enter Tryd.func14, Tryd.ntmps14
    go_wp2
    go_loopw [5] (fun i wr => ∃ k : Nat, k ≤ a.length ∧ i = .int .i64 k ∧ a.take k = b.take k ∧ Below w.heap.size w wr) (fun i _ => a.length - (intOf i).toNat)
    case atStart => exact ⟨0, by omega, rfl, rfl, Below.refl _ _⟩
    case round =>
      obtain ⟨k, hk, rfl, hab, hkp⟩ := hrel
      have HK := Lib.hid hkp
      have HAB := Lib.hid hab
      by_cases hlt : k < a.length
      · have hlt2 : k < b.length := by rw [HN.out]; exact hlt
        obtain ⟨g, off, rfl, _, h1, h2⟩ := (HA.out.keeps hkp).at_ k hlt
        obtain ⟨g2, off2, rfl, _, h3, h4⟩ := (HB.out.keeps hkp).at_ k hlt2
        have HT := Lib.hid (show a.take (k + 1) = b.take (k + 1) ↔ a[k] = b[k] from by
          rw [List.take_succ_eq_append_getElem hlt, List.take_succ_eq_append_getElem hlt2, HAB.out, List.append_cancel_left_eq, List.cons.injEq]; simp only [and_true])
        have HT2 := Lib.hid (show a = b → a[k] = b[k] from fun e => by subst e; rfl)
        obtain ⟨x, hx⟩ : ∃ x, a[k] = x := ⟨_, rfl⟩
        obtain ⟨y, hy⟩ : ∃ y, b[k] = y := ⟨_, rfl⟩
        rw [hx] at h1 h2 HT HT2
        rw [hy] at h3 h4 HT HT2
        clear hkp hab hx hy
        by_cases e3 : x = y
        · subst e3
          go_wp2_with (go_quiet (fail))
          go_wp2
          go_round
          case rel => exact ⟨k + 1, by omega, by go_num, HT.out.2 rfl, (below_draw HK.out _)⟩
          case measure => simp [intOf]; omega
        · have hd : decide (a = b) = false := decide_eq_false (fun e => e3 (HT2.out e))
          obtain ⟨kx, dx⟩ := x
          obtain ⟨ky, dy⟩ := y
          simp only at h1 h2 h3 h4
          by_cases hkk : kx = ky
          · subst hkk
            have hne : dx ≠ dy := fun e => e3 (by rw [e])
            have s1 : ¬ tb dx = tb dy := fun e => hne (tb_inj e)
            have s3 : ((tb dx).toList == (tb dy).toList) = false := by rw [beq_eq_false_iff_ne, ByteArray.toList_eq, ByteArray.toList_eq, tb_list, tb_list]; exact hne
            clear hne e3 HT HT2
            go_wp2_with (go_quiet (fail))
            go_wp2
            go_ret
            exact ⟨by rw [hd]; rfl, below_draw HK.out _⟩
          · have s1 : ¬ ((kx.toNat : Int) = (ky.toNat : Int)) := fun e => hkk (UInt8.toNat.inj (by omega))
            have s2 : ((kx.toNat : Int) == (ky.toNat : Int)) = false := by rw [beq_eq_false_iff_ne]; exact s1
            clear e3 HT HT2 hkk
            go_wp2_with (go_quiet (fail))
            go_wp2
            go_ret
            exact ⟨by rw [hd]; rfl, below_draw HK.out _⟩
      · obtain rfl : k = a.length := by omega
        clear hkp hab
        go_wp2
        go_ret
        have hll : a = b := by
          have := HAB.out
          rwa [List.take_length, ← HN.out, List.take_length] at this
        exact ⟨by rw [decide_eq_true hll]; rfl, HK.out⟩
  · have e3 : ¬ ((a.length : Int) = (n : Int)) := by omega
    go_enter Tryd.func14, Tryd.ntmps14
    go_wp2
    go_ret
    have hd : decide (a = b) = false := decide_eq_false (fun e => e1 (by rw [e, HN.out]))
    exact ⟨by rw [hd]; rfl, Below.refl _ _⟩
end Go.Proofs.YtlhcacancnmhcaaDoor
