/-
  BlockNone: the walk.
-/
import Derived.Test.YtghmfodoojfadaaBlkF
namespace Go.Proofs.Ytghmfodoojfadaa
open Go.RowKit

/-- A device that nothing made. -/
def zeroDev : List Value := [.int .i64 0, .int .i64 0, .slice none 0 0, .slice none 0 0, .slice none 0 0]

set_option maxRecDepth 100000 in
set_option maxHeartbeats 4000000 in
theorem none_any (b : Int) (A : Option Addr) (n c : Nat) (w : World) : Calls Try.prog 7 #[.int .i64 b, .slice A n c] w fun e w' => e = .returned (.bool true) ∧ Below w.heap.size w w' := by
  go_enter Try.func7, Try.ntmps7
  go_wp2_with fail
  have HR0 := Lib.hid ((Row.new w 73 zeroDev (0, 0)).alloc (.cells #[.pointer none, .pointer (some ⟨w.heap.size, 0, none⟩)] 39))
  have HG0 := Lib.hid (show Row ((w.alloc (.cells zeroDev.toArray 73)).alloc (.cells #[.pointer none, .pointer (some ⟨w.heap.size, 0, none⟩)] 39)) (w.heap.size + 1) 39 [.pointer none, .pointer (some ⟨w.heap.size, 0, none⟩)] (0, 0) from by
    have := Row.new (w.alloc (.cells zeroDev.toArray 73)) 39 [.pointer none, .pointer (some ⟨w.heap.size, 0, none⟩)] (0, 0)
    rwa [show (w.alloc (.cells zeroDev.toArray 73)).heap.size = w.heap.size + 1 by simp] at this)
  have HB0 := Lib.hid (show Below w.heap.size w ((w.alloc (.cells zeroDev.toArray 73)).alloc (.cells #[.pointer none, .pointer (some ⟨w.heap.size, 0, none⟩)] 39)) from ((Below.refl _ _).alloc (Nat.le_refl _) _).alloc (by simp) _)
  go_outline
  go_loopw [7, 8, 9] (fun i _ _ wr => ∃ k : Nat, k ≤ 2 ∧ i = .int .i64 k ∧ Hid (Row wr (w.heap.size + 1) 39 [.pointer none, .pointer (some ⟨w.heap.size, 0, none⟩)] (0, 0)) ∧ Hid (Row wr w.heap.size 73 zeroDev (0, 0)) ∧ Hid (Below w.heap.size w wr)) (fun i _ _ _ => 2 - (intOf i).toNat)
  case atStart => exact ⟨0, by omega, rfl, HG0, HR0, HB0⟩
  case round =>
    obtain ⟨k, hk, rfl, HG, HR, HB⟩ := hrel
    clear HG0 HR0 HB0
    by_cases h2 : k = 2
    · subst h2
      go_wp2_with fail
      refine (head_any wr).mono ?_
      rintro e w1 ⟨rfl, hb⟩
      have HB1 := Lib.hid (HB.out.trans (hb.mono HB.out.size))
      clear hb
      go_wp2
      go_ret
      exact ⟨rfl, HB1.out⟩
    · obtain ⟨v, hv, hnd⟩ : ∃ v, wr.cell? ⟨w.heap.size + 1, k, none⟩ = some v ∧ ∀ wx : World, Below wr.heap.size wr wx → NoDev wx v := by
        rcases (show k = 0 ∨ k = 1 by omega) with rfl | rfl
        · exact ⟨_, HG.out.cell 0, fun _ _ => ⟨.inl rfl⟩⟩
        · exact ⟨_, HG.out.cell 1, fun wx hb => ⟨.inr ⟨_, rfl, (HR.out.below hb HR.out.lt).cell 1⟩⟩⟩
      have HND := Lib.hid hnd
      have hkl : (k : Int) < 2 := by omega
      have HC := Lib.hid (crash_none (hnd wr (Below.refl _ _)) A n c)
      clear hnd
      go_wp2_with fail
      refine HC.out.mono ?_
      rintro e w1 ⟨rfl, hb⟩
      have HN1 := Lib.hid (HND.out w1 hb)
      have HG1 := Lib.hid (HG.out.below hb HG.out.lt)
      have HR1 := Lib.hid (HR.out.below hb HR.out.lt)
      have HB1 := Lib.hid (HB.out.trans (hb.mono HB.out.size))
      have hv1 := (hb.cell (p := ⟨w.heap.size + 1, k, none⟩) HG.out.lt).trans hv
      clear hb hv HC
      go_wp2_with fail
      refine (read_none HN1.out b).mono ?_
      rintro e w2 ⟨rfl, rfl⟩
      go_wp2_with fail
      refine (write_none HN1.out b ⟨#[97]⟩).mono ?_
      rintro e w2 ⟨rfl, rfl⟩
      go_wp2_with fail
      refine (sync_none HN1.out).mono ?_
      rintro e w2 ⟨rfl, rfl⟩
      go_wp2_with fail
      refine (pending_none HN1.out).mono ?_
      rintro e w2 ⟨rfl, rfl⟩
      go_wp2_with fail
      refine (blocks_none HN1.out).mono ?_
      rintro e w2 ⟨rfl, rfl⟩
      go_wp2_with fail
      refine (size_none HN1.out).mono ?_
      rintro e w2 ⟨rfl, rfl⟩
      go_wp2_with fail
      refine (copy_none HN1.out).mono ?_
      rintro e w2 ⟨rfl, rfl⟩
      go_wp2
      go_roundw
      case rel => exact ⟨k + 1, by omega, by go_num, HG1, HR1, HB1⟩
      case measure => simp [intOf]; omega

end Go.Proofs.Ytghmfodoojfadaa
