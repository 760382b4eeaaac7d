/-
  The walks over package crc, part A: the table, four bits' step.
-/
import Derived.Test.YtlhcacancnmhcaaDoorProg
import Derived.Test.YtlhcacancnmhcaaDoorCrcFlip
import Derived.Laws.BitsAllLaws
import Derived.Deep.QuietTactic
import Derived.BigQuiet
import Derived.StillTailTactics
import Derived.RegionTactic
import Derived.Outline
namespace Go.Proofs.YtlhcacancnmhcaaDoor
open Go.RowKit

/-- The table lies as it was written out. -/
def Tab (w : World) : Prop := ∀ i, i < 16 → w.cell? ⟨0, i, none⟩ = some (.int .u32 ((tab4.getD i 0 : Nat) : Int))

theorem Tab.lt {w : World} (h : Tab w) : 0 < w.heap.size := by
  have h0 := h 0 (by decide)
  rcases Nat.lt_or_ge 0 w.heap.size with hh | hh
  · exact hh
  · have e0 : w.heap[0]? = none := Array.getElem?_eq_none hh
    simp only [World.cell?, e0] at h0
    cases h0
theorem Tab.below {B : Nat} {w w' : World} (h : Tab w) (hb : Below B w w') (hB : 0 < B) : Tab w' := fun i hi =>
  (hb.cell (p := ⟨0, i, none⟩) hB).trans (h i hi)
theorem Tab.keeps {w w' : World} (h : Tab w) (hb : Below w.heap.size w w') : Tab w' := h.below hb h.lt
theorem Tab.drewN {w : World} (h : Tab w) (n : Nat) : Tab (w.drewN n) := h

theorem tab_lt : ∀ i : Nat, i < 16 → tab4.getD i 0 < 4294967296 := by decide

/-- The register behind four bits. -/
def nib (r c : Nat) : Nat := (r / 16) ^^^ tab4.getD ((r ^^^ c) % 16) 0

theorem nib_zs (r c : Nat) : nib r c = zs 4 (r ^^^ (c % 16)) := by
  have h16 : (c % 16) / 16 = 0 := by omega
  have e1 : (r ^^^ c % 16) / 16 = r / 16 := by
    have := Nat.xor_div_two_pow (a := r) (b := c % 16) (n := 4)
    rw [show (2 : Nat) ^ 4 = 16 from rfl] at this
    rw [this, h16, Nat.xor_zero]
  have e2 : (r ^^^ c % 16) % 16 = (r ^^^ c) % 16 := by
    have a1 := Nat.xor_mod_two_pow (a := r) (b := c % 16) (n := 4)
    have a2 := Nat.xor_mod_two_pow (a := r) (b := c) (n := 4)
    rw [show (2 : Nat) ^ 4 = 16 from rfl] at a1 a2
    rw [a1, a2, Nat.mod_mod]
  unfold nib
  rw [zs4, e1, e2, Nat.xor_comm]

theorem nib_lt (r c : Nat) (h : r < 4294967296) : nib r c < 4294967296 := by
  rw [nib_zs]
  exact zs_lt 4 _ (Nat.xor_lt_two_pow (n := 32) h (by omega))

theorem idx_eq (r c : Nat) (hr : r < 4294967296) (hc : c < 256) : Go.bits .and .u32 (Go.bits .xor .u32 (r : Int) (c : Int)) 15 = (((r ^^^ c) % 16 : Nat) : Int) := by
  rw [u32_xor_nat r c hr (by omega)]
  have := u32_and_nat (r ^^^ c) 15 (Nat.xor_lt_two_pow (n := 32) hr (by omega)) (by decide)
  rw [show ((15 : Nat) : Int) = 15 from rfl] at this
  rw [this, nat_mask4]

theorem reg_eq (r t : Nat) (hr : r < 4294967296) (ht : t < 4294967296) : Go.bits .xor .u32 ((r : Int) / 16) (t : Int) = ((r / 16 ^^^ t : Nat) : Int) := by
  have e : ((r : Int) / 16) = ((r / 16 : Nat) : Int) := by simp
  rw [e, u32_xor_nat _ _ (by omega) ht]

set_option maxHeartbeats 400000 in
theorem step_any (b r c : Nat) (w : World) (hT : Tab w) (hr : r < 4294967296) (hc : c < 256) (hrow : Row w b 44 [.int .u32 (r : Int)] (0, 0)) :
    Calls Tryd.prog 43 #[.int .u8 (c : Int), .pointer (some ⟨b, 0, none⟩)] w fun e w' =>
      e = .returned (.tuple #[]) ∧ w.grownBy w' (some b) ∧ Row w' b 44 [.int .u32 (nib r c : Int)] (0, 0) := by
  obtain ⟨k, hk⟩ : ∃ k, (r ^^^ c) % 16 = k := ⟨_, rfl⟩
  have hk16 : k < 16 := by rw [← hk]; exact Nat.mod_lt _ (by decide)
  have ht := hT k hk16
  have hidx := idx_eq r c hr hc
  rw [hk] at hidx
  have hnib : nib r c = (r / 16) ^^^ tab4.getD k 0 := by unfold nib; rw [hk]
  have htl := tab_lt k hk16
  generalize tab4.getD k 0 = t at *
  have hreg := reg_eq r t hr htl
  have hcell : w.cell? ⟨b, 0, none⟩ = some (.int .u32 (r : Int)) := by rw [hrow.cell]; rfl
  have hfree := hrow.loose 0
  have HR := Lib.hid hrow
  have HN := Lib.hid hnib
  have HK := Lib.hid hk
  have hwr : IntKind.u32.wrap (c : Int) = (c : Int) := by rw [IntKind.wrap_u32']; omega
  have hk0 : (0 : Int) ≤ (k : Int) := by omega
  have hki : (k : Int) < 16 := by omega
  clear hrow hnib hk hT
  go_enter Tryd.func43, Tryd.ntmps43
  go_wp2
  go_still_tail 10, (by kernel_rfl)
  change wpList _ _ _ _ _ w.drew
  have hcell2 : w.drew.cell? ⟨b, 0, none⟩ = some (.int .u32 (r : Int)) := hcell
  have hfree2 : w.drew.frozen? ⟨b, 0, none⟩ = false := hfree
  go_wp2
  go_end0
  rw [HN.out]
  exact ⟨rfl, only_put (only_drawn w 1 (some b)) 0 _, (HR.out.drew).put 0 _⟩

end Go.Proofs.YtlhcacancnmhcaaDoor
