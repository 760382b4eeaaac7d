/-
  The walks over package record, part D: what so many sealed bytes hold; what stands at a text's beginning.
-/
import Derived.Test.YtlhcacancnmhcaaDoorRecCodeC
import Derived.Test.YtlhcacancnmhcaaDoorRecOctR
import Derived.Test.YtlhcacancnmhcaaDoorCrcD
namespace Go.Proofs.YtlhcacancnmhcaaDoor
open Go.RowKit

set_option maxRecDepth 100000 in
theorem unsealed_short (b : List UInt8) (n : Nat) (w : World) (h : b.length < n) :
    Calls Tryd.prog 28 #[.string (tb b), .int .i64 (n : Int)] w fun e w' => e = .returned (.tuple #[.slice none 0 0, .int .u8 2]) ∧ w = w' := by
  have hs : (tb b).size = b.length := tb_size _
  have h1 : ((tb b).size : Int) < (n : Int) := by omega
  generalize tb b = s at *
  go_enter Tryd.func28, Tryd.ntmps28
  go_wp2
  go_ret2
  exact ⟨rfl, rfl⟩

set_option maxRecDepth 100000 in
set_option maxHeartbeats 1000000 in
theorem unsealed_bad (b : List UInt8) (n : Nat) (w : World) (hT : Tab w) (h : n ≤ b.length) (h4 : 4 ≤ n) (hn : n ≤ 1000000) (hno : ¬ Sealed (b.take n)) :
    Calls Tryd.prog 28 #[.string (tb b), .int .i64 (n : Int)] w fun e w' => e = .returned (.tuple #[.slice none 0 0, .int .u8 3]) ∧ Below w.heap.size w w' := by
  have hs : (tb b).size = b.length := tb_size _
  have h1 : ¬ ((tb b).size : Int) < (n : Int) := by omega
  have h2 : (n : Int) ≤ ((tb b).size : Int) := by omega
  have hX : (tb b).extract 0 n = tb (b.take n) := by rw [tb_cut, List.drop_zero]
  have hl : (b.take n).length = n := by rw [List.length_take]; omega
  obtain ⟨wF, cF, hcv, hcF⟩ := conv_tb (b.take n)
  obtain ⟨hrd, hbc, hcc⟩ := hcF w
  have HB := Lib.hid hbc
  have HO := Lib.hid (open_refuses (some ⟨w.heap.size, 0, none⟩) (b.take n) n (cF w) (wF w) hl (hT.keeps hbc) hrd h4 hn (by omega) hno)
  rw [hl] at hcv
  generalize b.take n = x at *
  generalize tb b = s at *
  clear hs hcF hrd hbc hcc hno hT h
  go_enter Tryd.func28, Tryd.ntmps28
  go_wp2_with fail
  refine HO.out.mono ?_
  rintro e w1 ⟨rfl, hb1⟩
  have HB1 := Lib.hid (HB.out.trans (hb1.mono HB.out.size))
  clear hb1
  go_wp2
  go_ret2
  exact ⟨rfl, HB1.out⟩

/-- What is unsealed. -/
def Unsl (b : List UInt8) (n : Nat) (w : World) (e : Ending) (w' : World) : Prop :=
  ∃ g c, e = .returned (.tuple #[.slice (some ⟨g, 0, none⟩) n c, .int .u8 1]) ∧ (b.take n).length = n ∧ n ≤ c ∧ Reads 5 w' (some ⟨g, 0, none⟩) (b.take n) ∧ Below w.heap.size w w'

set_option maxRecDepth 100000 in
set_option maxHeartbeats 1000000 in
theorem unsealed_ok (b : List UInt8) (m : Nat) (w : World) (hT : Tab w) (h : m + 4 ≤ b.length) (hn : m + 4 ≤ 1000000) (hyes : Sealed (b.take (m + 4))) :
    Calls Tryd.prog 28 #[.string (tb b), .int .i64 ((m + 4 : Nat) : Int)] w (Unsl b m w) := by
  have hs : (tb b).size = b.length := tb_size _
  obtain ⟨n, hnm⟩ : ∃ n, m + 4 = n := ⟨_, rfl⟩
  have HNM := Lib.hid (show n - 4 = m by omega)
  have h4 : 4 ≤ n := by omega
  have HTT := Lib.hid (show (b.take n).take m = b.take m by rw [List.take_take, Nat.min_eq_left (by omega)])
  rw [hnm] at h hn hyes ⊢
  have h1 : ¬ ((tb b).size : Int) < (n : Int) := by omega
  have h2 : (n : Int) ≤ ((tb b).size : Int) := by omega
  have hX : (tb b).extract 0 n = tb (b.take n) := by rw [tb_cut, List.drop_zero]
  have hl : (b.take n).length = n := by rw [List.length_take]; omega
  obtain ⟨wF, cF, hcv, hcF⟩ := conv_tb (b.take n)
  obtain ⟨hrd, hbc, hcc⟩ := hcF w
  have HB := Lib.hid hbc
  have HO := Lib.hid (open_takes (some ⟨w.heap.size, 0, none⟩) (b.take n) n (cF w) (wF w) hl (hT.keeps hbc) hrd h4 hn (by omega) hyes)
  rw [hl] at hcv
  rw [HNM.out, HTT.out] at HO
  have HPOST := Lib.hid (show ∀ e w', Unsl b m w e w' → Unsl b m w e w' from fun _ _ x => x)
  unfold Unsl at HPOST ⊢
  generalize b.take m = y at *
  generalize b.take n = x at *
  generalize tb b = s at *
  clear hs hcF hrd hbc hcc hyes hT h hnm
  go_enter Tryd.func28, Tryd.ntmps28
  go_wp2_with fail
  refine HO.out.mono ?_
  rintro e w1 ⟨g, c, rfl, hy, hc, hr, hb1⟩
  have HB1 := Lib.hid (HB.out.trans (hb1.mono HB.out.size))
  have HE := Lib.hid (And.intro hy (And.intro hc hr))
  clear hb1 hy hc hr
  go_wp2
  go_ret2
  exact ⟨g, c, rfl, HE.out.1, HE.out.2.1, HE.out.2.2, HB1.out⟩

end Go.Proofs.YtlhcacancnmhcaaDoor
