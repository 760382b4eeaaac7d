/-
  MasterPacks walked: Pack, Unpack and Top tell what the document's tell; Unpack of Pack is the text.
-/
import Derived.Test.YtnmfgmlmjbfdcaaMasRefC
import Derived.Test.YtnmfgmlmjbfdcaaMasHead
namespace Go.Proofs.Ytnmfgmlmjbfdcaa
open Go.RowKit

/-- Where the argument lies. -/
def PBox (g v : Nat) (s : ByteArray) (z : Int) (b : ByteArray) (w : World) : Prop := Row w g 24 [.int .u64 (v : Int), .string s, .int .i64 z, .string b] (0, 0)
theorem PBox.cells {g v : Nat} {s : ByteArray} {z : Int} {b : ByteArray} {w : World} (h : PBox g v s z b w) : w.cell? ⟨g, 0, none⟩ = some (.int .u64 (v : Int)) ∧ w.cell? ⟨g, 1, none⟩ = some (.string s) ∧ w.cell? ⟨g, 2, none⟩ = some (.int .i64 z) ∧ w.cell? ⟨g, 3, none⟩ = some (.string b) := ⟨Row.cell h 0, Row.cell h 1, Row.cell h 2, Row.cell h 3⟩
theorem PBox.below {g v : Nat} {s : ByteArray} {z : Int} {b : ByteArray} {w w' : World} (h : PBox g v s z b w) (hb : Below w.heap.size w w') : PBox g v s z b w' := Row.below h hb (Row.lt h)
theorem PBox.drew {g v : Nat} {s : ByteArray} {z : Int} {b : ByteArray} {w : World} (h : PBox g v s z b w) : PBox g v s z b w.drew := h
theorem unpV_tuple (b : List UInt8) : ∃ (n : Nat) (t : ByteArray) (q : Bool), unpV b = .tuple #[.int .u64 (n : Int), .string t, .bool q] := by
  cases hu : unpackP b with
  | none => exact ⟨0, ⟨#[]⟩, false, unpV_none hu⟩
  | some x => exact ⟨x.1, tb x.2, true, unpV_some hu⟩

set_option maxRecDepth 100000 in
set_option maxHeartbeats 4000000 in
theorem packs_law (v : Nat) (s : ByteArray) (z : Int) (b : ByteArray) (w : World) (hv : v < 18446744073709551616) (hz1 : -9223372036854775808 ≤ z) (hz2 : z ≤ 9223372036854775807) (hs0 : s.size ≤ 9223372036854775807) (hb0 : b.size ≤ 9223372036854775807) :
    Calls Try.prog 3 #[.agg #[.int .u64 (v : Int), .string s, .int .i64 z, .string b]] w fun e w' => e = .returned (.bool true) ∧ Below w.heap.size w w' := by
  have HH := Lib.hid (fun wx => head_any wx)
  obtain ⟨wa, hwa⟩ : ∃ wa, w.alloc (.cells #[.int .u64 (v : Int), .string s, .int .i64 z, .string b] 24) = wa := ⟨_, rfl⟩
  have HBA := Lib.hid (show Below w.heap.size w wa from hwa ▸ (Below.refl _ _).alloc (Nat.le_refl _) _)
  have HXA := Lib.hid (show PBox w.heap.size v s z b wa from hwa ▸ Row.new w _ [.int .u64 (v : Int), .string s, .int .i64 z, .string b] (0, 0))
  obtain ⟨k0, k1, k2, k3⟩ := HXA.out.cells
  by_cases hbig : 20000 < s.size ∨ 20000 < b.size
  · rcases (show 20000 < s.size ∨ (s.size ≤ 20000 ∧ 20000 < b.size) by omega) with h1 | ⟨h1, h2⟩
    · have g1 : (20000 : Int) < (s.size : Int) := by omega
      clear hbig h1
      go_enter Try.func3, Try.ntmps3
      go_wp2_with fail
      refine (HH.out wa).mono ?_
      rintro e w1 ⟨rfl, hb1⟩
      have HB1 := Lib.hid (HBA.out.trans (hb1.mono HBA.out.size))
      clear hb1
      go_wp2
      go_ret
      exact ⟨rfl, HB1.out⟩
    · have g1 : ¬ (20000 : Int) < (s.size : Int) := by omega
      have g2 : (20000 : Int) < (b.size : Int) := by omega
      clear hbig h1 h2
      go_enter Try.func3, Try.ntmps3
      go_wp2_with fail
      refine (HH.out wa).mono ?_
      rintro e w1 ⟨rfl, hb1⟩
      have HB1 := Lib.hid (HBA.out.trans (hb1.mono HBA.out.size))
      clear hb1
      go_wp2
      go_ret
      exact ⟨rfl, HB1.out⟩
  have g1 : ¬ (20000 : Int) < (s.size : Int) := by omega
  have g2 : ¬ (20000 : Int) < (b.size : Int) := by omega
  have HP := Lib.hid (fun wx => pack_any v s z wx hv hs0 hz1 hz2)
  have HQ := Lib.hid (fun wx => mpack_any v s z wx hv (by omega) hz1 hz2)
  obtain ⟨n, t, q, hu⟩ := unpV_tuple (txt b)
  have HU := Lib.hid (fun wx => unpack_any (txt b) wx (by show b.size ≤ _; omega))
  have HM := Lib.hid (fun wx => munpack_any (txt b) wx (by show b.size ≤ _; omega))
  have HT := Lib.hid (fun wx => top_any (txt b) wx (by show b.size ≤ _; omega))
  have HN := Lib.hid (fun wx => mtop_any (txt b) wx (by show b.size ≤ _; omega))
  rw [hu, show tb (txt b) = b from tb_of b] at HU HM
  rw [show tb (txt b) = b from tb_of b] at HT HN
  obtain ⟨tp, htp⟩ : ∃ tp, topP (txt b) = tp := ⟨_, rfl⟩
  rw [htp] at HT HN
  have HPE := Lib.hid (packE_cases v s.size z)
  have HFIT := Lib.hid (fun (h : packE v s.size z = 0) => show (∀ wx, Calls Try.prog 12 #[.string (tb (packT v (txt s) z))] wx fun e w' => e = .returned (.tuple #[.int .u64 (v : Int), .string s, .bool true]) ∧ Below wx.heap.size wx w') ∧ (∀ wx, Calls Try.prog 14 #[.string (tb (packT v (txt s) z))] wx fun e w' => e = .returned (.int .u64 (v : Int)) ∧ Below wx.heap.size wx w') by
    obtain ⟨k, rfl, _, hf⟩ := packE_fits (s := txt s) h hv
    rw [packT_of hf]
    have hl := packed_length v (txt s) k
    have hk := hf.k1
    have h1 := fun wx => unpack_any (packed v (txt s) k) wx (by omega)
    have h2 := fun wx => top_any (packed v (txt s) k) wx (by omega)
    rw [unpV_some (unpack_packed hf), show tb (txt s) = s from tb_of s] at h1
    rw [top_packed hf] at h2
    exact ⟨h1, h2⟩)
  obtain ⟨E, hE⟩ : ∃ E, packE v s.size z = E := ⟨_, rfl⟩
  obtain ⟨PT, hPT⟩ : ∃ PT, tb (packT v (txt s) z) = PT := ⟨_, rfl⟩
  rw [hE] at HP HQ HPE HFIT
  rw [hPT] at HP HQ HFIT
  clear hbig hu htp hE hPT hs0 hb0 hz1 hz2 hv
  go_enter Try.func3, Try.ntmps3
  go_wp2_with fail
  clear hwa
  refine (HP.out wa).mono ?_
  rintro e w1 ⟨rfl, hb1⟩
  have HB1 := Lib.hid (HBA.out.trans (hb1.mono HBA.out.size))
  have HX1 := Lib.hid (HXA.out.below hb1)
  clear hb1 k0 k1 k2 k3 HXA HBA HP
  obtain ⟨k0, k1, k2, k3⟩ := HX1.out.cells
  go_wp2_with fail
  refine (HQ.out w1).mono ?_
  rintro e w2 ⟨rfl, hb2⟩
  have HB2 := Lib.hid (HB1.out.trans (hb2.mono HB1.out.size))
  have HX2 := Lib.hid (HX1.out.below hb2)
  clear hb2 k0 k1 k2 k3 HX1 HB1 HQ
  obtain ⟨k0, k1, k2, k3⟩ := HX2.out.cells
  go_wp2_with fail
  refine (HU.out w2).mono ?_
  rintro e w3 ⟨rfl, hb3⟩
  have HB3 := Lib.hid (HB2.out.trans (hb3.mono HB2.out.size))
  have HX3 := Lib.hid (HX2.out.below hb3)
  clear hb3 k0 k1 k2 k3 HX2 HB2 HU
  obtain ⟨k0, k1, k2, k3⟩ := HX3.out.cells
  go_wp2_with fail
  refine (HM.out w3).mono ?_
  rintro e w4 ⟨rfl, hb4⟩
  have HB4 := Lib.hid (HB3.out.trans (hb4.mono HB3.out.size))
  have HX4 := Lib.hid (HX3.out.below hb4)
  clear hb4 k0 k1 k2 k3 HX3 HB3 HM
  obtain ⟨wd, hwd⟩ : ∃ wd, w4.drew = wd := ⟨_, rfl⟩
  have HBd := Lib.hid (show Below w.heap.size w wd from hwd ▸ ⟨HB4.out.os, HB4.out.tape, HB4.out.output, HB4.out.size, HB4.out.block⟩)
  have HXd := Lib.hid (show PBox w.heap.size v s z b wd from hwd ▸ HX4.out)
  have hHeld := HXd.out.cells.2.2.2
  clear HB4 HX4
  go_wp2_with fail
  refine wp_region_noPanic ?_
  refine wp_region_sch (fun wx => wx.cell? ⟨w.heap.size, 3, none⟩ = some (.string b)) (fun i => [16, 19].contains i)
    (.takes [0, 1, 2, 3, 4, 5, 6, 7, 8, 9, 10, 11, 12, 13, 14, 15, 17, 18] (.run 16 (.run 19 (.takes [20, 21] .done)))) (by kernel_rfl) (fun _ _ _ _ _ h => h) (by kernel_rfl) ?_
  rw [hwd]
  iterate 18 (
    refine sch_takes_cons ?_
    first
      | (refine sch_take (v := ?_) rfl (by assumption) (by rfl) ?_ ?_; rotate_left; (focus (intro wy hSy; (try dsimp only at hSy); go_simp; (try with_reducible rfl))))
      | (refine sch_pass rfl (by assumption) (by rfl) ?_)
    simp only [Act.put, List.setIfInBounds_toArray, List.set_cons_zero, List.set_cons_succ])
  refine sch_takes_nil ?_
  refine sch_run rfl (fun K hK => ?_)
  go_simp
  with_reducible refine (HT.out _).mono ?_
  rintro e w5 ⟨rfl, hb5⟩
  have HB5 := Lib.hid (HBd.out.trans (hb5.mono HBd.out.size))
  have HX5 := Lib.hid (HXd.out.below hb5)
  have hHeld := HX5.out.cells.2.2.2
  clear hb5 HT
  refine hK.out _ _ (fun _ => hHeld) ?_
  clear hK K
  try simp only [Act.put, List.setIfInBounds_toArray, List.set_cons_zero, List.set_cons_succ]
  refine sch_run rfl (fun K hK => ?_)
  go_simp
  with_reducible refine (HN.out _).mono ?_
  rintro e w6 ⟨rfl, rfl⟩
  have hHeld := HX5.out.cells.2.2.2
  clear HN
  refine hK.out _ _ (fun _ => hHeld) ?_
  clear hK K
  try simp only [Act.put, List.setIfInBounds_toArray, List.set_cons_zero, List.set_cons_succ]
  iterate 2 (
    refine sch_takes_cons ?_
    first
      | (refine sch_take (v := ?_) rfl (by assumption) (by rfl) ?_ ?_; rotate_left; (focus (intro wy hSy; (try dsimp only at hSy); go_simp; (try with_reducible rfl))))
      | (refine sch_pass rfl (by assumption) (by rfl) ?_)
    simp only [Act.put, List.setIfInBounds_toArray, List.set_cons_zero, List.set_cons_succ])
  refine sch_takes_nil ?_
  refine sch_done ?_
  refine NoPanic.normal ?_
  clear hHeld HBd HXd
  by_cases hE0 : E = 0
  · obtain ⟨HU2, HT2⟩ := HFIT.out hE0
    have HU3 := Lib.hid HU2
    have HT3 := Lib.hid HT2
    clear HU2 HT2 HFIT HPE
    subst hE0
    go_wp2_with fail
    refine (HU3.out _).mono ?_
    rintro e w7 ⟨rfl, hb7⟩
    have HB7 := Lib.hid (HB5.out.trans (hb7.mono HB5.out.size))
    have HX7 := Lib.hid (HX5.out.below hb7)
    clear hb7 HX5 HB5 HU3
    obtain ⟨wg, hwg⟩ : ∃ wg, w7.drew = wg := ⟨_, rfl⟩
    have HBg := Lib.hid (show Below w.heap.size w wg from hwg ▸ ⟨HB7.out.os, HB7.out.tape, HB7.out.output, HB7.out.size, HB7.out.block⟩)
    have HXg := Lib.hid (show PBox w.heap.size v s z b wg from hwg ▸ HX7.out)
    have hHeld := (show wg.cell? ⟨w.heap.size, 0, none⟩ = some (.int .u64 (v : Int)) ∧ wg.cell? ⟨w.heap.size, 1, none⟩ = some (.string s) from ⟨HXg.out.cells.1, HXg.out.cells.2.1⟩)
    clear HB7 HX7
    go_wp2_with fail
    refine wp_region_noPanic ?_
    refine wp_region_sch (fun wx => wx.cell? ⟨w.heap.size, 0, none⟩ = some (.int .u64 (v : Int)) ∧ wx.cell? ⟨w.heap.size, 1, none⟩ = some (.string s)) (fun i => [15, 21].contains i)
      (.takes [0, 1, 2, 3, 4, 5, 6, 7, 8, 9, 10, 11, 12, 13, 14, 16, 17] (.run 15 (.takes [18, 19, 20] (.run 21 (.takes [22, 23] .done))))) (by kernel_rfl) (fun _ _ _ _ _ h => h) (by kernel_rfl) ?_
    rw [hwg]
    iterate 17 (
      refine sch_takes_cons ?_
      first
        | (refine sch_take (v := ?_) rfl (by assumption) (by rfl) ?_ ?_; rotate_left; (focus (intro wy hSy; (try dsimp only at hSy); go_simp; (try with_reducible rfl))))
        | (refine sch_pass rfl (by assumption) (by rfl) ?_)
      simp only [Act.put, List.setIfInBounds_toArray, List.set_cons_zero, List.set_cons_succ])
    refine sch_takes_nil ?_
    refine sch_run rfl (fun K hK => ?_)
    go_simp
    with_reducible refine (HT3.out _).mono ?_
    rintro e w8 ⟨rfl, hb8⟩
    have HB8 := Lib.hid (HBg.out.trans (hb8.mono HBg.out.size))
    have HX8 := Lib.hid (HXg.out.below hb8)
    have hHeld := (show w8.cell? ⟨w.heap.size, 0, none⟩ = some (.int .u64 (v : Int)) ∧ w8.cell? ⟨w.heap.size, 1, none⟩ = some (.string s) from ⟨HX8.out.cells.1, HX8.out.cells.2.1⟩)
    clear hb8 HT3
    refine hK.out _ _ (fun _ => hHeld) ?_
    clear hK K
    try simp only [Act.put, List.setIfInBounds_toArray, List.set_cons_zero, List.set_cons_succ]
    iterate 3 (
      refine sch_takes_cons ?_
      first
        | (refine sch_take (v := ?_) rfl (by assumption) (by rfl) ?_ ?_; rotate_left; (focus (intro wy hSy; (try dsimp only at hSy); go_simp; (try with_reducible rfl))))
        | (refine sch_pass rfl (by assumption) (by rfl) ?_)
      simp only [Act.put, List.setIfInBounds_toArray, List.set_cons_zero, List.set_cons_succ])
    refine sch_takes_nil ?_
    refine sch_run rfl (fun K hK => ?_)
    go_simp
    with_reducible refine (HH.out _).mono ?_
    rintro e w9 ⟨rfl, hb9⟩
    have HB9 := Lib.hid (HB8.out.trans (hb9.mono HB8.out.size))
    have HX9 := Lib.hid (HX8.out.below hb9)
    have hHeld := (show w9.cell? ⟨w.heap.size, 0, none⟩ = some (.int .u64 (v : Int)) ∧ w9.cell? ⟨w.heap.size, 1, none⟩ = some (.string s) from ⟨HX9.out.cells.1, HX9.out.cells.2.1⟩)
    clear hb9
    refine hK.out _ _ (fun _ => hHeld) ?_
    clear hK K
    try simp only [Act.put, List.setIfInBounds_toArray, List.set_cons_zero, List.set_cons_succ]
    iterate 2 (
      refine sch_takes_cons ?_
      first
        | (refine sch_take (v := ?_) rfl (by assumption) (by rfl) ?_ ?_; rotate_left; (focus (intro wy hSy; (try dsimp only at hSy); go_simp; (try with_reducible rfl))))
        | (refine sch_pass rfl (by assumption) (by rfl) ?_)
      simp only [Act.put, List.setIfInBounds_toArray, List.set_cons_zero, List.set_cons_succ])
    refine sch_takes_nil ?_
    refine sch_done ?_
    refine NoPanic.normal ?_
    clear hHeld
    go_wp2_with fail
    go_ret
    exact ⟨rfl, HB9.out⟩
  · have hEI : ¬ (E : Int) = 0 := by omega
    clear HFIT HPE
    go_wp2_with fail
    refine (HH.out _).mono ?_
    rintro e w7 ⟨rfl, hb7⟩
    have HB7 := Lib.hid (HB5.out.trans (hb7.mono HB5.out.size))
    clear hb7
    go_wp2
    go_ret
    exact ⟨rfl, HB7.out⟩
end Go.Proofs.Ytnmfgmlmjbfdcaa
