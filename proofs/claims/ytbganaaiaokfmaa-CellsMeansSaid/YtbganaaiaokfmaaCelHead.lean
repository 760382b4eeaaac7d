/-
  The statements' head: calls whose answers the document fixes.
-/
import Derived.Test.YtbganaaiaokfmaaCelGetC
namespace Go.Proofs.Ytbganaaiaokfmaa
open Go.RowKit

def hL : List CB := [(tx [97], tx [49]), (tx [99], tx [51])]
def hP : List CB := [(tx [97], tx [49]), (tx [98], tx [50]), (tx [99], tx [51])]
def hK : List CB := [(tx [107], tx [118])]
def cL : List Cel := [([97], [49]), ([99], [51])]
def cP : List Cel := [([97], [49]), ([98], [50]), ([99], [51])]
theorem hL_c : cels hL = cL := by simp [cels, cel, hL, cL, tx_list]
theorem hP_c : cels hP = cP := by simp [cels, cel, hP, cP, tx_list]
theorem hK_c : cels hK = [([107], [118])] := by simp [cels, cel, hK, tx_list]
theorem cL_rgt : rgtB cL = true := by decide +kernel
theorem cP_rgt : rgtB cP = true := by decide +kernel
theorem cP_put : putC cL ([98], [50]) = cP := by decide +kernel
theorem hL_put : putB hL (tx [98], tx [50]) = hP := by
  apply cels_inj
  rw [putB_cels (by rw [hL_c]; exact (of_decide_eq_true cL_rgt : Rgt cL).1), hL_c, hP_c]
  show putC cL ((tx [98]).toList, (tx [50]).toList) = cP
  rw [tx_list, tx_list]
  exact cP_put
theorem cP_at1 : atP cP [98, 98] = 1 := by decide +kernel
theorem cP_at2 : atP cP [] = -1 := by decide +kernel
theorem cP_size : sizeC cP = 18 := by decide +kernel
theorem cP_half1 : halfV (cP.take 1) = .tuple #[.int .i64 0, .int .i64 9] := halfV_few (by decide +kernel) (by decide +kernel)
theorem cP_half : halfV cP = .tuple #[.int .i64 2, .int .i64 0] := halfV_of (n := 2) cP_rgt ⟨by decide +kernel, by decide +kernel, fun m h1 h2 => by
  obtain rfl : m = 1 := by omega
  decide +kernel, .inl (by decide +kernel)⟩
theorem cK_bytes : bytesV [([107], [118])] = .tuple #[.string ⟨#[0, 1, 0, 0, 0, 0, 0, 1, 107, 0, 1, 118]⟩, .int .i64 0] := by
  have h : rgtB [([107], [118])] = true := by decide +kernel
  have h2 : bytesC [([107], [118])] = [0, 1, 0, 0, 0, 0, 0, 1, 107, 0, 1, 118] := by decide +kernel
  unfold bytesV
  rw [if_pos h, if_neg (by decide), h2]
  rfl

set_option maxRecDepth 100000 in
set_option maxHeartbeats 4000000 in
theorem chead_any (w : World) : Calls Try.prog 8 #[] w fun e w' => e = .returned (.bool true) ∧ Below w.heap.size w w' := by
  obtain ⟨o, ho⟩ : ∃ o, w.alloc (.cells #[.string ⟨#[97]⟩, .string ⟨#[49]⟩, .string ⟨#[99]⟩, .string ⟨#[51]⟩] 38) = o := ⟨_, rfl⟩
  have HBo := Lib.hid (show Below w.heap.size w o from ho ▸ (Below.refl _ w).alloc (Nat.le_refl _) _)
  obtain ⟨B, hB⟩ : ∃ B, w.heap.size = B := ⟨_, rfl⟩
  have hR : Row o B 38 [.string ⟨#[97]⟩, .string ⟨#[49]⟩, .string ⟨#[99]⟩, .string ⟨#[51]⟩] (0, 0) := hB ▸ ho ▸ Row.new w 38 [.string ⟨#[97]⟩, .string ⟨#[49]⟩, .string ⟨#[99]⟩, .string ⟨#[51]⟩] (0, 0)
  have hC : Cels o (some ⟨B, 0, none⟩) hL := Cels.row hR fun j _ => rfl
  have HPUT := Lib.hid (show Calls Try.prog 22 #[.slice (some ⟨B, 0, none⟩) 2 2, .agg #[.string ⟨#[98]⟩, .string ⟨#[50]⟩]] o (CelsO o (some hP)) from by
    have := kput_any (some ⟨B, 0, none⟩) 2 2 hL (tx [98]) (tx [50]) o hC rfl (by omega) (Nat.le_refl _) (fun h => by cases h)
    rw [hL_put, if_pos ⟨by rw [hL_c]; exact cL_rgt, by unfold fitC cel; rw [tx_list, tx_list]; rfl⟩] at this
    exact this)
  have HBYT := Lib.hid (show ∀ wx : World, Calls Try.prog 24 #[.slice (some ⟨wx.heap.size, 0, none⟩) 1 1] (wx.alloc (.cells #[.string ⟨#[107]⟩, .string ⟨#[118]⟩] 38)) (fun e w' => e = .returned (.tuple #[.string ⟨#[0, 1, 0, 0, 0, 0, 0, 1, 107, 0, 1, 118]⟩, .int .i64 0]) ∧ Below wx.heap.size wx w') from fun wx => by
    have hr : Row (wx.alloc (.cells #[.string ⟨#[107]⟩, .string ⟨#[118]⟩] 38)) wx.heap.size 38 [.string ⟨#[107]⟩, .string ⟨#[118]⟩] (0, 0) := Row.new wx 38 [.string ⟨#[107]⟩, .string ⟨#[118]⟩] (0, 0)
    have hc : Cels (wx.alloc (.cells #[.string ⟨#[107]⟩, .string ⟨#[118]⟩] 38)) (some ⟨wx.heap.size, 0, none⟩) hK := Cels.row hr fun j _ => rfl
    have hb : Below wx.heap.size wx (wx.alloc (.cells #[.string ⟨#[107]⟩, .string ⟨#[118]⟩] 38)) := (Below.refl _ _).alloc (Nat.le_refl _) _
    refine (kbytes_any (some ⟨wx.heap.size, 0, none⟩) 1 1 hK _ hc rfl (by omega)).mono ?_
    rintro e w' ⟨rfl, h2⟩
    rw [hK_c, cK_bytes]
    exact ⟨rfl, hb.trans (h2.mono hb.size)⟩)
  clear hR hC
  go_enter Try.func8, Try.ntmps8
  go_wp2_with fail
  refine HPUT.out.mono ?_
  rintro e w1 ⟨A, c, rfl, hc1, hlc, hA, hb1⟩
  obtain ⟨g, off, rfl, HC⟩ := hc1.at_ (show 0 < hP.length by decide)
  have HB1 := Lib.hid (HBo.out.trans (hb1.mono HBo.out.size))
  have h3 : hP.length = 3 := rfl
  rw [h3] at hlc
  simp only [h3]
  have hlcI : (3 : Int) ≤ (c : Int) := by omega
  have HCC := Lib.hid (fun wx (hb : Below w1.heap.size w1 wx) => hc1.keeps hb)
  have HAT1 := Lib.hid (fun wx (hb : Below w1.heap.size w1 wx) => show Calls Try.prog 20 #[.slice (some ⟨g, off, none⟩) 3 c, .string ⟨#[98, 98]⟩] wx (fun e w' => e = .returned (.int .i64 1) ∧ Below wx.heap.size wx w') by
    have := kat_any (some ⟨g, off, none⟩) 3 c hP (tx [98, 98]) wx (hc1.keeps hb) rfl (by omega)
    rw [hP_c, tx_list, cP_at1] at this
    exact this)
  have HAT2 := Lib.hid (fun wx (hb : Below w1.heap.size w1 wx) => show Calls Try.prog 20 #[.slice (some ⟨g, off, none⟩) 3 c, .string ⟨#[]⟩] wx (fun e w' => e = .returned (.int .i64 (-1)) ∧ Below wx.heap.size wx w') by
    have := kat_any (some ⟨g, off, none⟩) 3 c hP (tx []) wx (hc1.keeps hb) rfl (by omega)
    rw [hP_c, tx_list, cP_at2] at this
    exact this)
  have HSZ := Lib.hid (fun wx (hb : Below w1.heap.size w1 wx) => show Calls Try.prog 15 #[.slice (some ⟨g, off, none⟩) 3 c] wx (fun e w' => e = .returned (.int .i64 18) ∧ Below wx.heap.size wx w') by
    have := kSize_any (some ⟨g, off, none⟩) 3 c hP wx (hc1.keeps hb) rfl (by omega)
    rw [hP_c, cP_size] at this
    exact this)
  have HH1 := Lib.hid (fun wx (hb : Below w1.heap.size w1 wx) => show Calls Try.prog 11 #[.slice (some ⟨g, off, none⟩) 1 c] wx (fun e w' => e = .returned (.tuple #[.int .i64 0, .int .i64 9]) ∧ Below wx.heap.size wx w') by
    have := khalf_any (some ⟨g, off, none⟩) 1 c (hP.take 1) wx ((hc1.keeps hb).take 1) rfl (by omega) (by omega)
    rw [show cels (hP.take 1) = cP.take 1 by unfold cels; rw [List.map_take]; exact congrArg (List.take 1) hP_c, cP_half1] at this
    exact this)
  have HH2 := Lib.hid (fun wx (hb : Below w1.heap.size w1 wx) => show Calls Try.prog 11 #[.slice (some ⟨g, off, none⟩) 3 c] wx (fun e w' => e = .returned (.tuple #[.int .i64 2, .int .i64 0]) ∧ Below wx.heap.size wx w') by
    have := khalf_any (some ⟨g, off, none⟩) 3 c hP wx (hc1.keeps hb) rfl (by omega) (by omega)
    rw [hP_c, cP_half] at this
    exact this)
  have c1 : w1.cell? ⟨g, off + 1 * 2, none⟩ = some (.string ⟨#[98]⟩) := (HC.out 1 (by decide) w1 (Below.refl _ _)).1
  have HK1 := Lib.hid (Below.refl w1.heap.size w1)
  have hcmp : ((⟨#[98]⟩ : ByteArray).toList == (⟨#[98]⟩ : ByteArray).toList) = true := beq_self_eq_true _
  have hcmp2 : ((⟨#[0, 1, 0, 0, 0, 0, 0, 1, 107, 0, 1, 118]⟩ : ByteArray).toList == (⟨#[0, 1, 0, 0, 0, 0, 0, 1, 107, 0, 1, 118]⟩ : ByteArray).toList) = true := beq_self_eq_true _
  clear hc1 hb1 hA HC HPUT h3 HCC
  go_wp2_with fail
  refine (HAT1.out w1 HK1.out).mono ?_
  rintro e w2 ⟨rfl, hb2⟩
  have HK2 := Lib.hid (HK1.out.trans (hb2.mono HK1.out.size))
  clear hb2
  go_wp2_with fail
  refine (HAT2.out w2 HK2.out).mono ?_
  rintro e w3 ⟨rfl, hb3⟩
  have HK3 := Lib.hid (HK2.out.trans (hb3.mono HK2.out.size))
  clear hb3
  go_wp2_with fail
  refine (HSZ.out w3 HK3.out).mono ?_
  rintro e w4 ⟨rfl, hb4⟩
  have HK4 := Lib.hid (HK3.out.trans (hb4.mono HK3.out.size))
  clear hb4
  go_wp2_with fail
  refine (HH1.out w4 HK4.out).mono ?_
  rintro e w5 ⟨rfl, hb5⟩
  have HK5 := Lib.hid (HK4.out.trans (hb5.mono HK4.out.size))
  clear hb5
  go_wp2_with fail
  refine (HH2.out w5 HK5.out).mono ?_
  rintro e w6 ⟨rfl, hb6⟩
  have HK6 := Lib.hid (HK5.out.trans (hb6.mono HK5.out.size))
  clear hb6
  go_wp2_with fail
  refine (HBYT.out w6).mono ?_
  rintro e w7 ⟨rfl, hb7⟩
  have HB7 := Lib.hid (HB1.out.trans ((HK6.out.trans (hb7.mono HK6.out.size)).mono HB1.out.size))
  clear hb7
  go_wp2_with fail
  go_ret
  exact ⟨rfl, HB7.out⟩
end Go.Proofs.Ytbganaaiaokfmaa
