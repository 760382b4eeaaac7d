/-
  The walks over package block: settle.
-/
import Derived.Test.YtnmfgmlmjbfdcaaBlkA
namespace Go.Proofs.Ytnmfgmlmjbfdcaa
open Go.RowKit

theorem DV.Top.slot {d : DV} {w : World} (h : d.Top w) : ∃ (ad : Option Addr) (cap : Nat), d.p = .slice ad d.pend.length cap ∧ d.pend.length ≤ cap ∧ cap ≤ maxLen ∧ ∀ (i : Nat) (hi : i < d.pend.length), ∃ g, ad = some ⟨g, 0, none⟩ ∧ w.cell? ⟨g, i * 2, none⟩ = some (.int .i64 (d.pend[i].1 : Int)) ∧ w.cell? ⟨g, i * 2 + 1, none⟩ = some (.string d.pend[i].2) := by
  rcases h.pend with ⟨h1, h2⟩ | ⟨g, cap, h1, h2, h3, h4⟩
  · refine ⟨none, 0, by rw [h1, h2]; rfl, by rw [h2]; simp, by unfold maxLen; omega, fun i hi => ?_⟩
    rw [h2] at hi; simp at hi
  · exact ⟨some ⟨g, 0, none⟩, cap, h1, h2, h3, fun i hi => ⟨g, rfl, h4 i hi⟩⟩

/-- A device without pending writes, as its own block says. -/
def DV.clean (d : DV) : DV := { d with p := .slice none 0 0, pend := [] }

set_option maxRecDepth 100000 in
set_option maxHeartbeats 1000000 in
/-- The blocks of the pending writes go from the one side to the other. -/
theorem settle_any (d : DV) (T ct R cr : Nat) (t f : List UInt8) (XT XF : List Value) (w : World) (h : d.Top w) (hT : Row w T 5 (byt t ++ XT) (0, 0)) (hR : Row w R 5 (byt f ++ XF) (0, 0)) (hne : T ≠ R)
    (ht : t.length = d.all) (hf : f.length = d.all) (hct : d.all ≤ ct) (hcr : d.all ≤ cr) :
    Calls Try.prog 55 #[d.ptr, .slice (some ⟨T, 0, none⟩) d.all ct, .slice (some ⟨R, 0, none⟩) d.all cr] w fun e w' => e = .returned (.tuple #[]) ∧ Row w' T 5 (byt (settle d.sz f d.pend t) ++ XT) (0, 0) ∧ Row w' d.A 94 d.clean.cells (0, 0) ∧ Only (fun k => k = T ∨ k = d.A) w w' := by
  have HP1 := Lib.hid (fun (wx : World) (b : Nat) (hx : d.Top wx) (hb : b < d.nb) => piece_any d T ct b wx hx hb hct)
  have HP2 := Lib.hid (fun (wx : World) (b : Nat) (hx : d.Top wx) (hb : b < d.nb) => piece_any d R cr b wx hx hb hcr)
  have HAT := Lib.hid (h.AB hT)
  have HPT := Lib.hid (h.pNe hT (by decide))
  have HNE := Lib.hid hne
  have HLT := Lib.hid ht
  have HLF := Lib.hid hf
  have HFT := Lib.hid (fun q hq => (h.fits q hq).1)
  have HTop := Lib.hid h
  have HRow := Lib.hid hT
  have HRR := Lib.hid hR
  have c4 := h.c4
  obtain ⟨ad, cap, hp, hcap, hcm, hcells⟩ := h.slot
  have HSL := Lib.hid hcells
  rw [hp] at c4
  have HPV := Lib.hid hp
  unfold maxLen at hcm
  have hn : d.pend.length ≤ 9223372036854775807 := by omega
  clear h hT hR hne ht hf hct hcr hp hcells hcm hcap
  have HBL := Lib.hid (fun b (hb : b < d.nb) => block_in d.sz hb)
  have hall : d.nb * d.sz ≤ 16384000 := HTop.out.allLe
  have hspos : 0 < d.sz := by have := HTop.out.ns1; show 0 < d.ns * 64; omega
  unfold DV.ptr at HP1 HP2 ⊢
  go_enter Try.func55, Try.ntmps55
  go_wp2_with fail
  go_loopw [6, 7, 13] (fun _ _ i wr => ∃ k : Nat, k ≤ d.pend.length ∧ i = .int .i64 k ∧ Hid (Row wr T 5 (byt (settle d.sz f (d.pend.take k) t) ++ XT) (0, 0)) ∧ Hid (Only (· = T) w wr)) (fun _ _ i _ => d.pend.length - (intOf i).toNat)
  case atStart => exact ⟨0, Nat.zero_le _, rfl, by simpa [settle] using HRow, Lib.hid (Only.refl _ _)⟩
  case round =>
    obtain ⟨k, hk, rfl, HR, HO⟩ := hrel
    have HTw := Lib.hid (HTop.out.only HO.out HAT.out (fun g hg e => HPT.out (e ▸ hg)))
    have c4' := HTw.out.c4
    rw [HPV.out] at c4'
    by_cases hlt : k < d.pend.length
    · obtain ⟨g, rfl, hg1, hg2⟩ := HSL.out k hlt
      obtain ⟨b, hb⟩ : ∃ b, d.pend[k].1 = b := ⟨_, rfl⟩
      have hmem : d.pend[k] ∈ d.pend := List.getElem_mem _
      have hbn : b < d.nb := hb ▸ HFT.out _ hmem
      have hcg : wr.cell? ⟨g, k * 2, none⟩ = some (.int .i64 (b : Int)) := by
        rw [← hb, ← hg1]
        refine World.cell?_of_block (w := w) (HO.out.block g (World.block_lt_of_cell? w _ hg1) fun e => HPT.out ?_)
        rw [HPV.out, e]; rfl
      have HIN := Lib.hid (HBL.out b hbn)
      have HPB := Lib.hid hb
      clear hg1 hg2 hb hmem
      go_wp2_with fail
      refine (HP1.out wr b HTw.out hbn).mono ?_
      rintro e w1 ⟨rfl, n1, rfl⟩
      go_wp2_with fail
      refine (HP2.out (wr.drewN n1) b (HTw.out.drewN n1) hbn).mono ?_
      rintro e w2 ⟨rfl, n2, rfl⟩
      obtain ⟨w3, hw3⟩ : ∃ w3, (wr.drewN n1).drewN n2 = w3 := ⟨_, rfl⟩
      have hr3 : Row w3 T 5 (byt (settle d.sz f (d.pend.take k) t) ++ XT) (0, 0) := by rw [← hw3]; exact HR.out
      have ho3 : Only (· = T) w w3 := by rw [← hw3]; exact (HO.out.drewN n1).drewN n2
      have hrr3 : Row w3 R 5 (byt f ++ XF) (0, 0) := HRR.out.only ho3 (fun e => HNE.out e.symm)
      have hlen : (settle d.sz f (d.pend.take k) t).length = d.nb * d.sz := settle_length d.sz d.nb f HLF.out _ t HLT.out fun q hq => HFT.out q (List.mem_of_mem_take hq)
      have hin := HIN.out
      have hsl : (seg f (b * d.sz) d.sz).length = d.sz := seg_length _ _ _ (by rw [HLF.out]; exact hin)
      have hcp : ∀ ty, (Builtin.copy_ #[69, 69] ty #[.slice (some ⟨T, b * d.sz, none⟩) d.sz (ct - b * d.sz), .slice (some ⟨R, b * d.sz, none⟩) d.sz (cr - b * d.sz)]).run Try.prog w3 = _ := fun ty =>
        run_copy_row (P := Try.prog) w3 69 69 ty 5 T (b * d.sz) d.sz (ct - b * d.sz) ⟨R, b * d.sz, none⟩ d.sz (cr - b * d.sz) _ 5 (byt (seg f (b * d.sz) d.sz)) Try.underlying69 Try.u8size hr3 (by rw [byt_length, hsl]; simp)
          (fun j v hj => by
            rw [Addr.add_lit, hrr3.cell]
            have hjl : j < d.sz := by
              have := (List.getElem?_eq_some_iff.1 hj).1
              rwa [byt_length, hsl] at this
            rw [List.getElem?_append_left (by rw [byt_length, show f.length = d.nb * d.sz from HLF.out]; omega)]
            rw [← hj]
            unfold byt
            rw [List.getElem?_map, List.getElem?_map, seg_get, if_pos hjl])
          (by rw [byt_length, hsl]; simp [byt_length, hlen]; omega) (byt_one _)
      have hsp : ((byt (settle d.sz f (d.pend.take k) t) ++ XT).toArray.toList.take (b * d.sz) ++ byt (seg f (b * d.sz) d.sz) ++ (byt (settle d.sz f (d.pend.take k) t) ++ XT).toArray.toList.drop (b * d.sz + (byt (seg f (b * d.sz) d.sz)).length)) = byt (settle d.sz f (d.pend.take (k + 1)) t) ++ XT := by
        rw [List.append_assoc]
        show splice (byt (settle d.sz f (d.pend.take k) t) ++ XT) (b * d.sz) (byt (seg f (b * d.sz) d.sz)) = _
        rw [byt_splice _ _ _ _ (by rw [hsl, hlen]; exact hin), List.take_succ_eq_append_getElem hlt, settle_snoc, HPB.out]
      rw [hsp] at hcp
      have HR4 := Lib.hid (hr3.setRow_ (cs := byt (settle d.sz f (d.pend.take (k + 1)) t) ++ XT))
      have HO4 := Lib.hid (Only.setRow (F := (· = T)) (g := T) ho3 rfl (byt (settle d.sz f (d.pend.take (k + 1)) t) ++ XT).toArray)
      obtain ⟨w4, hw4⟩ : ∃ w4, w3.setRow T (byt (settle d.sz f (d.pend.take (k + 1)) t) ++ XT).toArray = w4 := ⟨_, rfl⟩
      rw [hw4] at HR4 HO4
      simp only [hw4, byt_length, hsl] at hcp
      clear hw4 hsp hr3 ho3 hrr3 hlen hin hsl
      rw [hw3]
      clear hw3
      go_wp2_with fail
      clear hcp
      go_roundw
      case rel => exact ⟨k + 1, by omega, by go_num, HR4, HO4⟩
      case measure => simp [intOf]; omega
    · obtain rfl : k = d.pend.length := by omega
      have f4 := HTw.out.free 4
      have hdev := HTw.out.dev
      have HA := Lib.hid (hdev.put 4 (.slice none 0 0))
      clear hdev
      go_wp2
      go_end0
      refine ⟨rfl, ?_, HA.out, ?_⟩
      · have := HR.out
        rw [List.take_length] at this
        exact Row.far this (fun e => HAT.out e.symm) _
      · exact (HO.out.imp fun _ _ e => .inl e).setCell (.inr rfl) _

end Go.Proofs.Ytnmfgmlmjbfdcaa
