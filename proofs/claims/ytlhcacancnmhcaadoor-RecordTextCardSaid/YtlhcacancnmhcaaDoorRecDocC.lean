/-
  The walk over the document's answer for package record, part C: Put.
-/
import Derived.Test.YtlhcacancnmhcaaDoorRecDocB
namespace Go.Proofs.YtlhcacancnmhcaaDoor
open Go.RowKit

/-- Data that the document's answer is walked over. -/
def Small (l : List Rec) : Prop := ∀ r ∈ l, r.d.length ≤ 40000
theorem Small.sane {l : List Rec} (h : Small l) : Sane l := fun r hr => by have := h r hr; omega
theorem Small.fit {l : List Rec} (h : Small l) : Fit l := fun r hr => by have := h r hr; omega
theorem Small.at_ {l : List Rec} (h : Small l) (i : Nat) (hi : i < l.length) : l[i].d.length ≤ 40000 := h _ (List.getElem_mem hi)

set_option maxRecDepth 100000 in
set_option maxHeartbeats 1000000 in
theorem rput_any (A : Option Addr) (l : List Rec) (c : Nat) (w : World) (h : Recs w A l) (hl : l.length ≤ 1000) (hs : Small l) :
    Calls Tryd.prog 11 #[.slice A l.length c] w fun e w' => e = .returned (.tuple #[.string (tb (allR l)), .int .i64 0]) ∧ Below w.heap.size w w' := by
  have HR := Lib.hid h
  clear h
  go_enter Tryd.func11, Tryd.ntmps11
  go_wp2_with fail
  go_loopw [4, 5] (fun v i wr => ∃ (k : Nat) (u : ByteArray), k ≤ l.length ∧ v = .string u ∧ i = .int .i64 k ∧ u = tb (allR (l.take k)) ∧ Below w.heap.size w wr) (fun _ i _ => l.length - (intOf i).toNat)
  case atStart => exact ⟨0, _, by omega, rfl, rfl, rfl, Below.refl _ _⟩
  case round =>
    obtain ⟨k, u, hk, rfl, rfl, hu, hb⟩ := hrel
    have HU := Lib.hid hu
    have HB := Lib.hid hb
    by_cases hlt : k < l.length
    · obtain ⟨g, off, rfl, _, h1, h2⟩ := (HR.out.keeps hb).at_ k hlt
      have HO := Lib.hid (rone_any l[k] wr (hs.at_ k hlt))
      have hdl := hs.at_ k hlt
      have hul : u.size ≤ 1000 * 1000013 := by
        rw [hu, tb_size]
        exact Nat.le_trans (allR_le _ (hs.sane.take k)) (Nat.mul_le_mul_right _ (by rw [List.length_take]; omega))
      have hcat : ¬ 9223372036854775807 < u.size + (tb (one l[k])).size := by rw [tb_size, one_length]; omega
      have HX := Lib.hid (show u ++ tb (one l[k]) = tb (allR (l.take (k + 1))) by rw [hu, tb_app, List.take_succ_eq_append_getElem hlt, allR_append, allR_cons, allR_nil, List.append_nil])
      have hg : ¬ (262144 : Int) < ((tb l[k].d).size : Int) := by rw [tb_size]; omega
      unfold recV at HO
      generalize tb (one l[k]) = z at *
      generalize tb l[k].d = d at *
      generalize l[k].k.toNat = q at *
      clear hu hb hdl
      go_wp2_with fail
      refine HO.out.mono ?_
      rintro e w1 ⟨rfl, hb1⟩
      have HB1 := Lib.hid (HB.out.trans (hb1.mono HB.out.size))
      clear hb1
      go_wp2
      go_roundw
      case rel => exact ⟨k + 1, _, by omega, rfl, by go_num, HX.out, HB1.out⟩
      case measure => simp [intOf]; omega
    · obtain rfl : k = l.length := by omega
      rw [List.take_length] at HU
      clear hu hb
      go_wp2
      go_ret2
      exact ⟨by first | rfl | (rw [HU.out]; rfl), HB.out⟩
end Go.Proofs.YtlhcacancnmhcaaDoor
