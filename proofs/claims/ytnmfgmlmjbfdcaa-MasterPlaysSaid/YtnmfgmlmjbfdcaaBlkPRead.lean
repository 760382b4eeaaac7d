/-
  The document's device: Read, Sync.
-/
import Derived.Test.YtnmfgmlmjbfdcaaBlkPNew
namespace Go.Proofs.Ytnmfgmlmjbfdcaa
open Go.RowKit

theorem lastOf_take (b : Nat) (a : List UInt8) (l : List (Nat × List UInt8)) (k : Nat) (hk : k < l.length) : lastOf b a (l.take (k + 1)) = if l[k].1 = b then l[k].2 else lastOf b a (l.take k) := by
  rw [List.take_succ_eq_append_getElem hk, lastOf_snoc]

set_option maxRecDepth 100000 in
theorem rread_bad (x : RV) (b : Int) (w : World) (h : x.In w) (hb : ¬ (0 ≤ b ∧ b < x.R.sure.length)) : Calls Try.prog 33 #[x.ptr, .int .i64 b] w fun e w' => e = .returned (.tuple #[.string ⟨#[]⟩, .int .i64 2]) ∧ w = w' := by
  have c1 := h.c1
  obtain ⟨g, cap, cs, e, -⟩ := h.slot
  rw [e] at c1
  have h8 := h.b8
  have hb' : b < 0 ∨ (0 ≤ b ∧ (x.R.sure.length : Int) ≤ b) := by omega
  have h8' : (x.R.sure.length : Int) ≤ 8 := by omega
  clear h e hb
  unfold RV.ptr
  rcases hb' with h1 | ⟨h1, h2⟩
  all_goals
    go_enter Try.func33, Try.ntmps33
    go_wp2
    go_ret2
    exact ⟨rfl, rfl⟩

set_option maxRecDepth 100000 in
set_option maxHeartbeats 2000000 in
theorem rread_good (x : RV) (b : Nat) (w : World) (h : x.In w) (hb : b < x.R.sure.length) (hm : x.R.opens.length ≤ 1000000) : Calls Try.prog 33 #[x.ptr, .int .i64 (b : Int)] w fun e w' => e = .returned (.tuple #[.string ⟨(lastOf b (x.R.sure.getD b []) x.R.opens).toArray⟩, .int .i64 0]) ∧ w = w' := by
  have c1 := h.c1
  have c2 := h.c2
  obtain ⟨g, cap, cs, e, -, -, -, -, -, hcell⟩ := h.slot
  obtain ⟨v0, cv0, hv0⟩ := hcell b (x.R.sure.getD b []) (by rw [List.getD_eq_getElem?_getD, List.getElem?_eq_getElem hb]; rfl)
  obtain ⟨g0, cap0, rfl⟩ := hv0.lit
  rw [e] at c1
  obtain ⟨oa, oc, hov⟩ : ∃ (a : Option Addr) (c : Nat), x.vO = .slice a x.R.opens.length c := by
    rcases h.oslot with ⟨e1, e2⟩ | ⟨g, c, e1, _⟩
    · exact ⟨none, 0, by rw [e1, e2]; rfl⟩
    · exact ⟨_, _, e1⟩
  rw [hov] at c2
  have HOS := Lib.hid (show ∀ i (hi : i < x.R.opens.length), ∃ og v, oa = some ⟨og, 0, none⟩ ∧ w.cell? ⟨og, i * 2, none⟩ = some (.int .i64 (x.R.opens[i].1 : Int)) ∧ w.cell? ⟨og, i * 2 + 1, none⟩ = some v ∧ BlkV w x.R.ns v x.R.opens[i].2 from fun i hi => by
    rcases h.oslot with ⟨e1, e2⟩ | ⟨og, c, e1, h2⟩
    · have : x.R.opens.length = 0 := by rw [e2]; rfl
      omega
    · obtain ⟨v, q1, q2, q3⟩ := h2 i x.R.opens[i] (List.getElem?_eq_getElem hi)
      rw [hov] at e1
      injection e1 with e1
      exact ⟨og, v, e1, q1, q2, q3⟩)
  have h8 := h.b8
  have h4 := h.n4
  have q1 : (b : Int) < x.R.sure.length := by omega
  have q2 : (x.R.sure.length : Int) ≤ 8 := by omega
  have q3 : (x.R.ns : Int) ≤ 4 := by omega
  have q4 : (x.R.opens.length : Int) ≤ 1000000 := by omega
  generalize x.R.sure.getD b [] = L0 at *
  obtain ⟨L, hLL⟩ : ∃ L, lastOf b L0 x.R.opens = L := ⟨_, rfl⟩
  rw [hLL]
  have HV0 := Lib.hid hv0
  have HLT := Lib.hid (fun k hk => lastOf_take b L0 x.R.opens k hk)
  have H0 := Lib.hid (show BlkV w x.R.ns (.slice (some ⟨g0, 0, none⟩) x.R.ns cap0) (lastOf b L0 (x.R.opens.take 0)) from hv0)
  have HFULL := Lib.hid (show lastOf b L0 (x.R.opens.take x.R.opens.length) = L from by rw [List.take_length]; exact hLL)
  clear h hov hcell e hv0 hb hLL
  unfold RV.ptr
  go_enter Try.func33, Try.ntmps33
  go_wp2_with fail
  go_loopw [6, 7] (fun at_ i wr => wr = w ∧ ∃ (k g cap : Nat), k ≤ x.R.opens.length ∧ i = .int .i64 k ∧ at_ = .slice (some ⟨g, 0, none⟩) x.R.ns cap ∧ Hid (BlkV w x.R.ns at_ (lastOf b L0 (x.R.opens.take k)))) (fun _ i _ => x.R.opens.length - (intOf i).toNat)
  case atStart => exact ⟨rfl, 0, _, _, by omega, rfl, rfl, H0⟩
  case round =>
    clear H0 HV0
    obtain ⟨rfl, k, g1, cap1, hk, rfl, rfl, HB⟩ := hrel
    by_cases hkn : k = x.R.opens.length
    · have hB := HB.out
      rw [hkn, HFULL.out] at hB
      have hkn2 : ¬ (k : Int) < x.R.opens.length := by omega
      clear HB HLT HOS
      obtain ⟨g2, cap2, e2, -, hsec⟩ := hB.cell
      injection e2 with e2 e3 e4
      injection e2 with e2
      injection e2 with e2
      subst e2
      have hLl : L.length = x.R.ns * 64 := hB.1
      have HS := Lib.hid (fun k (hk : k < x.R.ns) => show wr.cell? ⟨g1, k, none⟩ = some (.string ⟨(seg L (k * 64) 64).toArray⟩) from hsec k hk)
      have HG := Lib.hid (fun k (hk : k * 64 ≤ L.length) => glue_secs L k hk)
      have HSU := Lib.hid (fun k => show glue (secs (k + 1) L) = glue (secs k L) ++ ⟨(seg L (k * 64) 64).toArray⟩ from by rw [secs_succ, glue_snoc])
      have HEND := Lib.hid (show glue (secs x.R.ns L) = ⟨L.toArray⟩ from by rw [glue_secs L _ (by omega), List.take_of_length_le (by omega)])
      have H00 : glue (secs 0 L) = ⟨#[]⟩ := rfl
      have HZ := Lib.hid (show ∀ k, k ≤ x.R.ns → (glue (secs k L)).size = k * 64 from fun k hk => by
        rw [glue_secs L k (by omega)]; show ((L.take (k * 64)).toArray).size = _; simp; omega)
      have HZ2 := Lib.hid (show ∀ k, k < x.R.ns → (⟨(seg L (k * 64) 64).toArray⟩ : ByteArray).size = 64 from fun k hk => by
        show ((seg L (k * 64) 64).toArray).size = _; rw [List.size_toArray, seg_length _ _ _ (by omega)])
      clear hB e3 e4 hsec HFULL hk hkn
      go_wp2_with fail
      go_loopw [8, 9] (fun s i wr' => wr' = wr ∧ ∃ k : Nat, k ≤ x.R.ns ∧ i = .int .i64 k ∧ s = .string (glue (secs k L))) (fun _ i _ => x.R.ns - (intOf i).toNat)
      case atStart => exact ⟨rfl, 0, by omega, rfl, by rw [H00]⟩
      case round =>
        obtain ⟨rfl, j, hj, rfl, rfl⟩ := hrel
        by_cases hjn : j = x.R.ns
        · have hj2 : ¬ (j : Int) < x.R.ns := by omega
          have hE := HEND.out
          rw [← hjn] at hE
          rw [hE]
          clear HEND HS HG HSU HZ HZ2 hE
          go_wp2_with fail
          go_ret2
          exact ⟨rfl, rfl⟩
        · have hj2 : (j : Int) < x.R.ns := by omega
          have hj3 : j < x.R.ns := by omega
          have cS := HS.out j hj3
          have hz := HZ.out j hj
          have hz2 := HZ2.out j hj3
          have hsu := HSU.out j
          have hj4 : j + 1 ≤ x.R.ns := by omega
          generalize glue (secs j L) = G at *
          generalize (⟨(seg L (j * 64) 64).toArray⟩ : ByteArray) = T at *
          have hG : (G.size : Int) ≤ 256 := by omega
          have hT : (T.size : Int) ≤ 64 := by omega
          have HSU2 := Lib.hid hsu
          clear HS HG HSU HZ HZ2 hz hz2 hsu HEND hjn hj
          go_wp2_with fail
          go_roundw
          case rel => exact ⟨trivial, j + 1, hj4, by go_num, by rw [HSU2.out]⟩
          case measure => simp [intOf]; omega
    · have hkN : k < x.R.opens.length := by omega
      have hk2 : (k : Int) < x.R.opens.length := by omega
      have hk1 : k + 1 ≤ x.R.opens.length := by omega
      obtain ⟨og, v, rfl, d0, d1, hvv⟩ := HOS.out k hkN
      obtain ⟨gv, cv, rfl⟩ := hvv.lit
      have hlt := HLT.out k hkN
      have HVV := Lib.hid hvv
      generalize (x.R.opens[k]'hkN) = o at *
      clear hvv HLT HOS HFULL hkn
      by_cases hob : o.1 = b
      · have hobi : (o.1 : Int) = b := by omega
        rw [if_pos hob] at hlt
        have HN := Lib.hid (show BlkV wr x.R.ns (.slice (some ⟨gv, 0, none⟩) x.R.ns cv) (lastOf b L0 (x.R.opens.take (k + 1))) from by rw [hlt]; exact HVV.out)
        rw [hobi] at d0
        clear HVV HB hlt hob hobi
        go_wp2_with fail
        go_roundw
        case rel => exact ⟨trivial, k + 1, _, _, hk1, by go_num, rfl, HN⟩
        case measure => simp [intOf]; omega
      · have hobi : ¬ (o.1 : Int) = b := by omega
        rw [if_neg hob] at hlt
        have HN := Lib.hid (show BlkV wr x.R.ns (.slice (some ⟨g1, 0, none⟩) x.R.ns cap1) (lastOf b L0 (x.R.opens.take (k + 1))) from by rw [hlt]; exact HB.out)
        generalize o.1 = o1 at *
        clear HVV HB hlt hob
        go_wp2_with fail
        go_roundw
        case rel => exact ⟨trivial, k + 1, _, _, hk1, by go_num, rfl, HN⟩
        case measure => simp [intOf]; omega
end Go.Proofs.Ytnmfgmlmjbfdcaa
