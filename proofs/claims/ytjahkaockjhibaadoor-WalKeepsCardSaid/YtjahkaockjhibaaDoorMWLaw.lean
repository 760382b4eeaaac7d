/-
  WalRoom: the walk.
-/
import Derived.Test.YtjahkaockjhibaaDoorMWHeld
import Derived.Test.YtjahkaockjhibaaDoorMTapB
namespace Go.Proofs.YtjahkaockjhibaaDoor
open Go.RowKit

theorem append_last (g : LG) (k : UInt8) (x : List UInt8) : (g.append k x).last ≤ g.last + 1 ∧ (g.append k x).st.fin ≤ g.st.fin + (21 + x.length) := by
  unfold LG.append
  split
  · exact ⟨Nat.le_refl _, by rw [put_fin]; exact Nat.le_refl _⟩
  · exact ⟨by omega, by omega⟩

set_option maxRecDepth 100000 in
set_option maxHeartbeats 4000000 in
theorem roomlaw_any (room : Int) (A : Option Addr) (l : List ByteArray) (c : Nat) (w : World) (hT : Tab w) (hr : room ≤ 9223372036854775807) (hs : Strs w A l) : Calls Tryd.prog 6 #[.int .i64 room, .slice A l.length c] w fun e w' => e = .returned (.bool true) ∧ Below w.heap.size w w' := by
  have HT := Lib.hid hT
  have HS := Lib.hid hs
  have HNT := Lib.hid (new_tape (W := w) (w := w) room hr (Below.refl _ _))
  clear hT hs
  go_enter Tryd.func6, Tryd.ntmps6
  go_wp2_with fail
  refine HNT.out.mono ?_
  rintro e w1 ⟨A1, rfl, h1⟩
  obtain ⟨p, hp⟩ : ∃ p, (Value.pointer (some ⟨A1, 0, none⟩)) = p := ⟨_, rfl⟩
  rw [hp] at h1 ⊢
  have H1 := Lib.hid h1
  clear h1 hp HNT
  go_wp2_with fail
  refine (open_log HT.out H1.out (by simp) 0 (by decide) 0 rfl).mono ?_
  intro e w2 ho
  obtain ⟨B, hB⟩ : ∃ B, e = .returned (.tuple #[.pointer (some ⟨B, 0, none⟩), .int .i64 0]) ∧ Log w p (.pointer (some ⟨B, 0, none⟩)) (logNew room.toNat 0) w2 := by
    rcases ho with ⟨h, _⟩ | ⟨B, g, h1, h2, h3⟩
    · rw [opens_new _ 0 (by decide)] at h; cases h
    · rw [opens_new _ 0 (by decide)] at h1
      injection h1 with h1
      subst h1
      exact ⟨B, h2, h3⟩
  obtain ⟨rfl, hl⟩ := hB
  have H2 := Lib.hid hl
  clear ho hl H1
  by_cases h40 : 40 < l.length
  · have h40I : (40 : Int) < (l.length : Int) := by omega
    clear h40
    go_wp2_with fail
    refine (whead_any w2 (HT.out.keeps H2.out.since)).mono ?_
    rintro e w3 ⟨rfl, hb⟩
    have HB := Lib.hid (H2.out.since.trans (hb.mono H2.out.since.size))
    clear hb
    go_wp2
    go_ret
    exact ⟨rfl, HB.out⟩
  · have h40I : ¬ (40 : Int) < (l.length : Int) := by omega
    go_wp2_with fail
    go_loopw [8] (fun vi wr => ∃ (i : Nat) (g : LG), i ≤ l.length ∧ vi = .int .i64 i ∧ Hid (Log w p (.pointer (some ⟨B, 0, none⟩)) g wr) ∧ g.last ≤ i ∧ g.st.fin ≤ i * 321) (fun vi _ => l.length - (intOf vi).toNat)
    case atStart => exact ⟨0, _, by omega, rfl, H2, Nat.zero_le _, Nat.le_refl _⟩
    case round =>
      clear H2
      obtain ⟨i, g, hi, rfl, HL, hgl, hgf⟩ := hrel
      by_cases hlt : i < l.length
      · obtain ⟨o, off, t, rfl, _, HSC⟩ := HS.out.at_ hlt
        have hcell := HSC.out wr HL.out.since
        have hiI : (i : Int) < (l.length : Int) := by omega
        by_cases hbig : 300 < t.size
        · have hbI : (300 : Int) < (t.size : Int) := by omega
          go_wp2_with fail
          refine (whead_any wr (HT.out.keeps HL.out.since)).mono ?_
          rintro e w3 ⟨rfl, hb⟩
          have HB := Lib.hid (HL.out.since.trans (hb.mono HL.out.since.size))
          clear hb
          go_wp2
          go_ret
          exact ⟨rfl, HB.out⟩
        · have hbI : ¬ (300 : Int) < (t.size : Int) := by omega
          have HRO := Lib.hid (fun wx (h : Log w p (.pointer (some ⟨B, 0, none⟩)) g wx) => room_log h)
          have HCO := Lib.hid (fun wx => wcost_any t.size wx (by omega))
          have htl : t.data.toList.length = t.size := rfl
          have HAP := Lib.hid (fun wx (h : Log w p (.pointer (some ⟨B, 0, none⟩)) g wx) => append_log HT.out h 9 t.data.toList (by omega) (by omega) 9 t rfl (tb_of t).symm)
          have hcan : g.can t.data.toList ↔ t.size + 21 ≤ g.st.room - g.st.l.length := by
            unfold LG.can LG.fits
            rw [htl]
            exact ⟨fun hh => by have := hh.2.2; omega, fun hh => ⟨by omega, by omega, by omega⟩⟩
          have hal := append_last g 9 t.data.toList
          rw [htl] at hal
          have HCAN := Lib.hid hcan
          have hrmI := HL.out.ok.st.rm
          obtain ⟨K, hK⟩ : ∃ K, t.size + 21 = K := ⟨_, rfl⟩
          obtain ⟨R, hR⟩ : ∃ R, g.st.room - g.st.l.length = R := ⟨_, rfl⟩
          rw [hK] at HCO HCAN
          rw [hR] at HRO HCAN
          have HKS := Lib.hid (show ∀ n, (wr.drewN n).cell? ⟨o, off + i, none⟩ = some (.string t) from fun n => HSC.out _ (HL.out.drewN n).since)
          obtain ⟨wd, hwd⟩ : ∃ wd, wr.drew = wd := ⟨_, rfl⟩
          have HLD := Lib.hid (show Log w p (.pointer (some ⟨B, 0, none⟩)) g wd from hwd ▸ HL.out.keeps (Below.refl _ _).drew)
          have hHeld := HSC.out wd HLD.out.since
          clear hcan htl
          go_wp2_with fail
          refine wp_region_noPanic ?_
          refine wp_region_sch (fun wx => wx.cell? ⟨o, off + i, none⟩ = some (.string t)) (fun i => [1, 7].contains i)
            (.takes [0, 2, 3, 4, 5, 6] (.run 1 (.run 7 (.takes [8, 9] .done)))) (by kernel_rfl) (fun _ _ _ _ _ h => h) (by kernel_rfl) ?_
          rw [hwd]
          clear hwd
          iterate 6 (
            refine sch_takes_cons ?_
            first
              | (refine sch_take (v := ?_) rfl (by assumption) (by rfl) ?_ ?_; rotate_left; (focus (intro wy hSy; (try dsimp only at hSy); go_simp; (try with_reducible rfl))))
              | (refine sch_pass rfl (by assumption) (by rfl) ?_)
            simp only [Act.put, List.setIfInBounds_toArray, List.set_cons_zero, List.set_cons_succ])
          refine sch_takes_nil ?_
          refine sch_run rfl (fun K hK => ?_)
          go_simp
          with_reducible refine (HRO.out _ HLD.out).mono ?_
          rintro e wx ⟨rfl, nn, rfl⟩
          have HLX := Lib.hid (HLD.out.drewN nn)
          have hHeld := HSC.out _ HLX.out.since
          try dsimp only
          refine hK.out _ _ (fun _ => hHeld) ?_
          clear hK K
          try simp only [Act.put, List.setIfInBounds_toArray, List.set_cons_zero, List.set_cons_succ]
          refine sch_run rfl (fun K hK => ?_)
          go_simp
          with_reducible refine (HCO.out _).mono ?_
          rintro e wz ⟨rfl, rfl⟩
          try dsimp only
          refine hK.out _ _ (fun _ => hHeld) ?_
          clear hK K
          try simp only [Act.put, List.setIfInBounds_toArray, List.set_cons_zero, List.set_cons_succ]
          iterate 2 (
            refine sch_takes_cons ?_
            first
              | (refine sch_take (v := ?_) rfl (by assumption) (by rfl) ?_ ?_; rotate_left; (focus (intro wy hSy; (try dsimp only at hSy); go_simp; (try with_reducible rfl))))
              | (refine sch_pass rfl (by assumption) (by rfl) ?_)
            simp only [Act.put, List.setIfInBounds_toArray, List.set_cons_zero, List.set_cons_succ])
          refine sch_takes_nil ?_
          refine sch_done ?_
          refine NoPanic.normal ?_
          go_wp2_with fail
          have hki : i + 1 ≤ l.length := hlt
          refine (last_log HLX.out).mono ?_
          rintro e wz ⟨rfl, rfl⟩
          have cx := HSC.out _ HLX.out.since
          go_wp2_with fail
          by_cases hc : g.can t.data.toList
          · have hAP := HAP.out _ HLX.out
            rw [if_pos hc, if_pos hc] at hAP
            have hge := HCAN.out.1 hc
            have hgeI : (K : Int) ≤ (R : Int) := by omega
            have hgeD : decide (K ≤ R) = true := decide_eq_true hge
            have hwl : IntKind.u64.wrap ((g.last : Int) + 1) = ((g.last + 1 : Nat) : Int) := by rw [IntWalk.u64_in _ (by omega)]; omega
            obtain ⟨L, hL⟩ : ∃ L, g.last + 1 = L := ⟨_, rfl⟩
            rw [hL] at hAP hwl
            have HAP1 := Lib.hid hAP
            clear hAP HAP HCAN hc hge hL
            refine HAP1.out.mono ?_
            rintro e w4 ⟨rfl, hl⟩
            have H4 := Lib.hid hl
            clear hl HAP1
            go_wp2
            go_roundw
            case rel => exact ⟨i + 1, _, hki, by go_num, H4, by omega, by omega⟩
            case measure => simp [intOf]; omega
          · have hAP := HAP.out _ HLX.out
            rw [if_neg hc, if_neg hc, show g.append 9 t.data.toList = g from if_neg hc] at hAP
            have hge : ¬ K ≤ R := fun hh => hc (HCAN.out.2 hh)
            have hgeI : ¬ (K : Int) ≤ (R : Int) := by omega
            have hgeD : decide (K ≤ R) = false := decide_eq_false hge
            have HAP1 := Lib.hid hAP
            clear hAP HAP HCAN hc hge
            refine HAP1.out.mono ?_
            rintro e w4 ⟨rfl, hl⟩
            have H4 := Lib.hid hl
            clear hl HAP1
            go_wp2_with fail
            refine (last_log H4.out).mono ?_
            rintro e wz ⟨rfl, rfl⟩
            go_wp2
            go_roundw
            case rel => exact ⟨i + 1, g, hki, by go_num, H4, by omega, by omega⟩
            case measure => simp [intOf]; omega
      · obtain rfl : i = l.length := by omega
        have hno : ¬ (l.length : Int) < (l.length : Int) := by omega
        go_wp2_with fail
        refine (whead_any wr (HT.out.keeps HL.out.since)).mono ?_
        rintro e w3 ⟨rfl, hb⟩
        have HB := Lib.hid (HL.out.since.trans (hb.mono HL.out.since.size))
        clear hb
        go_wp2
        go_ret
        exact ⟨rfl, HB.out⟩
end Go.Proofs.YtjahkaockjhibaaDoor

/-
  WalTrims: the walk.
-/
namespace Go.Proofs.YtjahkaockjhibaaDoor
open Go.RowKit

theorem append_room (g : LG) (k : UInt8) (x : List UInt8) : (g.append k x).st.room = g.st.room ∧ (g.append k x).st.l.length ≤ g.st.l.length + (21 + x.length) := by
  unfold LG.append
  split
  · exact ⟨rfl, by rw [put_len]; exact Nat.le_refl _⟩
  · exact ⟨rfl, by omega⟩
theorem force_plain (g : LG) : g.force.st.room = g.st.room ∧ g.force.st.l = g.st.l ∧ g.force.st.fin = g.st.fin ∧ g.force.last = g.last := ⟨rfl, rfl, rfl, rfl⟩
theorem same_rows {A B : Option Addr} {a b : List Ent} {c d : Nat} {w : World} (ha : Ents w A a) (hb : Ents w B b) (h : a = b) (hn : a.length ≤ 5000000) : Calls Tryd.prog 15 #[.slice A a.length c, .slice B b.length d] w fun r w' => r = .returned (.bool true) ∧ Below w.heap.size w w' :=
  (rwsame_any A B a b c d w ha hb hn).mono fun e w' hh => ⟨by rw [hh.1, decide_eq_true h], hh.2⟩
theorem from_len (g : LG) (h : g.Ok) (n : Nat) : (g.from_ n).length ≤ 5000000 := by
  rw [h.from_, List.length_drop]
  have := h.count
  omega

set_option maxRecDepth 100000 in
set_option maxHeartbeats 4000000 in
theorem trimslaw_any (A : Option Addr) (l : List ByteArray) (c fo nn k : Nat) (w : World) (hT : Tab w) (hs : Strs w A l) (hfo : fo < 256) (hnn : nn < 256) (hk : k < 18446744073709551616) : Calls Tryd.prog 8 #[.agg #[.slice A l.length c, .int .u8 (fo : Int), .int .u8 (nn : Int), .int .u64 (k : Int)]] w fun e w' => e = .returned (.bool true) ∧ Below w.heap.size w w' := by
  have HT := Lib.hid hT
  have HS := Lib.hid hs
  obtain ⟨wa, hwa⟩ : ∃ wa, (w.alloc (.cells #[.slice A l.length c, .int .u8 (fo : Int), .int .u8 (nn : Int), .int .u64 (k : Int)] 78)).drew = wa := ⟨_, rfl⟩
  have HA := Lib.hid (show Below w.heap.size w wa from hwa ▸ ((Below.refl _ _).alloc (Nat.le_refl _) _).drew)
  have hrow : Row wa w.heap.size 78 [.slice A l.length c, .int .u8 (fo : Int), .int .u8 (nn : Int), .int .u64 (k : Int)] (0, 0) := by
    have hr : Row (w.alloc (.cells #[.slice A l.length c, .int .u8 (fo : Int), .int .u8 (nn : Int), .int .u64 (k : Int)] 78)) w.heap.size 78 [.slice A l.length c, .int .u8 (fo : Int), .int .u8 (nn : Int), .int .u64 (k : Int)] (0, 0) := Row.new w _ [.slice A l.length c, .int .u8 (fo : Int), .int .u8 (nn : Int), .int .u64 (k : Int)] (0, 0)
    exact hwa ▸ hr.below (Below.refl _ _).drew hr.lt
  have hHeld : wa.cell? ⟨w.heap.size, 0, none⟩ = some (.slice A l.length c) ∧ wa.cell? ⟨w.heap.size, 1, none⟩ = some (.int .u8 (fo : Int)) ∧ wa.cell? ⟨w.heap.size, 2, none⟩ = some (.int .u8 (nn : Int)) ∧ wa.cell? ⟨w.heap.size, 3, none⟩ = some (.int .u64 (k : Int)) := ⟨hrow.cell 0, hrow.cell 1, hrow.cell 2, hrow.cell 3⟩
  have HNT := Lib.hid (new_tape (W := w) (w := wa) 30000 (by omega) HA.out)
  clear hT hs hrow
  go_enter Tryd.func8, Tryd.ntmps8
  go_wp2_with fail
  refine wp_region_noPanic ?_
  refine wp_region_sch (fun wx => wx.cell? ⟨w.heap.size, 0, none⟩ = some (.slice A l.length c) ∧ wx.cell? ⟨w.heap.size, 1, none⟩ = some (.int .u8 (fo : Int)) ∧ wx.cell? ⟨w.heap.size, 2, none⟩ = some (.int .u8 (nn : Int)) ∧ wx.cell? ⟨w.heap.size, 3, none⟩ = some (.int .u64 (k : Int))) (fun i => [].contains i)
    (.takes [0, 1, 2, 3, 4, 5, 6, 7, 8, 9, 10, 11] .done) (by kernel_rfl) (fun _ _ _ _ _ h => h) (by kernel_rfl) ?_
  rw [hwa]
  clear hwa
  iterate 12 (
    refine sch_takes_cons ?_
    first
      | (refine sch_take (v := ?_) rfl (by assumption) (by rfl) ?_ ?_; rotate_left; (focus (intro wy hSy; (try dsimp only at hSy); go_simp; (try with_reducible rfl))))
      | (refine sch_pass rfl (by assumption) (by rfl) ?_)
    simp only [Act.put, List.setIfInBounds_toArray, List.set_cons_zero, List.set_cons_succ])
  refine sch_takes_nil ?_
  refine sch_done ?_
  refine NoPanic.normal ?_
  clear hHeld
  by_cases h30 : 30 < l.length
  · have h30I : (30 : Int) < (l.length : Int) := by omega
    clear h30
    go_wp2_with fail
    refine (whead_any wa (HT.out.keeps HA.out)).mono ?_
    rintro e w3 ⟨rfl, hb⟩
    have HB := Lib.hid ((HA.out).trans (hb.mono (HA.out).size))
    clear hb
    go_wp2
    go_ret
    exact ⟨rfl, HB.out⟩
  · have h30I : ¬ (30 : Int) < (l.length : Int) := by omega
    go_wp2_with fail
    refine HNT.out.mono ?_
    rintro e w1 ⟨A1, rfl, h1⟩
    obtain ⟨p, hp⟩ : ∃ p, (Value.pointer (some ⟨A1, 0, none⟩)) = p := ⟨_, rfl⟩
    rw [hp] at h1 ⊢
    have H1 := Lib.hid h1
    clear h1 hp HNT
    go_wp2_with fail
    refine (open_log HT.out H1.out (by simp) 0 (by decide) 0 rfl).mono ?_
    intro e w2 ho
    obtain ⟨B, hB⟩ : ∃ B, e = .returned (.tuple #[.pointer (some ⟨B, 0, none⟩), .int .i64 0]) ∧ Log w p (.pointer (some ⟨B, 0, none⟩)) (logNew 30000 0) w2 := by
      rcases ho with ⟨h, _⟩ | ⟨B, g, h1, h2, h3⟩
      · rw [opens_new _ 0 (by decide)] at h; cases h
      · rw [opens_new _ 0 (by decide)] at h1
        injection h1 with h1
        subst h1
        exact ⟨B, h2, h3⟩
    obtain ⟨rfl, hl⟩ := hB
    have H2 := Lib.hid hl
    clear ho hl H1
    go_wp2_with fail
    go_loopw [9] (fun vi wr => ∃ (i : Nat) (g : LG), i ≤ l.length ∧ vi = .int .i64 i ∧ Hid (Log w p (.pointer (some ⟨B, 0, none⟩)) g wr) ∧ g.last ≤ i ∧ g.st.fin ≤ i * 321 ∧ g.st.l.length ≤ i * 321 ∧ g.st.room = 30000) (fun vi _ => l.length - (intOf vi).toNat)
    case atStart => exact ⟨0, _, by omega, rfl, H2, Nat.zero_le _, Nat.le_refl _, Nat.le_refl _, rfl⟩
    case round =>
      clear H2
      obtain ⟨i, g, hi, rfl, HL, hgl, hgf, hgs, hgr⟩ := hrel
      by_cases hlt : i < l.length
      · obtain ⟨o, off, t, rfl, _, HSC⟩ := HS.out.at_ hlt
        have hcell := HSC.out wr HL.out.since
        have hiI : (i : Int) < (l.length : Int) := by omega
        by_cases hbig : 300 < t.size
        · have hbI : (300 : Int) < (t.size : Int) := by omega
          go_wp2_with fail
          refine (whead_any wr (HT.out.keeps HL.out.since)).mono ?_
          rintro e w3 ⟨rfl, hb⟩
          have HB := Lib.hid ((HL.out.since).trans (hb.mono (HL.out.since).size))
          clear hb
          go_wp2
          go_ret
          exact ⟨rfl, HB.out⟩
        · have hbI : ¬ (300 : Int) < (t.size : Int) := by omega
          have htl : t.data.toList.length = t.size := rfl
          have hi8 : i < 256 := by omega
          have hwi : IntKind.u8.wrap (i : Int) = (i : Int) := IntWalk.u8_in _ (by omega)
          have hcan : g.can t.data.toList := ⟨by rw [htl]; omega, by omega, by unfold LG.fits; rw [htl, hgr]; omega⟩
          have HAP := Lib.hid (append_log HT.out HL.out (UInt8.ofNat i) t.data.toList (by omega) (by omega) (i : Int) t (by rw [UInt8.toNat_ofNat', Nat.mod_eq_of_lt hi8]) (tb_of t).symm)
          rw [if_pos hcan, if_pos hcan] at HAP
          have hal := append_last g (UInt8.ofNat i) t.data.toList
          have har := append_room g (UInt8.ofNat i) t.data.toList
          rw [htl] at hal har
          have hki : i + 1 ≤ l.length := hlt
          obtain ⟨L, hL⟩ : ∃ L, g.last + 1 = L := ⟨_, rfl⟩
          rw [hL] at HAP
          obtain ⟨g2, hg2⟩ : ∃ g2, g.append (UInt8.ofNat i) t.data.toList = g2 := ⟨_, rfl⟩
          rw [hg2] at HAP hal har
          have hwi1 : IntKind.i64.wrap ((i : Int) + 1) = (i : Int) + 1 := IntWalk.i64_in _ (by omega)
          have hwf : IntKind.i64.wrap (fo : Int) = (fo : Int) := IntWalk.i64_in _ (by omega)
          clear hcan htl hg2
          go_wp2_with fail
          refine HAP.out.mono ?_
          rintro e w4 ⟨rfl, hl⟩
          have H4 := Lib.hid hl
          clear hl HAP
          by_cases hf : i + 1 = fo
          · have hfI : (i : Int) + 1 = (fo : Int) := by omega
            have hfB : ((i : Int) + 1 == (fo : Int)) = true := by rw [hfI]; simp
            go_wp2_with fail
            refine (force_log H4.out).mono ?_
            rintro e w5 ⟨rfl, hl⟩
            have H5 := Lib.hid hl
            clear hl H4 hfI hf
            go_wp2
            go_roundw
            case rel => exact ⟨i + 1, g2.force, hki, by go_num, H5, by show g2.last ≤ _; omega, by show g2.st.fin ≤ _; omega, by show g2.st.l.length ≤ _; omega, by show g2.st.room = _; omega⟩
            case measure => simp [intOf]; omega
          · have hfB : ((i : Int) + 1 == (fo : Int)) = false := beq_eq_false_iff_ne.2 (by omega)
            clear hf
            go_wp2
            go_roundw
            case rel => exact ⟨i + 1, g2, hki, by go_num, H4, by omega, by omega, by omega, by omega⟩
            case measure => simp [intOf]; omega
      · obtain rfl : i = l.length := by omega
        have hno : ¬ (l.length : Int) < (l.length : Int) := by omega
        have hok := HL.out.ok
        have hstm : g.stable ≤ 281474976710656 := Nat.le_trans hok.stb hok.max
        have hwn : IntKind.u64.wrap (nn : Int) = (nn : Int) := IntWalk.u64_in _ (by omega)
        have hws : IntKind.u64.wrap ((g.stable : Int) + 1) = (g.stable : Int) + 1 := IntWalk.u64_in _ (by omega)
        obtain ⟨mx, hmx⟩ : ∃ mx, max k nn = mx := ⟨_, rfl⟩
        have hmxI : max (k : Int) (nn : Int) = (mx : Int) := by omega
        have hmx64 : mx < 18446744073709551616 := by omega
        have HTF := Lib.hid (fun hh => trim_from hok nn k hh)
        rw [hmx] at HTF
        have HFL := Lib.hid (from_len g hok mx)
        go_wp2_with fail
        refine (last_log HL.out).mono ?_
        rintro e wz ⟨rfl, rfl⟩
        go_wp2_with fail
        refine (stable_log HL.out).mono ?_
        rintro e wz ⟨rfl, rfl⟩
        go_wp2_with fail
        refine (from_log HL.out mx hmx64 _ rfl).mono ?_
        rintro e w5 ⟨A5, c5, rfl, he5, _, hA5, hb5⟩
        have HLZ := Lib.hid (HL.out.between hb5)
        have HUP := Lib.hid (between_up HL.out.since hb5)
        have HSI := Lib.hid (HL.out.since.trans (hb5.mono HL.out.since.size))
        have HE5 := Lib.hid he5
        have HA5 := Lib.hid hA5
        have HTRM := Lib.hid (trimZ HUP.out HLZ.out nn (by omega) (nn : Int) rfl)
        clear he5 hA5 hb5
        by_cases hn : nn ≤ g.stable + 1
        · have hnI : ¬ (g.stable : Int) + 1 < (nn : Int) := by omega
          rw [if_pos hn] at HTRM
          have htrl : (g.trim nn).last = g.last ∧ (g.trim nn).stable = g.stable := by unfold LG.trim; rw [if_pos hn]; exact ⟨rfl, rfl⟩
          have HFT := Lib.hid (HTF.out hn)
          go_wp2_with fail
          refine HTRM.out.mono ?_
          rintro e w6 ⟨rfl, hl6, ho6⟩
          have H6 := Lib.hid hl6
          have HE6 := Lib.hid (ents_between HE5.out ho6 HA5.out)
          have HS6 := Lib.hid (since_between HSI.out ho6)
          have HL6 := Lib.hid (lastZ hl6)
          have HT6 := Lib.hid (stableZ hl6)
          rw [htrl.1] at HL6
          rw [htrl.2] at HT6
          clear hl6 ho6 htrl hn HTRM
          go_wp2_with fail
          refine HL6.out.mono ?_
          rintro e wz ⟨rfl, rfl⟩
          go_wp2_with fail
          refine HT6.out.mono ?_
          rintro e wz ⟨rfl, rfl⟩
          go_wp2_with fail
          refine (fromZ H6.out k hk _ rfl).mono ?_
          rintro e w7 ⟨A7, c7, rfl, he7, _, _, hb7⟩
          have HS7 := Lib.hid (HS6.out.trans (hb7.mono HS6.out.size))
          have HE7 := Lib.hid (HE6.out.keeps hb7)
          have HSM := Lib.hid (same_rows (c := c7) (d := c5) he7 HE7.out HFT.out (by rw [HFT.out]; exact HFL.out))
          clear he7 hb7
          go_wp2_with fail
          refine HSM.out.mono ?_
          rintro e w8 ⟨rfl, hb8⟩
          have HS8 := Lib.hid (HS7.out.trans (hb8.mono HS7.out.size))
          clear hb8
          go_wp2_with fail
          refine (whead_any w8 (HT.out.keeps HS8.out)).mono ?_
          rintro e w3 ⟨rfl, hb⟩
          have HB := Lib.hid ((HS8.out).trans (hb.mono (HS8.out).size))
          clear hb
          go_wp2
          go_ret
          exact ⟨rfl, HB.out⟩
        · have hnI : (g.stable : Int) + 1 < (nn : Int) := by omega
          rw [if_neg hn, show g.trim nn = g from if_neg hn] at HTRM
          go_wp2_with fail
          refine HTRM.out.mono ?_
          rintro e w6 ⟨rfl, hl6, ho6⟩
          have HS8 := Lib.hid (since_between HSI.out ho6)
          have HL6 := Lib.hid (lastZ hl6)
          clear hl6 ho6 hn HTRM
          go_wp2_with fail
          refine HL6.out.mono ?_
          rintro e wz ⟨rfl, rfl⟩
          go_wp2_with fail
          refine (whead_any w6 (HT.out.keeps HS8.out)).mono ?_
          rintro e w3 ⟨rfl, hb⟩
          have HB := Lib.hid ((HS8.out).trans (hb.mono (HS8.out).size))
          clear hb
          go_wp2
          go_ret
          exact ⟨rfl, HB.out⟩
end Go.Proofs.YtjahkaockjhibaaDoor

/-
  Acts of an argument; whether one is too great.
-/
namespace Go.Proofs.YtjahkaockjhibaaDoor
open Go.RowKit

structure ActV where
  what : Nat
  kind : Nat
  s : ByteArray
  n : Nat
  m : Nat
instance : Inhabited ActV := ⟨⟨0, 0, ⟨#[]⟩, 0, 0⟩⟩
namespace ActV
def cells (x : ActV) : List Value := [.int .u8 (x.what : Int), .int .u8 (x.kind : Int), .string x.s, .int .u64 (x.n : Int), .int .u64 (x.m : Int)]
def val (x : ActV) : Value := .agg #[.int .u8 (x.what : Int), .int .u8 (x.kind : Int), .string x.s, .int .u64 (x.n : Int), .int .u64 (x.m : Int)]
structure Ok (x : ActV) : Prop where
  what : x.what < 256
  kind : x.kind < 256
  n : x.n < 18446744073709551616
  m : x.m < 18446744073709551616
  s : x.s.size ≤ 9223372036854775807
end ActV
structure Acts (W : World) (A : Option Addr) (l : List ActV) : Prop where
  ok : ∀ x ∈ l, x.Ok
  at_ : ∀ (i : Nat) (h : i < l.length), ∃ g off, A = some ⟨g, off, none⟩ ∧ g < W.heap.size ∧ ∀ j, j < 5 → W.cell? ⟨g, off + i * 5 + j, none⟩ = (l[i].cells)[j]?
theorem Acts.cells {W : World} {A : Option Addr} {l : List ActV} (h : Acts W A l) {i : Nat} (hi : i < l.length) : ∃ (g off : Nat) (x : ActV), A = some ⟨g, off, none⟩ ∧ x.Ok ∧ l[i]? = some x ∧ Hid (∀ w, Below W.heap.size W w →
    w.cell? ⟨g, off + i * 5, none⟩ = some (.int .u8 (x.what : Int)) ∧ w.cell? ⟨g, off + i * 5 + 1, none⟩ = some (.int .u8 (x.kind : Int)) ∧ w.cell? ⟨g, off + i * 5 + 2, none⟩ = some (.string x.s) ∧ w.cell? ⟨g, off + i * 5 + 3, none⟩ = some (.int .u64 (x.n : Int)) ∧ w.cell? ⟨g, off + i * 5 + 4, none⟩ = some (.int .u64 (x.m : Int))) := by
  obtain ⟨g, off, hA, hg, hc⟩ := h.at_ i hi
  refine ⟨g, off, l[i], hA, h.ok _ (List.getElem_mem hi), List.getElem?_eq_getElem hi, Lib.hid fun w hb => ?_⟩
  have hk : ∀ j, j < 5 → w.cell? ⟨g, off + i * 5 + j, none⟩ = (l[i].cells)[j]? := fun j hj => (hb.cell (p := ⟨g, off + i * 5 + j, none⟩) hg).trans (hc j hj)
  exact ⟨hk 0 (by omega), hk 1 (by omega), hk 2 (by omega), hk 3 (by omega), hk 4 (by omega)⟩

theorem boxed (x : ActV) (w : World) : ∀ w0, w.alloc (.cells #[.int .u8 (x.what : Int), .int .u8 (x.kind : Int), .string x.s, .int .u64 (x.n : Int), .int .u64 (x.m : Int)] 41) = w0 → Row w0 w.heap.size 41 x.cells (0, 0) ∧ Below w.heap.size w w0 := fun w0 h => by
  subst h
  exact ⟨Row.new w 41 x.cells (0, 0), (Below.refl _ _).alloc (Nat.le_refl _) _⟩

set_option maxRecDepth 100000 in
theorem great_any (x : ActV) (w : World) (hs : x.s.size ≤ 9223372036854775807) : Calls Tryd.prog 18 #[x.val] w fun e w' => e = .returned (.bool (decide (300 < x.s.size))) ∧ Below w.heap.size w w' := by
  have HB := Lib.hid (boxed x w)
  rcases x with ⟨what, kind, s, n, m⟩
  unfold ActV.val
  dsimp only at hs HB ⊢
  obtain ⟨w0, hw0⟩ : ∃ w0, w.alloc (.cells #[.int .u8 (what : Int), .int .u8 (kind : Int), .string s, .int .u64 (n : Int), .int .u64 (m : Int)] 41) = w0 := ⟨_, rfl⟩
  obtain ⟨hr, hb⟩ := HB.out w0 hw0
  have c2 : w0.cell? ⟨w.heap.size, 2, none⟩ = some (.string s) := hr.cell 2
  have HX := Lib.hid hb
  have hd : decide ((s.size : Int) > 300) = decide (300 < s.size) := decide_eq_decide.2 (by omega)
  clear hr hb HB
  go_enter Tryd.func18, Tryd.ntmps18
  go_wp2_with fail
  try rw [hw0]
  clear hw0
  go_wp2
  go_ret
  exact ⟨by simp, HX.out⟩
end Go.Proofs.YtjahkaockjhibaaDoor
