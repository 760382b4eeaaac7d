/-
  WalKeeps: the walk.
-/
import Derived.Test.YtjahkaockjhibaaDoorMWLaw
namespace Go.Proofs.YtjahkaockjhibaaDoor
open Go.RowKit

theorem trim_plain (g : LG) (h : g.Ok) (n : Nat) : (g.trim n).st.room = g.st.room ∧ (g.trim n).last = g.last ∧ (g.trim n).st.fin ≤ g.st.fin := by
  unfold LG.trim
  split
  · rename_i hn
    obtain ⟨h1, h2⟩ := h.trims n hn
    refine ⟨?_, rfl, ?_⟩
    · show (g.st.drop _).room = _
      unfold ST.drop
      split <;> rfl
    · show (g.st.drop _).fin ≤ _
      unfold ST.drop
      rw [if_pos h2]
      unfold ST.fin
      show g.st.base + _ + (g.st.l.drop _).length ≤ _
      rw [List.length_drop, Nat.add_sub_cancel_left]
      have := logB_take_le g.l (g.below n)
      rw [← h.bytes] at this
      omega
  · exact ⟨rfl, rfl, Nat.le_refl _⟩

set_option maxRecDepth 100000 in
set_option maxHeartbeats 4000000 in
theorem keepslaw_any (A : Option Addr) (l : List ActV) (c : Nat) (keep : Int) (w : World) (hT : Tab w) (ha : Acts w A l) (hll : l.length ≤ 9223372036854775807) (hkp : keep ≤ 9223372036854775807) : Calls Tryd.prog 5 #[.slice A l.length c, .int .i64 keep] w fun e w' => e = .returned (.bool true) ∧ Below w.heap.size w w' := by
  have HT := Lib.hid hT
  have HS := Lib.hid ha
  have HNT := Lib.hid (new_tape (W := w) (w := w) 20000 (by omega) (Below.refl _ _))
  clear hT ha
  go_enter Tryd.func5, Tryd.ntmps5
  go_wp2_with fail
  refine HNT.out.mono ?_
  rintro e w1 ⟨A1, rfl, h1⟩
  obtain ⟨p, hp⟩ : ∃ p, (Value.pointer (some ⟨A1, 0, none⟩)) = p := ⟨_, rfl⟩
  rw [hp] at h1 ⊢
  have H1 := Lib.hid h1
  clear h1 hp HNT
  go_wp2_with fail
  refine (open_log HT.out H1.out (by simp) 0 (by decide) 0 rfl).mono ?_
  intro e w2 ho
  obtain ⟨B, hB⟩ : ∃ B, e = .returned (.tuple #[.pointer (some ⟨B, 0, none⟩), .int .i64 0]) ∧ Log w p (.pointer (some ⟨B, 0, none⟩)) (logNew 20000 0) w2 := by
    rcases ho with ⟨h, _⟩ | ⟨B, g, h1, h2, h3⟩
    · rw [opens_new _ 0 (by decide)] at h; cases h
    · rw [opens_new _ 0 (by decide)] at h1
      injection h1 with h1
      subst h1
      exact ⟨B, h2, h3⟩
  obtain ⟨rfl, hl⟩ := hB
  have H2 := Lib.hid hl
  clear ho hl H1
  go_wp2_with fail
  go_loopw [8] (fun vi wr => ∃ (i : Nat) (g : LG), i ≤ l.length ∧ i ≤ 50 ∧ vi = .int .i64 i ∧ Hid (Log w p (.pointer (some ⟨B, 0, none⟩)) g wr) ∧ g.last ≤ i ∧ g.st.fin ≤ i * 321 ∧ g.st.room = 20000) (fun vi _ => l.length - (intOf vi).toNat)
  case atStart => exact ⟨0, _, by omega, by omega, rfl, H2, Nat.zero_le _, Nat.le_refl _, rfl⟩
  case round =>
    clear H2
    obtain ⟨i, g, hi, hi50, rfl, HL, hgl, hgf, hgr⟩ := hrel
    by_cases hlt : i < l.length ∧ i < 50
    · obtain ⟨hlt, h50⟩ := hlt
      obtain ⟨o, off, x, rfl, hxo, _, HSC⟩ := HS.out.cells hlt
      obtain ⟨x0, x1, x2, x3, x4⟩ := HSC.out wr HL.out.since
      have hiI : (i : Int) < (l.length : Int) := by omega
      have h5I : (i : Int) < 50 := by omega
      have hki : i + 1 ≤ l.length := hlt
      have h55 : i + 1 ≤ 50 := h50
      have HBX := Lib.hid (boxed x wr)
      have HGR := Lib.hid (fun wx => great_any x wx hxo.s)
      obtain ⟨hx1, hx2, hx3, hx4, hx5⟩ := hxo
      rcases x with ⟨what, kind, s, n, m⟩
      unfold ActV.val at HGR
      dsimp only at *
      obtain ⟨wa, hwa⟩ : ∃ wa, wr.alloc (.cells #[.int .u8 (what : Int), .int .u8 (kind : Int), .string s, .int .u64 (n : Int), .int .u64 (m : Int)] 41) = wa := ⟨_, rfl⟩
      obtain ⟨hra, hba⟩ := HBX.out wa hwa
      have HRA := Lib.hid hra
      have HLA := Lib.hid (HL.out.keeps hba)
      have y0 : wa.cell? ⟨wr.heap.size, 0, none⟩ = some (.int .u8 (what : Int)) := hra.cell 0
      have y1 : wa.cell? ⟨wr.heap.size, 1, none⟩ = some (.int .u8 (kind : Int)) := hra.cell 1
      have y2 : wa.cell? ⟨wr.heap.size, 2, none⟩ = some (.string s) := hra.cell 2
      have y3 : wa.cell? ⟨wr.heap.size, 3, none⟩ = some (.int .u64 (n : Int)) := hra.cell 3
      have y4 : wa.cell? ⟨wr.heap.size, 4, none⟩ = some (.int .u64 (m : Int)) := hra.cell 4
      clear HBX hra hba HL hlt h50
      go_wp2_with fail
      try rw [hwa]
      clear hwa x0 x1 x2 x3 x4
      by_cases hbig : 300 < s.size
      · rw [decide_eq_true hbig] at HGR
        refine (HGR.out wa).mono ?_
        rintro e w3 ⟨rfl, hb⟩
        have HB3 := Lib.hid (HLA.out.since.trans (hb.mono HLA.out.since.size))
        clear hb
        go_wp2_with fail
        refine (whead_any w3 (HT.out.keeps HB3.out)).mono ?_
        rintro e w4 ⟨rfl, hb⟩
        have HB := Lib.hid ((HB3.out).trans (hb.mono (HB3.out).size))
        clear hb
        go_wp2
        go_ret
        exact ⟨rfl, HB.out⟩
      · rw [decide_eq_false hbig] at HGR
        refine (HGR.out wa).mono ?_
        rintro e w3 ⟨rfl, hb⟩
        have HL3 := Lib.hid (HLA.out.keeps hb)
        have hr3 := HRA.out.below hb HRA.out.lt
        have z0 : w3.cell? ⟨wr.heap.size, 0, none⟩ = some (.int .u8 (what : Int)) := hr3.cell 0
        have z1 : w3.cell? ⟨wr.heap.size, 1, none⟩ = some (.int .u8 (kind : Int)) := hr3.cell 1
        have z2 : w3.cell? ⟨wr.heap.size, 2, none⟩ = some (.string s) := hr3.cell 2
        have z3 : w3.cell? ⟨wr.heap.size, 3, none⟩ = some (.int .u64 (n : Int)) := hr3.cell 3
        obtain ⟨q, hq⟩ : ∃ q, what % 8 = q := ⟨_, rfl⟩
        have hq8 : q < 8 := by omega
        have hqm : Int.tmod (what : Int) 8 = (q : Int) := by rw [Int.tmod_eq_emod_of_nonneg (by omega)]; omega
        have hqi : (what : Int) % 8 = (q : Int) := by omega
        have htl : s.data.toList.length = s.size := rfl
        have hk8 : ((UInt8.ofNat kind).toNat : Int) = (kind : Int) := by rw [UInt8.toNat_ofNat', Nat.mod_eq_of_lt hx2]
        have hal := append_last g (UInt8.ofNat kind) s.data.toList
        have har := append_room g (UInt8.ofNat kind) s.data.toList
        have htp := trim_plain g HL3.out.ok n
        rw [htl] at hal har
        have HAP := Lib.hid (append_log HT.out HL3.out (UInt8.ofNat kind) s.data.toList (by omega) (by omega) (kind : Int) s hk8.symm (tb_of s).symm)
        have HTR := Lib.hid (trim_log HL3.out n hx3 (n : Int) rfl)
        have HFO := Lib.hid (force_log HL3.out)
        clear hb hr3 HRA HLA HGR y0 y1 y2 y3 y4 hq htl hk8
        rcases (show q = 3 ∨ q = 4 ∨ q = 5 ∨ q = 6 ∨ q = 7 ∨ q = 0 ∨ q = 1 ∨ q = 2 by omega) with rfl | rfl | rfl | rfl | rfl | rfl | rfl | rfl
        · go_wp2_with fail
          refine HFO.out.mono ?_
          rintro e w4 ⟨rfl, hl⟩
          have H4 := Lib.hid hl
          clear hl HFO HTR HAP
          go_wp2
          go_roundw
          case rel => exact ⟨i + 1, g.force, hki, h55, by go_num, H4, by show g.last ≤ _; omega, by show g.st.fin ≤ _; omega, hgr⟩
          case measure => simp [intOf]; omega
        · go_wp2_with fail
          refine HTR.out.mono ?_
          rintro e w4 ⟨rfl, hl⟩
          have H4 := Lib.hid hl
          clear hl HFO HTR HAP
          go_wp2
          go_roundw
          case rel => exact ⟨i + 1, g.trim n, hki, h55, by go_num, H4, by omega, by omega, by omega⟩
          case measure => simp [intOf]; omega
        · go_wp2
          go_roundw
          case rel => exact ⟨i + 1, g, hki, h55, by go_num, HL3, by omega, by omega, hgr⟩
          case measure => simp [intOf]; omega
        · go_wp2
          go_roundw
          case rel => exact ⟨i + 1, g, hki, h55, by go_num, HL3, by omega, by omega, hgr⟩
          case measure => simp [intOf]; omega
        · go_wp2
          go_roundw
          case rel => exact ⟨i + 1, g, hki, h55, by go_num, HL3, by omega, by omega, hgr⟩
          case measure => simp [intOf]; omega
        · go_wp2_with fail
          refine HAP.out.mono ?_
          rintro e w4 ⟨rfl, hl⟩
          have H4 := Lib.hid hl
          clear hl HFO HTR HAP
          go_wp2
          go_roundw
          case rel => exact ⟨i + 1, g.append (UInt8.ofNat kind) s.data.toList, hki, h55, by go_num, H4, by omega, by omega, by omega⟩
          case measure => simp [intOf]; omega
        · go_wp2_with fail
          refine HAP.out.mono ?_
          rintro e w4 ⟨rfl, hl⟩
          have H4 := Lib.hid hl
          clear hl HFO HTR HAP
          go_wp2
          go_roundw
          case rel => exact ⟨i + 1, g.append (UInt8.ofNat kind) s.data.toList, hki, h55, by go_num, H4, by omega, by omega, by omega⟩
          case measure => simp [intOf]; omega
        · go_wp2_with fail
          refine HAP.out.mono ?_
          rintro e w4 ⟨rfl, hl⟩
          have H4 := Lib.hid hl
          clear hl HFO HTR HAP
          go_wp2
          go_roundw
          case rel => exact ⟨i + 1, g.append (UInt8.ofNat kind) s.data.toList, hki, h55, by go_num, H4, by omega, by omega, by omega⟩
          case measure => simp [intOf]; omega
    · obtain ⟨b, hb, hbT⟩ : ∃ b : Bool, (decide ((i : Int) < (l.length : Int)) = b) ∧ (b = true → ¬ (i : Int) < 50) := ⟨_, rfl, fun hh => by
        have := of_decide_eq_true hh
        omega⟩
      have hok := HL.out.ok
      obtain ⟨j, g', hsj, hjl, hop, hgl', hst', hs1, hs2⟩ := crash_opens hok keep
      have HLOST := Lib.hid (fun i hij hi => crash_lost hok (j := j) (i := i) hsj hij hi)
      have hstm : g.stable ≤ 281474976710656 := Nat.le_trans hok.stb hok.max
      have hlr := hok.st.lr
      have hct := hok.count
      have HOK' := Lib.hid (opens_ok (hok.st.crash keep) hop)
      have hgb := opens_bytes hop
      have hroom' : (g.st.crash keep).room = 20000 := hgr
      have hlen' : (g.st.crash keep).l.length ≤ g.st.l.length := by show (g.st.l.take _).length ≤ _; rw [List.length_take]; omega
      have hgfl : g.st.l.length ≤ 16050 := by unfold ST.fin at hgf; omega
      have hfin' : g'.st.fin ≤ 100000 := by
        have h1 : g'.st.base = g.st.base := hgb.2.2.1
        have h2 : g'.st.l.length ≤ g.st.l.length := by rw [hgb.2.2.2.1]; omega
        have h3 : g.st.base ≤ 16050 := by unfold ST.fin at hgf; omega
        unfold ST.fin
        omega
      have hcan' : g'.can [120] := by
        refine ⟨by decide, by omega, ?_⟩
        unfold LG.fits
        have h2 : g'.st.l.length ≤ g.st.l.length := by rw [hgb.2.2.2.1]; omega
        rw [hgb.2.1, hroom']
        show 22 ≤ _
        omega
      have happ : (g'.append 1 [120]).last = g'.last + 1 := by unfold LG.append; rw [if_pos hcan']; rfl
      have h50o : (i : Int) < (l.length : Int) → ¬ (i : Int) < 50 := fun hh => by omega
      obtain ⟨LL, hLL⟩ : ∃ LL, l.length = LL := ⟨_, rfl⟩
      rw [hLL] at hb h50o ⊢
      have hfl : g'.from_ 0 = g.l.take j := by rw [from_all, hgl']
      have hfw : g.from_ 0 = g.l := from_all
      have HFR := Lib.hid (from_log HL.out 0 (by decide) 0 rfl)
      rw [hfw] at HFR
      have HLS := Lib.hid (last_log HL.out)
      have HSTB := Lib.hid (stable_log HL.out)
      clear hlt hok hgb hlr hLL
      cases b with
      | false =>
        have hnI : ¬ (i : Int) < (LL : Int) := of_decide_eq_false hb
        clear hb hbT h50o
        go_wp2_with fail
        refine HFR.out.mono ?_
        rintro e w5 ⟨A5, c5, rfl, he5, hc5, hA5, hb5⟩
        have HLZ := Lib.hid (HL.out.between hb5)
        have HUP := Lib.hid (between_up HL.out.since hb5)
        have HSI := Lib.hid (HL.out.since.trans (hb5.mono HL.out.since.size))
        have HE5 := Lib.hid he5
        have HA5 := Lib.hid hA5
        have HLS5 := Lib.hid (lastZ HLZ.out)
        have HST5 := Lib.hid (stableZ HLZ.out)
        clear he5 hA5 hb5 HFR HLS HSTB
        go_wp2_with fail
        refine HST5.out.mono ?_
        rintro e wz ⟨rfl, rfl⟩
        go_wp2_with fail
        refine HLS5.out.mono ?_
        rintro e wz ⟨rfl, rfl⟩
        go_wp2_with fail
        refine (crashZ HUP.out HLZ.out keep hkp).mono ?_
        rintro e w6 ⟨rfl, ht6, ho6⟩
        have HT6 := Lib.hid ht6
        have HUP6 := Lib.hid (fun k (hk : w6.heap.size ≤ k) => HUP.out k (Nat.le_trans ho6.size hk))
        have HE6 := Lib.hid (ents_between HE5.out ho6 HA5.out)
        have HO6 := Lib.hid ho6
        have HS6 := Lib.hid (since_between HSI.out ho6)
        clear ht6 ho6 HLS5 HST5 HLZ
        go_wp2_with fail
        refine (openZ HUP6.out (HT.out.keeps HS6.out) HT6.out (by omega) g.stable (by omega) _ rfl).mono ?_
        intro e w7 ho
        obtain ⟨ho7, hor⟩ := ho
        obtain ⟨B7, hB⟩ : ∃ B7, e = .returned (.tuple #[.pointer (some ⟨B7, 0, none⟩), .int .i64 0]) ∧ LogZ (fun k => w.heap.size ≤ k ∧ (k < wr.heap.size ∨ w5.heap.size ≤ k)) p (.pointer (some ⟨B7, 0, none⟩)) g' w7 := by
          rcases hor with ⟨h, _⟩ | ⟨B7, g7, h1, h2, h3⟩
          · rw [hop] at h; cases h
          · rw [hop] at h1
            injection h1 with h1
            subst h1
            exact ⟨B7, h2, h3⟩
        obtain ⟨rfl, hl7⟩ := hB
        have H7 := Lib.hid hl7
        have HO7 := Lib.hid (HO6.out.trans ho7)
        have HE7 := Lib.hid (ents_between HE5.out HO7.out HA5.out)
        have HS7 := Lib.hid (since_between HSI.out HO7.out)
        have HLA7 := Lib.hid (lastZ hl7)
        have HST7 := Lib.hid (stableZ hl7)
        rw [hst'] at HST7
        have HFR7 := Lib.hid (fromZ hl7 0 (by decide) 0 rfl)
        rw [hfl] at HFR7
        have q1 : ¬ (g'.last : Int) < (g.stable : Int) := by omega
        have q2 : ¬ (g.last : Int) < (g'.last : Int) := by omega
        clear hor hl7 ho7 HT6 HE6 HS6 HO6
        go_wp2_with fail
        refine HLA7.out.mono ?_
        rintro e wz ⟨rfl, rfl⟩
        go_wp2_with fail
        refine HLA7.out.mono ?_
        rintro e wz ⟨rfl, rfl⟩
        go_wp2_with fail
        refine HST7.out.mono ?_
        rintro e wz ⟨rfl, rfl⟩
        go_wp2_with fail
        refine HLA7.out.mono ?_
        rintro e wz ⟨rfl, rfl⟩
        go_wp2_with fail
        refine HFR7.out.mono ?_
        rintro e w8 ⟨A8, c8, rfl, he8, hc8, _, hb8⟩
        have htk : (g.l.take j).length = j := by rw [List.length_take]; omega
        have HE8 := Lib.hid (HE7.out.keeps hb8)
        have HZ8 := Lib.hid (H7.out.keeps hb8)
        have HS8 := Lib.hid (HS7.out.trans (hb8.mono HS7.out.size))
        have HSM := Lib.hid (same_rows (c := c8) (d := c5) he8 (HE8.out.take j) rfl (by rw [htk]; omega))
        rw [htk] at HSM hc8 ⊢
        have HO8 := Lib.hid (show Only (fun k => w.heap.size ≤ k ∧ (k < wr.heap.size ∨ w5.heap.size ≤ k)) w5 w8 from HO7.out.trans (Only.below hb8 _))
        obtain ⟨N, hN⟩ : ∃ N, g.l.length = N := ⟨_, rfl⟩
        have HNN := Lib.hid hN
        rw [hN] at hjl hc5 hct ⊢
        have hjI : ¬ (N : Int) < (j : Int) := by omega
        have hj5 : (j : Int) ≤ (c5 : Int) := by omega
        clear he8 hb8 hN HE7 H7 HFR7
        go_wp2_with fail
        refine HSM.out.mono ?_
        rintro e w9 ⟨rfl, hb9⟩
        have HE9 := Lib.hid (HE8.out.keeps hb9)
        have HZ9 := Lib.hid (HZ8.out.keeps hb9)
        have HS9 := Lib.hid (HS8.out.trans (hb9.mono HS8.out.size))
        have HO9 := Lib.hid (HO8.out.trans (Only.below hb9 _))
        have HUP9 := Lib.hid (fun k (hk : w9.heap.size ≤ k) => HUP.out k (Nat.le_trans HO9.out.size hk))
        have HAP := Lib.hid (appendZ HUP9.out (HT.out.keeps HS9.out) HZ9.out 1 [120] (by decide) (by show g'.st.fin + 22 ≤ _; omega) 1 ⟨#[120]⟩ rfl rfl)
        rw [if_pos hcan', if_pos hcan'] at HAP
        clear hb9 HSM HE8 HZ8 HO8
        go_wp2_with fail
        go_loopw [15] (fun vi wx => ∃ k : Nat, j ≤ k ∧ k ≤ N ∧ vi = .int .i64 k ∧ wx = w9) (fun vi _ => N - (intOf vi).toNat)
        case atStart => exact ⟨j, Nat.le_refl _, hjl, rfl, rfl⟩
        case round =>
          obtain ⟨k, hjk, hkN, rfl, rfl⟩ := hrel
          by_cases hk : k < N
          · have hkl : k < g.l.length := by rw [HNN.out]; exact hk
            obtain ⟨o5, f5, rfl, _, e0, _, _⟩ := HE9.out.at_ k hkl
            have hlost := HLOST.out k hjk hkl
            have hloI : ¬ (g.l[k].n : Int) ≤ (g.stable : Int) := by omega
            have hkI : (k : Int) < (N : Int) := by omega
            go_wp2
            go_roundw
            case rel => exact ⟨k + 1, by omega, hk, by go_num, by first | rfl | trivial⟩
            case measure => simp [intOf]; omega
          · obtain rfl : k = N := by omega
            have hno : ¬ (k : Int) < (k : Int) := by omega
            go_wp2_with fail
            refine HAP.out.mono ?_
            rintro e w10 ⟨rfl, hl10, ho10⟩
            have HS10 := Lib.hid (since_between HSI.out (HO9.out.trans ho10))
            have HLA := Lib.hid (lastZ hl10)
            rw [happ] at HLA
            have q3 : (g.stable : Int) < ((g'.last + 1 : Nat) : Int) := by omega
            obtain ⟨L1, hL1⟩ : ∃ L1, g'.last + 1 = L1 := ⟨_, rfl⟩
            rw [hL1] at HLA q3 ⊢
            clear hl10 ho10 HAP hL1
            go_wp2_with fail
            refine HLA.out.mono ?_
            rintro e wz ⟨rfl, rfl⟩
            go_wp2_with fail
            refine (whead_any w10 (HT.out.keeps HS10.out)).mono ?_
            rintro e w3 ⟨rfl, hb⟩
            have HB := Lib.hid ((HS10.out).trans (hb.mono (HS10.out).size))
            clear hb
            go_wp2
            go_ret
            exact ⟨rfl, HB.out⟩
      | true =>
        have hnI : (i : Int) < (LL : Int) := of_decide_eq_true hb
        have hnJ : ¬ (i : Int) < 50 := h50o hnI
        clear hb hbT h50o
        go_wp2_with fail
        refine HFR.out.mono ?_
        rintro e w5 ⟨A5, c5, rfl, he5, hc5, hA5, hb5⟩
        have HLZ := Lib.hid (HL.out.between hb5)
        have HUP := Lib.hid (between_up HL.out.since hb5)
        have HSI := Lib.hid (HL.out.since.trans (hb5.mono HL.out.since.size))
        have HE5 := Lib.hid he5
        have HA5 := Lib.hid hA5
        have HLS5 := Lib.hid (lastZ HLZ.out)
        have HST5 := Lib.hid (stableZ HLZ.out)
        clear he5 hA5 hb5 HFR HLS HSTB
        go_wp2_with fail
        refine HST5.out.mono ?_
        rintro e wz ⟨rfl, rfl⟩
        go_wp2_with fail
        refine HLS5.out.mono ?_
        rintro e wz ⟨rfl, rfl⟩
        go_wp2_with fail
        refine (crashZ HUP.out HLZ.out keep hkp).mono ?_
        rintro e w6 ⟨rfl, ht6, ho6⟩
        have HT6 := Lib.hid ht6
        have HUP6 := Lib.hid (fun k (hk : w6.heap.size ≤ k) => HUP.out k (Nat.le_trans ho6.size hk))
        have HE6 := Lib.hid (ents_between HE5.out ho6 HA5.out)
        have HO6 := Lib.hid ho6
        have HS6 := Lib.hid (since_between HSI.out ho6)
        clear ht6 ho6 HLS5 HST5 HLZ
        go_wp2_with fail
        refine (openZ HUP6.out (HT.out.keeps HS6.out) HT6.out (by omega) g.stable (by omega) _ rfl).mono ?_
        intro e w7 ho
        obtain ⟨ho7, hor⟩ := ho
        obtain ⟨B7, hB⟩ : ∃ B7, e = .returned (.tuple #[.pointer (some ⟨B7, 0, none⟩), .int .i64 0]) ∧ LogZ (fun k => w.heap.size ≤ k ∧ (k < wr.heap.size ∨ w5.heap.size ≤ k)) p (.pointer (some ⟨B7, 0, none⟩)) g' w7 := by
          rcases hor with ⟨h, _⟩ | ⟨B7, g7, h1, h2, h3⟩
          · rw [hop] at h; cases h
          · rw [hop] at h1
            injection h1 with h1
            subst h1
            exact ⟨B7, h2, h3⟩
        obtain ⟨rfl, hl7⟩ := hB
        have H7 := Lib.hid hl7
        have HO7 := Lib.hid (HO6.out.trans ho7)
        have HE7 := Lib.hid (ents_between HE5.out HO7.out HA5.out)
        have HS7 := Lib.hid (since_between HSI.out HO7.out)
        have HLA7 := Lib.hid (lastZ hl7)
        have HST7 := Lib.hid (stableZ hl7)
        rw [hst'] at HST7
        have HFR7 := Lib.hid (fromZ hl7 0 (by decide) 0 rfl)
        rw [hfl] at HFR7
        have q1 : ¬ (g'.last : Int) < (g.stable : Int) := by omega
        have q2 : ¬ (g.last : Int) < (g'.last : Int) := by omega
        clear hor hl7 ho7 HT6 HE6 HS6 HO6
        go_wp2_with fail
        refine HLA7.out.mono ?_
        rintro e wz ⟨rfl, rfl⟩
        go_wp2_with fail
        refine HLA7.out.mono ?_
        rintro e wz ⟨rfl, rfl⟩
        go_wp2_with fail
        refine HST7.out.mono ?_
        rintro e wz ⟨rfl, rfl⟩
        go_wp2_with fail
        refine HLA7.out.mono ?_
        rintro e wz ⟨rfl, rfl⟩
        go_wp2_with fail
        refine HFR7.out.mono ?_
        rintro e w8 ⟨A8, c8, rfl, he8, hc8, _, hb8⟩
        have htk : (g.l.take j).length = j := by rw [List.length_take]; omega
        have HE8 := Lib.hid (HE7.out.keeps hb8)
        have HZ8 := Lib.hid (H7.out.keeps hb8)
        have HS8 := Lib.hid (HS7.out.trans (hb8.mono HS7.out.size))
        have HSM := Lib.hid (same_rows (c := c8) (d := c5) he8 (HE8.out.take j) rfl (by rw [htk]; omega))
        rw [htk] at HSM hc8 ⊢
        have HO8 := Lib.hid (show Only (fun k => w.heap.size ≤ k ∧ (k < wr.heap.size ∨ w5.heap.size ≤ k)) w5 w8 from HO7.out.trans (Only.below hb8 _))
        obtain ⟨N, hN⟩ : ∃ N, g.l.length = N := ⟨_, rfl⟩
        have HNN := Lib.hid hN
        rw [hN] at hjl hc5 hct ⊢
        have hjI : ¬ (N : Int) < (j : Int) := by omega
        have hj5 : (j : Int) ≤ (c5 : Int) := by omega
        clear he8 hb8 hN HE7 H7 HFR7
        go_wp2_with fail
        refine HSM.out.mono ?_
        rintro e w9 ⟨rfl, hb9⟩
        have HE9 := Lib.hid (HE8.out.keeps hb9)
        have HZ9 := Lib.hid (HZ8.out.keeps hb9)
        have HS9 := Lib.hid (HS8.out.trans (hb9.mono HS8.out.size))
        have HO9 := Lib.hid (HO8.out.trans (Only.below hb9 _))
        have HUP9 := Lib.hid (fun k (hk : w9.heap.size ≤ k) => HUP.out k (Nat.le_trans HO9.out.size hk))
        have HAP := Lib.hid (appendZ HUP9.out (HT.out.keeps HS9.out) HZ9.out 1 [120] (by decide) (by show g'.st.fin + 22 ≤ _; omega) 1 ⟨#[120]⟩ rfl rfl)
        rw [if_pos hcan', if_pos hcan'] at HAP
        clear hb9 HSM HE8 HZ8 HO8
        go_wp2_with fail
        go_loopw [15] (fun vi wx => ∃ k : Nat, j ≤ k ∧ k ≤ N ∧ vi = .int .i64 k ∧ wx = w9) (fun vi _ => N - (intOf vi).toNat)
        case atStart => exact ⟨j, Nat.le_refl _, hjl, rfl, rfl⟩
        case round =>
          obtain ⟨k, hjk, hkN, rfl, rfl⟩ := hrel
          by_cases hk : k < N
          · have hkl : k < g.l.length := by rw [HNN.out]; exact hk
            obtain ⟨o5, f5, rfl, _, e0, _, _⟩ := HE9.out.at_ k hkl
            have hlost := HLOST.out k hjk hkl
            have hloI : ¬ (g.l[k].n : Int) ≤ (g.stable : Int) := by omega
            have hkI : (k : Int) < (N : Int) := by omega
            go_wp2
            go_roundw
            case rel => exact ⟨k + 1, by omega, hk, by go_num, by first | rfl | trivial⟩
            case measure => simp [intOf]; omega
          · obtain rfl : k = N := by omega
            have hno : ¬ (k : Int) < (k : Int) := by omega
            go_wp2_with fail
            refine HAP.out.mono ?_
            rintro e w10 ⟨rfl, hl10, ho10⟩
            have HS10 := Lib.hid (since_between HSI.out (HO9.out.trans ho10))
            have HLA := Lib.hid (lastZ hl10)
            rw [happ] at HLA
            have q3 : (g.stable : Int) < ((g'.last + 1 : Nat) : Int) := by omega
            obtain ⟨L1, hL1⟩ : ∃ L1, g'.last + 1 = L1 := ⟨_, rfl⟩
            rw [hL1] at HLA q3 ⊢
            clear hl10 ho10 HAP hL1
            go_wp2_with fail
            refine HLA.out.mono ?_
            rintro e wz ⟨rfl, rfl⟩
            go_wp2_with fail
            refine (whead_any w10 (HT.out.keeps HS10.out)).mono ?_
            rintro e w3 ⟨rfl, hb⟩
            have HB := Lib.hid ((HS10.out).trans (hb.mono (HS10.out).size))
            clear hb
            go_wp2
            go_ret
            exact ⟨rfl, HB.out⟩
end Go.Proofs.YtjahkaockjhibaaDoor
