/-
  The statement MasterKeeps walked.
-/
import Derived.Test.YtnmfgmlmjbfdcaaMasHead
import Derived.Test.YtnmfgmlmjbfdcaaMasArgs
namespace Go.Proofs.Ytnmfgmlmjbfdcaa
open Go.RowKit

/-- Behind a power loss in the middle of a Put. -/
def LostI (m : MS) (s : List UInt8) (t : Nat) (d : DV) : Prop := ∃ m' t', DI 2 4 m' t' d ∧ (m'.s = m.s ∨ m'.s = s) ∧ t' ≤ t + 1
theorem keeps_crash {W w : World} {p a : Value} {m : MS} {t : Nat} {s : List UInt8} (h : MsP W p a (MW 2 4 m t s) w) {A : Option Addr} {n : Nat} {keep : List Nat} (hk : Old W A n keep) (c : Nat) :
    Calls Try.prog 26 #[p, .slice A n c] w fun e w' => e = .returned (.tuple #[]) ∧ ∃ m' t', DvP W p (DI 2 4 m' t') w' ∧ (m'.s = m.s ∨ m'.s = s) ∧ t' ≤ t + 1 :=
  ((h.dev (I := WI 2 4 m t s) fun x _ hx => hx.1).crash hk c (I' := LostI m s t) fun d w0 _ hd => hd.lost (by decide) keep).mono fun e w' ⟨he, hd⟩ => by
    obtain ⟨d, h1, h2, h3, h4, m', t', h5, h6, h7⟩ := hd
    exact ⟨he, m', t', ⟨d, h1, h2, h3, h4, h5⟩, h6, h7⟩
theorem keeps_crash2 {W w : World} {p a : Value} {m : MS} {t : Nat} (h : MsP W p a (MI 2 4 m t) w) {A : Option Addr} {n : Nat} {keep : List Nat} (hk : Old W A n keep) (c : Nat) :
    Calls Try.prog 26 #[p, .slice A n c] w fun e w' => e = .returned (.tuple #[]) ∧ DvP W p (DI 2 4 m t) w' :=
  (h.dev (I := DI 2 4 m t) fun _ _ hx => hx.1).crash hk c fun _ _ _ hd => hd.lost keep
theorem begin_b {W w : World} {p a : Value} {m : MS} {t : Nat} (h : MsP W p a (MI 2 4 m t) w) (b : ByteArray) (hb : b.size ≤ 200) (ht : t ≤ 100) : Calls Try.prog 30 #[a, .string b] w fun e w' => e = .returned (.int .i64 0) ∧ MsP W p a (MW 2 4 m t (txt b)) w' := by
  have := h.begin (s := txt b) (by decide) (by show b.size + 4 ≤ _; omega) (by decide) (by omega)
  rw [tb_of] at this
  exact this
theorem ne_text {a : List UInt8} {b : ByteArray} (h : a ≠ txt b) : ((tb a).toList == b.toList) = false := by
  rw [beq_eq_false_iff_ne, ByteArray.toList_eq, ByteArray.toList_eq, tb_list]
  exact h

set_option maxRecDepth 100000 in
set_option maxHeartbeats 16000000 in
theorem keeps_law (A : Option Addr) (n c : Nat) (l : List ByteArray) (K : Option Addr) (kn kc : Nat) (keep : List Nat) (S : Option Addr) (sn sc : Nat) (sure : List Nat) (w : World)
    (hl : Strs w A l) (hn : l.length = n) (hnb : n ≤ 9223372036854775807) (hls : ∀ b ∈ l, b.size ≤ 9223372036854775807) (hk : Old w K kn keep) (hkc : kn ≤ kc) (hs : Bys w S sure) (hsn : sure.length = sn) (hsb : sn ≤ 9223372036854775807) :
    Calls Try.prog 6 #[.slice A n c, .slice K kn kc, .slice S sn sc] w fun e w' => e = .returned (.bool true) ∧ Below w.heap.size w w' := by
  have HH := Lib.hid (fun wx => head_any wx)
  have nI : (n : Int) ≤ 9223372036854775807 := by omega
  have kI : (kn : Int) ≤ 9223372036854775807 := by have := hk.big; omega
  have sI : (sn : Int) ≤ 9223372036854775807 := by omega
  by_cases hbig : 12 < n ∨ 20 < kn ∨ 20 < sn
  · clear hl hn hk hs hsn hls
    rcases (show 12 < n ∨ (n ≤ 12 ∧ 20 < kn) ∨ (n ≤ 12 ∧ kn ≤ 20 ∧ 20 < sn) by omega) with h1 | ⟨h1, h2⟩ | ⟨h1, h2, h3⟩
    · have g1 : (12 : Int) < (n : Int) := by omega
      clear hbig h1
      go_enter Try.func6, Try.ntmps6
      go_wp2_with fail
      refine (HH.out w).mono ?_
      rintro e w1 ⟨rfl, hb1⟩
      have HB1 := Lib.hid hb1
      clear hb1
      go_wp2
      go_ret
      exact ⟨rfl, HB1.out⟩
    · have g1 : (n : Int) ≤ 12 := by omega
      have g2 : (20 : Int) < (kn : Int) := by omega
      clear hbig h1 h2
      go_enter Try.func6, Try.ntmps6
      go_wp2_with fail
      refine (HH.out w).mono ?_
      rintro e w1 ⟨rfl, hb1⟩
      have HB1 := Lib.hid hb1
      clear hb1
      go_wp2
      go_ret
      exact ⟨rfl, HB1.out⟩
    · have g1 : (n : Int) ≤ 12 := by omega
      have g2 : (kn : Int) ≤ 20 := by omega
      have g3 : (20 : Int) < (sn : Int) := by omega
      clear hbig h1 h2 h3
      go_enter Try.func6, Try.ntmps6
      go_wp2_with fail
      refine (HH.out w).mono ?_
      rintro e w1 ⟨rfl, hb1⟩
      have HB1 := Lib.hid hb1
      clear hb1
      go_wp2
      go_ret
      exact ⟨rfl, HB1.out⟩
  · have g1 : (n : Int) ≤ 12 := by omega
    have g2 : (kn : Int) ≤ 20 := by omega
    have g3 : (sn : Int) ≤ 20 := by omega
    have HNL := Lib.hid hn
    have HB12 := Lib.hid (show n ≤ 12 by omega)
    have HSTR := Lib.hid hl
    have HLS := Lib.hid hls
    have HOK := Lib.hid hk
    have HSU := Lib.hid hs
    have HSN := Lib.hid hsn
    have HKC := Lib.hid hkc
    have HN := Lib.hid (show Calls Try.prog 16 #[.int .i64 2, .int .i64 4] w _ from DvP.new 2 4 w (by decide) (by decide) (by decide) (by decide))
    clear hbig hl hn hnb hk hkc hs hsn hsb hls nI kI sI
    go_enter Try.func6, Try.ntmps6
    go_wp2_with fail
    refine HN.out.mono ?_
    rintro e w1 ⟨B, rfl, hd⟩
    have HD1 := Lib.hid (hd.imp fun d hi hx => DI.new hi hx.1 hx.2.1 hx.2.2.1 hx.2.2.2.1 hx.2.2.2.2 (by decide))
    clear hd HN
    go_wp2_with fail
    go_loopw [9, 10] (fun ws i wr => ∃ (k : Nat) (m : MS) (t : Nat), k ≤ n ∧ i = .int .i64 k ∧ ws = .string (tb m.s) ∧ t ≤ k ∧ Hid (DvP w (.pointer (some ⟨B, 0, none⟩)) (DI 2 4 m t) wr)) (fun _ i _ => n - (intOf i).toNat)
    case atStart => exact ⟨0, m0, 0, Nat.zero_le _, rfl, rfl, Nat.le_refl _, HD1⟩
    case round =>
      obtain ⟨k, m, t, hk, rfl, rfl, htk, HD⟩ := hrel
      by_cases hlt : k < n
      · obtain ⟨g, off, b, rfl, hbm, HBC⟩ := HSTR.out.at_ (show k < l.length by rw [HNL.out]; exact hlt)
        have hkI : (k : Int) < (n : Int) := by omega
        have HT100 := Lib.hid (show t ≤ 100 by have := HB12.out; omega)
        have HTK := Lib.hid htk
        have hc0 := HBC.out wr HD.out.below
        have hzb := HLS.out b hbm
        clear hbm htk
        by_cases hsz : 200 < b.size
        · have z1 : (200 : Int) < (b.size : Int) := by omega
          have HBE := Lib.hid HD.out.below
          clear hsz hzb
          go_wp2_with fail
          refine (HH.out wr).mono ?_
          rintro e w2 ⟨rfl, hb2⟩
          have HE := Lib.hid (HBE.out.trans (hb2.mono HBE.out.size))
          clear hb2
          go_wp2
          go_ret
          exact ⟨rfl, HE.out⟩
        · have z1 : (b.size : Int) ≤ 200 := by omega
          have HZ := Lib.hid (show b.size ≤ 200 by omega)
          clear hsz hzb
          have HO := Lib.hid (HD.out.opens (by decide))
          clear HD
          go_wp2_with fail
          refine HO.out.mono ?_
          rintro e w2 ⟨M, rfl, hm⟩
          have HM2 := Lib.hid hm
          have hc2 := HBC.out w2 hm.below
          clear hm HO hc0
          have HDA := Lib.hid (HM2.out.data_ m.s (fun x hx => by rw [hx.2]))
          have HPU := Lib.hid (begin_b HM2.out b HZ.out HT100.out)
          clear HM2
          go_wp2_with fail
          refine HDA.out.mono ?_
          rintro e w3 ⟨rfl, rfl⟩
          go_wp2_with fail
          refine HPU.out.mono ?_
          rintro e w3 ⟨rfl, hm3⟩
          have HM3 := Lib.hid hm3
          have hc3 := HBC.out w3 hm3.below
          have HDB := Lib.hid (hm3.data_ m.s (fun x hx => by rw [hx.2]; rfl))
          clear hm3 HDA HPU hc2
          go_wp2_with fail
          refine HDB.out.mono ?_
          rintro e w4 ⟨rfl, rfl⟩
          clear HDB
          by_cases hsu : k < sn
          · have kS : (k : Int) < (sn : Int) := by omega
            obtain ⟨sg, so, y, rfl, hy, HYC⟩ := HSU.out.at_ (show k < sure.length by rw [HSN.out]; exact hsu)
            have hcs := HYC.out w3 HM3.out.below
            by_cases hodd : y % 2 = 1
            · have hyI : (y : Int) % 2 = 1 := by omega
              have hyT : Int.tmod (y : Int) 2 = 1 := by rw [Int.tmod_eq_emod_of_nonneg (by omega)]; exact hyI
              clear hodd hyI hy
              obtain ⟨w4, hw4⟩ : ∃ w4, w3.drew = w4 := ⟨_, rfl⟩
              have HM4 := Lib.hid (show MsP w (.pointer (some ⟨B, 0, none⟩)) (.pointer (some ⟨M, 0, none⟩)) (MW 2 4 m t (txt b)) w4 from hw4 ▸ HM3.out.keeps (Below.refl _ _).drew)
              have HSY := Lib.hid (HM4.out.finish (by decide))
              have hHeld := HBC.out w4 HM4.out.below
              clear HM3 HM4 hc3
              go_wp2_with fail
              refine wp_region_noPanic ?_
              refine wp_region_sch (fun wx => wx.cell? ⟨g, off + k, none⟩ = some (.string b)) (fun i => [3, 7].contains i)
                (.takes [0, 1, 2] (.run 3 (.takes [4, 5, 6, 8, 9, 10, 11] (.run 7 (.takes [12, 13, 14] .done))))) (by kernel_rfl) (fun _ _ _ _ _ h => h) (by kernel_rfl) ?_
              rw [hw4]
              clear hw4
              iterate 3 (
                refine sch_takes_cons ?_
                first
                  | (refine sch_take (v := ?_) rfl (by assumption) (by rfl) ?_ ?_; rotate_left; (focus (intro wy hSy; (try dsimp only at hSy); go_simp; (try with_reducible rfl))))
                  | (refine sch_pass rfl (by assumption) (by rfl) ?_)
                simp only [Act.put, List.setIfInBounds_toArray, List.set_cons_zero, List.set_cons_succ])
              refine sch_takes_nil ?_
              refine sch_run rfl (fun K hK => ?_)
              go_simp
              with_reducible refine HSY.out.mono ?_
              rintro e w5 ⟨rfl, hm5⟩
              have HM5 := Lib.hid hm5
              have HDC := Lib.hid (show Calls Try.prog 20 #[.pointer (some ⟨M, 0, none⟩)] w5 fun e w' => e = .returned (.string b) ∧ w5 = w' from by
                have := hm5.data_ (txt b) (fun x hx => by rw [hx.2])
                rw [tb_of] at this
                exact this)
              have hHeld := HBC.out w5 hm5.below
              clear hm5 HSY
              refine hK.out _ _ (fun _ => hHeld) ?_
              clear hK K
              try simp only [Act.put, List.setIfInBounds_toArray, List.set_cons_zero, List.set_cons_succ]
              iterate 7 (
                refine sch_takes_cons ?_
                first
                  | (refine sch_take (v := ?_) rfl (by assumption) (by rfl) ?_ ?_; rotate_left; (focus (intro wy hSy; (try dsimp only at hSy); go_simp; (try with_reducible rfl))))
                  | (refine sch_pass rfl (by assumption) (by rfl) ?_)
                simp only [Act.put, List.setIfInBounds_toArray, List.set_cons_zero, List.set_cons_succ])
              refine sch_takes_nil ?_
              refine sch_run rfl (fun K hK => ?_)
              go_simp
              with_reducible refine HDC.out.mono ?_
              rintro e w6 ⟨rfl, rfl⟩
              refine hK.out _ _ (fun _ => hHeld) ?_
              clear hK K
              try simp only [Act.put, List.setIfInBounds_toArray, List.set_cons_zero, List.set_cons_succ]
              iterate 3 (
                refine sch_takes_cons ?_
                first
                  | (refine sch_take (v := ?_) rfl (by assumption) (by rfl) ?_ ?_; rotate_left; (focus (intro wy hSy; (try dsimp only at hSy); go_simp; (try with_reducible rfl))))
                  | (refine sch_pass rfl (by assumption) (by rfl) ?_)
                simp only [Act.put, List.setIfInBounds_toArray, List.set_cons_zero, List.set_cons_succ])
              refine sch_takes_nil ?_
              refine sch_done ?_
              refine NoPanic.normal ?_
              clear hHeld
              by_cases hkn : k < kn
              · have kI1 : (k : Int) < (kn : Int) := by omega
                have kI2 : (k : Int) + 1 ≤ (kc : Int) := by have := HKC.out; omega
                obtain ⟨KA, hKA, hold⟩ := HOK.out.one hkn
                have HOLD := Lib.hid hold
                have hsl := slice_one (P := Try.prog) (t := 54) Try.underlying54 (fun w => by kernel_rfl) K kn kc k (by have := HKC.out; omega)
                rw [hKA] at hsl
                clear hold hKA
                have HCR := Lib.hid (keeps_crash2 HM5.out (HOLD.out) (kc - k))
                clear HM5
                try go_wp2_with fail
                refine HCR.out.mono ?_
                rintro e w6 ⟨rfl, hd6⟩
                have HO := Lib.hid (hd6.opens (by decide))
                clear hd6 HCR
                go_wp2_with fail
                refine HO.out.mono ?_
                rintro e w7 ⟨N2, rfl, hm7⟩
                obtain ⟨w8, hw8⟩ : ∃ w8, w7.drew = w8 := ⟨_, rfl⟩
                have HM8 := Lib.hid (show MsP w (.pointer (some ⟨B, 0, none⟩)) (.pointer (some ⟨N2, 0, none⟩)) (MI 2 4 ⟨1 - m.at_, t + 1, txt b, false, []⟩ (t + 1)) w8 from hw8 ▸ hm7.keeps (Below.refl _ _).drew)
                have HDE := Lib.hid (HM8.out.dev (I := DI 2 4 ⟨1 - m.at_, t + 1, txt b, false, []⟩ (t + 1)) fun x _ hx => hx.1)
                have hHeld := HBC.out w8 HM8.out.below
                have HDZ := Lib.hid (show Calls Try.prog 20 #[.pointer (some ⟨N2, 0, none⟩)] w8 fun e w' => e = .returned (.string b) ∧ w8 = w' from by
                  have := HM8.out.data_ (txt b) (fun x hx => by rw [hx.2])
                  rw [tb_of] at this
                  exact this)
                clear hm7 HO HM8
                go_wp2_with fail
                refine wp_region_noPanic ?_
                refine wp_region_sch (fun wx => wx.cell? ⟨g, off + k, none⟩ = some (.string b)) (fun i => [8, 18].contains i)
                  (.takes [0, 1, 2, 3, 4, 5, 6, 7, 9, 10, 11, 12] (.run 8 (.takes [13, 14, 15, 16, 17, 19] (.run 18 (.takes [20, 21, 22, 23] .done))))) (by kernel_rfl) (fun _ _ _ _ _ h => h) (by kernel_rfl) ?_
                rw [hw8]
                clear hw8
                iterate 12 (
                  refine sch_takes_cons ?_
                  first
                    | (refine sch_take (v := ?_) rfl (by assumption) (by rfl) ?_ ?_; rotate_left; (focus (intro wy hSy; (try dsimp only at hSy); go_simp; (try with_reducible rfl))))
                    | (refine sch_pass rfl (by assumption) (by rfl) ?_)
                  simp only [Act.put, List.setIfInBounds_toArray, List.set_cons_zero, List.set_cons_succ])
                refine sch_takes_nil ?_
                refine sch_run rfl (fun K hK => ?_)
                go_simp
                with_reducible refine HDZ.out.mono ?_
                rintro e w9 ⟨rfl, rfl⟩
                refine hK.out _ _ (fun _ => hHeld) ?_
                clear hK K
                try simp only [Act.put, List.setIfInBounds_toArray, List.set_cons_zero, List.set_cons_succ]
                iterate 6 (
                  refine sch_takes_cons ?_
                  first
                    | (refine sch_take (v := ?_) rfl (by assumption) (by rfl) ?_ ?_; rotate_left; (focus (intro wy hSy; (try dsimp only at hSy); go_simp; (try with_reducible rfl))))
                    | (refine sch_pass rfl (by assumption) (by rfl) ?_)
                  simp only [Act.put, List.setIfInBounds_toArray, List.set_cons_zero, List.set_cons_succ])
                refine sch_takes_nil ?_
                refine sch_run rfl (fun K hK => ?_)
                go_simp
                try rw [if_neg (by first | decide | simp | (intro h; cases h))]
                refine hK.out _ _ (fun _ => hHeld) ?_
                clear hK K
                try simp only [Act.put, List.setIfInBounds_toArray, List.set_cons_zero, List.set_cons_succ]
                iterate 4 (
                  refine sch_takes_cons ?_
                  first
                    | (refine sch_take (v := ?_) rfl (by assumption) (by rfl) ?_ ?_; rotate_left; (focus (intro wy hSy; (try dsimp only at hSy); go_simp; (try with_reducible rfl))))
                    | (refine sch_pass rfl (by assumption) (by rfl) ?_)
                  simp only [Act.put, List.setIfInBounds_toArray, List.set_cons_zero, List.set_cons_succ])
                refine sch_takes_nil ?_
                refine sch_done ?_
                refine NoPanic.normal ?_
                clear hHeld
                go_wp2_with fail
                refine HDZ.out.mono ?_
                rintro e w9 ⟨rfl, rfl⟩
                go_wp2_with fail
                go_roundw
                case rel => exact ⟨k + 1, ⟨1 - m.at_, t + 1, txt b, false, []⟩, t + 1, by omega, by go_num, by rw [tb_of], by have := HTK.out; omega, HDE⟩
                case measure => simp [intOf]; omega
              · have kI1 : ¬ (k : Int) < (kn : Int) := by omega
                have HCR := Lib.hid (keeps_crash2 HM5.out (old_nil w) 0)
                clear HM5
                try go_wp2_with fail
                refine HCR.out.mono ?_
                rintro e w6 ⟨rfl, hd6⟩
                have HO := Lib.hid (hd6.opens (by decide))
                clear hd6 HCR
                go_wp2_with fail
                refine HO.out.mono ?_
                rintro e w7 ⟨N2, rfl, hm7⟩
                obtain ⟨w8, hw8⟩ : ∃ w8, w7.drew = w8 := ⟨_, rfl⟩
                have HM8 := Lib.hid (show MsP w (.pointer (some ⟨B, 0, none⟩)) (.pointer (some ⟨N2, 0, none⟩)) (MI 2 4 ⟨1 - m.at_, t + 1, txt b, false, []⟩ (t + 1)) w8 from hw8 ▸ hm7.keeps (Below.refl _ _).drew)
                have HDE := Lib.hid (HM8.out.dev (I := DI 2 4 ⟨1 - m.at_, t + 1, txt b, false, []⟩ (t + 1)) fun x _ hx => hx.1)
                have hHeld := HBC.out w8 HM8.out.below
                have HDZ := Lib.hid (show Calls Try.prog 20 #[.pointer (some ⟨N2, 0, none⟩)] w8 fun e w' => e = .returned (.string b) ∧ w8 = w' from by
                  have := HM8.out.data_ (txt b) (fun x hx => by rw [hx.2])
                  rw [tb_of] at this
                  exact this)
                clear hm7 HO HM8
                go_wp2_with fail
                refine wp_region_noPanic ?_
                refine wp_region_sch (fun wx => wx.cell? ⟨g, off + k, none⟩ = some (.string b)) (fun i => [8, 18].contains i)
                  (.takes [0, 1, 2, 3, 4, 5, 6, 7, 9, 10, 11, 12] (.run 8 (.takes [13, 14, 15, 16, 17, 19] (.run 18 (.takes [20, 21, 22, 23] .done))))) (by kernel_rfl) (fun _ _ _ _ _ h => h) (by kernel_rfl) ?_
                rw [hw8]
                clear hw8
                iterate 12 (
                  refine sch_takes_cons ?_
                  first
                    | (refine sch_take (v := ?_) rfl (by assumption) (by rfl) ?_ ?_; rotate_left; (focus (intro wy hSy; (try dsimp only at hSy); go_simp; (try with_reducible rfl))))
                    | (refine sch_pass rfl (by assumption) (by rfl) ?_)
                  simp only [Act.put, List.setIfInBounds_toArray, List.set_cons_zero, List.set_cons_succ])
                refine sch_takes_nil ?_
                refine sch_run rfl (fun K hK => ?_)
                go_simp
                with_reducible refine HDZ.out.mono ?_
                rintro e w9 ⟨rfl, rfl⟩
                refine hK.out _ _ (fun _ => hHeld) ?_
                clear hK K
                try simp only [Act.put, List.setIfInBounds_toArray, List.set_cons_zero, List.set_cons_succ]
                iterate 6 (
                  refine sch_takes_cons ?_
                  first
                    | (refine sch_take (v := ?_) rfl (by assumption) (by rfl) ?_ ?_; rotate_left; (focus (intro wy hSy; (try dsimp only at hSy); go_simp; (try with_reducible rfl))))
                    | (refine sch_pass rfl (by assumption) (by rfl) ?_)
                  simp only [Act.put, List.setIfInBounds_toArray, List.set_cons_zero, List.set_cons_succ])
                refine sch_takes_nil ?_
                refine sch_run rfl (fun K hK => ?_)
                go_simp
                try rw [if_neg (by first | decide | simp | (intro h; cases h))]
                refine hK.out _ _ (fun _ => hHeld) ?_
                clear hK K
                try simp only [Act.put, List.setIfInBounds_toArray, List.set_cons_zero, List.set_cons_succ]
                iterate 4 (
                  refine sch_takes_cons ?_
                  first
                    | (refine sch_take (v := ?_) rfl (by assumption) (by rfl) ?_ ?_; rotate_left; (focus (intro wy hSy; (try dsimp only at hSy); go_simp; (try with_reducible rfl))))
                    | (refine sch_pass rfl (by assumption) (by rfl) ?_)
                  simp only [Act.put, List.setIfInBounds_toArray, List.set_cons_zero, List.set_cons_succ])
                refine sch_takes_nil ?_
                refine sch_done ?_
                refine NoPanic.normal ?_
                clear hHeld
                go_wp2_with fail
                refine HDZ.out.mono ?_
                rintro e w9 ⟨rfl, rfl⟩
                go_wp2_with fail
                go_roundw
                case rel => exact ⟨k + 1, ⟨1 - m.at_, t + 1, txt b, false, []⟩, t + 1, by omega, by go_num, by rw [tb_of], by have := HTK.out; omega, HDE⟩
                case measure => simp [intOf]; omega
            · have hyI : (y : Int) % 2 = 0 := by omega
              have hyT : Int.tmod (y : Int) 2 = 0 := by rw [Int.tmod_eq_emod_of_nonneg (by omega)]; exact hyI
              clear hodd hyI hy
              obtain ⟨w4, hw4⟩ : ∃ w4, w3.drew = w4 := ⟨_, rfl⟩
              have HM4 := Lib.hid (show MsP w (.pointer (some ⟨B, 0, none⟩)) (.pointer (some ⟨M, 0, none⟩)) (MW 2 4 m t (txt b)) w4 from hw4 ▸ HM3.out.keeps (Below.refl _ _).drew)
              have hHeld := HBC.out w4 HM4.out.below
              clear HM3 hc3
              go_wp2_with fail
              refine wp_region_noPanic ?_
              refine wp_region_sch (fun wx => wx.cell? ⟨g, off + k, none⟩ = some (.string b)) (fun i => [3, 7].contains i)
                (.takes [0, 1, 2] (.run 3 (.takes [4, 5, 6, 8, 9, 10, 11] (.run 7 (.takes [12, 13, 14] .done))))) (by kernel_rfl) (fun _ _ _ _ _ h => h) (by kernel_rfl) ?_
              rw [hw4]
              clear hw4
              iterate 3 (
                refine sch_takes_cons ?_
                first
                  | (refine sch_take (v := ?_) rfl (by assumption) (by rfl) ?_ ?_; rotate_left; (focus (intro wy hSy; (try dsimp only at hSy); go_simp; (try with_reducible rfl))))
                  | (refine sch_pass rfl (by assumption) (by rfl) ?_)
                simp only [Act.put, List.setIfInBounds_toArray, List.set_cons_zero, List.set_cons_succ])
              refine sch_takes_nil ?_
              refine sch_run rfl (fun K hK => ?_)
              go_simp
              try rw [if_neg (by first | decide | simp | (intro h; cases h))]
              refine hK.out _ _ (fun _ => hHeld) ?_
              clear hK K
              try simp only [Act.put, List.setIfInBounds_toArray, List.set_cons_zero, List.set_cons_succ]
              iterate 7 (
                refine sch_takes_cons ?_
                first
                  | (refine sch_take (v := ?_) rfl (by assumption) (by rfl) ?_ ?_; rotate_left; (focus (intro wy hSy; (try dsimp only at hSy); go_simp; (try with_reducible rfl))))
                  | (refine sch_pass rfl (by assumption) (by rfl) ?_)
                simp only [Act.put, List.setIfInBounds_toArray, List.set_cons_zero, List.set_cons_succ])
              refine sch_takes_nil ?_
              refine sch_run rfl (fun K hK => ?_)
              go_simp
              try rw [if_neg (by first | decide | simp | (intro h; cases h))]
              refine hK.out _ _ (fun _ => hHeld) ?_
              clear hK K
              try simp only [Act.put, List.setIfInBounds_toArray, List.set_cons_zero, List.set_cons_succ]
              iterate 3 (
                refine sch_takes_cons ?_
                first
                  | (refine sch_take (v := ?_) rfl (by assumption) (by rfl) ?_ ?_; rotate_left; (focus (intro wy hSy; (try dsimp only at hSy); go_simp; (try with_reducible rfl))))
                  | (refine sch_pass rfl (by assumption) (by rfl) ?_)
                simp only [Act.put, List.setIfInBounds_toArray, List.set_cons_zero, List.set_cons_succ])
              refine sch_takes_nil ?_
              refine sch_done ?_
              refine NoPanic.normal ?_
              clear hHeld
              by_cases hkn : k < kn
              · have kI1 : (k : Int) < (kn : Int) := by omega
                have kI2 : (k : Int) + 1 ≤ (kc : Int) := by have := HKC.out; omega
                obtain ⟨KA, hKA, hold⟩ := HOK.out.one hkn
                have HOLD := Lib.hid hold
                have hsl := slice_one (P := Try.prog) (t := 54) Try.underlying54 (fun w => by kernel_rfl) K kn kc k (by have := HKC.out; omega)
                rw [hKA] at hsl
                clear hold hKA
                have HCR := Lib.hid (keeps_crash HM4.out (HOLD.out) (kc - k))
                clear HM4
                try go_wp2_with fail
                refine HCR.out.mono ?_
                rintro e w6 ⟨rfl, m', t', hd6, hms, htt⟩
                have HTT := Lib.hid htt
                have HO := Lib.hid (hd6.opens (by decide))
                clear hd6 HCR htt
                go_wp2_with fail
                refine HO.out.mono ?_
                rintro e w7 ⟨N2, rfl, hm7⟩
                obtain ⟨w8, hw8⟩ : ∃ w8, w7.drew = w8 := ⟨_, rfl⟩
                have HM8 := Lib.hid (show MsP w (.pointer (some ⟨B, 0, none⟩)) (.pointer (some ⟨N2, 0, none⟩)) (MI 2 4 m' t') w8 from hw8 ▸ hm7.keeps (Below.refl _ _).drew)
                have HDE := Lib.hid (HM8.out.dev (I := DI 2 4 m' t') fun x _ hx => hx.1)
                have hHeld := HBC.out w8 HM8.out.below
                clear hm7 HO
                by_cases hsame : m'.s = txt b
                · have HMS := Lib.hid hsame
                  clear hms hsame
                  have HDZ := Lib.hid (show Calls Try.prog 20 #[.pointer (some ⟨N2, 0, none⟩)] w8 fun e w' => e = .returned (.string b) ∧ w8 = w' from by
                    have := HM8.out.data_ m'.s (fun x hx => by rw [hx.2])
                    rw [HMS.out, tb_of] at this
                    exact this)
                  clear HM8
                  go_wp2_with fail
                  refine wp_region_noPanic ?_
                  refine wp_region_sch (fun wx => wx.cell? ⟨g, off + k, none⟩ = some (.string b)) (fun i => [8, 18].contains i)
                    (.takes [0, 1, 2, 3, 4, 5, 6, 7, 9, 10, 11, 12] (.run 8 (.takes [13, 14, 15, 16, 17, 19] (.run 18 (.takes [20, 21, 22, 23] .done))))) (by kernel_rfl) (fun _ _ _ _ _ h => h) (by kernel_rfl) ?_
                  rw [hw8]
                  clear hw8
                  iterate 12 (
                    refine sch_takes_cons ?_
                    first
                      | (refine sch_take (v := ?_) rfl (by assumption) (by rfl) ?_ ?_; rotate_left; (focus (intro wy hSy; (try dsimp only at hSy); go_simp; (try with_reducible rfl))))
                      | (refine sch_pass rfl (by assumption) (by rfl) ?_)
                    simp only [Act.put, List.setIfInBounds_toArray, List.set_cons_zero, List.set_cons_succ])
                  refine sch_takes_nil ?_
                  refine sch_run rfl (fun K hK => ?_)
                  go_simp
                  with_reducible refine HDZ.out.mono ?_
                  rintro e w9 ⟨rfl, rfl⟩
                  refine hK.out _ _ (fun _ => hHeld) ?_
                  clear hK K
                  try simp only [Act.put, List.setIfInBounds_toArray, List.set_cons_zero, List.set_cons_succ]
                  iterate 6 (
                    refine sch_takes_cons ?_
                    first
                      | (refine sch_take (v := ?_) rfl (by assumption) (by rfl) ?_ ?_; rotate_left; (focus (intro wy hSy; (try dsimp only at hSy); go_simp; (try with_reducible rfl))))
                      | (refine sch_pass rfl (by assumption) (by rfl) ?_)
                    simp only [Act.put, List.setIfInBounds_toArray, List.set_cons_zero, List.set_cons_succ])
                  refine sch_takes_nil ?_
                  refine sch_run rfl (fun K hK => ?_)
                  go_simp
                  try rw [if_neg (by first | decide | simp | (intro h; cases h))]
                  refine hK.out _ _ (fun _ => hHeld) ?_
                  clear hK K
                  try simp only [Act.put, List.setIfInBounds_toArray, List.set_cons_zero, List.set_cons_succ]
                  iterate 4 (
                    refine sch_takes_cons ?_
                    first
                      | (refine sch_take (v := ?_) rfl (by assumption) (by rfl) ?_ ?_; rotate_left; (focus (intro wy hSy; (try dsimp only at hSy); go_simp; (try with_reducible rfl))))
                      | (refine sch_pass rfl (by assumption) (by rfl) ?_)
                    simp only [Act.put, List.setIfInBounds_toArray, List.set_cons_zero, List.set_cons_succ])
                  refine sch_takes_nil ?_
                  refine sch_done ?_
                  refine NoPanic.normal ?_
                  clear hHeld
                  go_wp2_with fail
                  refine HDZ.out.mono ?_
                  rintro e w9 ⟨rfl, rfl⟩
                  go_wp2_with fail
                  go_roundw
                  case rel => exact ⟨k + 1, m', t', by omega, by go_num, by rw [HMS.out, tb_of], by have := HTK.out; have := HTT.out; omega, HDE⟩
                  case measure => simp [intOf]; omega
                · have hms2 : m'.s = m.s := hms.resolve_right hsame
                  have HMS := Lib.hid hms2
                  have hne := ne_text (show m.s ≠ txt b from hms2 ▸ hsame)
                  clear hms hsame hms2
                  have HDZ := Lib.hid (show Calls Try.prog 20 #[.pointer (some ⟨N2, 0, none⟩)] w8 fun e w' => e = .returned (.string (tb m.s)) ∧ w8 = w' from by
                    have := HM8.out.data_ m'.s (fun x hx => by rw [hx.2])
                    rw [HMS.out] at this
                    exact this)
                  clear HM8
                  go_wp2_with fail
                  refine wp_region_noPanic ?_
                  refine wp_region_sch (fun wx => wx.cell? ⟨g, off + k, none⟩ = some (.string b)) (fun i => [8, 18].contains i)
                    (.takes [0, 1, 2, 3, 4, 5, 6, 7, 9, 10, 11, 12] (.run 8 (.takes [13, 14, 15, 16, 17, 19] (.run 18 (.takes [20, 21, 22, 23] .done))))) (by kernel_rfl) (fun _ _ _ _ _ h => h) (by kernel_rfl) ?_
                  rw [hw8]
                  clear hw8
                  iterate 12 (
                    refine sch_takes_cons ?_
                    first
                      | (refine sch_take (v := ?_) rfl (by assumption) (by rfl) ?_ ?_; rotate_left; (focus (intro wy hSy; (try dsimp only at hSy); go_simp; (try with_reducible rfl))))
                      | (refine sch_pass rfl (by assumption) (by rfl) ?_)
                    simp only [Act.put, List.setIfInBounds_toArray, List.set_cons_zero, List.set_cons_succ])
                  refine sch_takes_nil ?_
                  refine sch_run rfl (fun K hK => ?_)
                  go_simp
                  with_reducible refine HDZ.out.mono ?_
                  rintro e w9 ⟨rfl, rfl⟩
                  refine hK.out _ _ (fun _ => hHeld) ?_
                  clear hK K
                  try simp only [Act.put, List.setIfInBounds_toArray, List.set_cons_zero, List.set_cons_succ]
                  iterate 6 (
                    refine sch_takes_cons ?_
                    first
                      | (refine sch_take (v := ?_) rfl (by assumption) (by rfl) ?_ ?_; rotate_left; (focus (intro wy hSy; (try dsimp only at hSy); go_simp; (try with_reducible rfl))))
                      | (refine sch_pass rfl (by assumption) (by rfl) ?_)
                    simp only [Act.put, List.setIfInBounds_toArray, List.set_cons_zero, List.set_cons_succ])
                  refine sch_takes_nil ?_
                  refine sch_run rfl (fun K hK => ?_)
                  go_simp
                  with_reducible refine HDZ.out.mono ?_
                  rintro e w9 ⟨rfl, rfl⟩
                  refine hK.out _ _ (fun _ => hHeld) ?_
                  clear hK K
                  try simp only [Act.put, List.setIfInBounds_toArray, List.set_cons_zero, List.set_cons_succ]
                  iterate 4 (
                    refine sch_takes_cons ?_
                    first
                      | (refine sch_take (v := ?_) rfl (by assumption) (by rfl) ?_ ?_; rotate_left; (focus (intro wy hSy; (try dsimp only at hSy); go_simp; (try with_reducible rfl))))
                      | (refine sch_pass rfl (by assumption) (by rfl) ?_)
                    simp only [Act.put, List.setIfInBounds_toArray, List.set_cons_zero, List.set_cons_succ])
                  refine sch_takes_nil ?_
                  refine sch_done ?_
                  refine NoPanic.normal ?_
                  clear hHeld
                  go_wp2_with fail
                  refine HDZ.out.mono ?_
                  rintro e w9 ⟨rfl, rfl⟩
                  go_wp2_with fail
                  go_roundw
                  case rel => exact ⟨k + 1, m', t', by omega, by go_num, by rw [HMS.out], by have := HTK.out; have := HTT.out; omega, HDE⟩
                  case measure => simp [intOf]; omega
              · have kI1 : ¬ (k : Int) < (kn : Int) := by omega
                have HCR := Lib.hid (keeps_crash HM4.out (old_nil w) 0)
                clear HM4
                try go_wp2_with fail
                refine HCR.out.mono ?_
                rintro e w6 ⟨rfl, m', t', hd6, hms, htt⟩
                have HTT := Lib.hid htt
                have HO := Lib.hid (hd6.opens (by decide))
                clear hd6 HCR htt
                go_wp2_with fail
                refine HO.out.mono ?_
                rintro e w7 ⟨N2, rfl, hm7⟩
                obtain ⟨w8, hw8⟩ : ∃ w8, w7.drew = w8 := ⟨_, rfl⟩
                have HM8 := Lib.hid (show MsP w (.pointer (some ⟨B, 0, none⟩)) (.pointer (some ⟨N2, 0, none⟩)) (MI 2 4 m' t') w8 from hw8 ▸ hm7.keeps (Below.refl _ _).drew)
                have HDE := Lib.hid (HM8.out.dev (I := DI 2 4 m' t') fun x _ hx => hx.1)
                have hHeld := HBC.out w8 HM8.out.below
                clear hm7 HO
                by_cases hsame : m'.s = txt b
                · have HMS := Lib.hid hsame
                  clear hms hsame
                  have HDZ := Lib.hid (show Calls Try.prog 20 #[.pointer (some ⟨N2, 0, none⟩)] w8 fun e w' => e = .returned (.string b) ∧ w8 = w' from by
                    have := HM8.out.data_ m'.s (fun x hx => by rw [hx.2])
                    rw [HMS.out, tb_of] at this
                    exact this)
                  clear HM8
                  go_wp2_with fail
                  refine wp_region_noPanic ?_
                  refine wp_region_sch (fun wx => wx.cell? ⟨g, off + k, none⟩ = some (.string b)) (fun i => [8, 18].contains i)
                    (.takes [0, 1, 2, 3, 4, 5, 6, 7, 9, 10, 11, 12] (.run 8 (.takes [13, 14, 15, 16, 17, 19] (.run 18 (.takes [20, 21, 22, 23] .done))))) (by kernel_rfl) (fun _ _ _ _ _ h => h) (by kernel_rfl) ?_
                  rw [hw8]
                  clear hw8
                  iterate 12 (
                    refine sch_takes_cons ?_
                    first
                      | (refine sch_take (v := ?_) rfl (by assumption) (by rfl) ?_ ?_; rotate_left; (focus (intro wy hSy; (try dsimp only at hSy); go_simp; (try with_reducible rfl))))
                      | (refine sch_pass rfl (by assumption) (by rfl) ?_)
                    simp only [Act.put, List.setIfInBounds_toArray, List.set_cons_zero, List.set_cons_succ])
                  refine sch_takes_nil ?_
                  refine sch_run rfl (fun K hK => ?_)
                  go_simp
                  with_reducible refine HDZ.out.mono ?_
                  rintro e w9 ⟨rfl, rfl⟩
                  refine hK.out _ _ (fun _ => hHeld) ?_
                  clear hK K
                  try simp only [Act.put, List.setIfInBounds_toArray, List.set_cons_zero, List.set_cons_succ]
                  iterate 6 (
                    refine sch_takes_cons ?_
                    first
                      | (refine sch_take (v := ?_) rfl (by assumption) (by rfl) ?_ ?_; rotate_left; (focus (intro wy hSy; (try dsimp only at hSy); go_simp; (try with_reducible rfl))))
                      | (refine sch_pass rfl (by assumption) (by rfl) ?_)
                    simp only [Act.put, List.setIfInBounds_toArray, List.set_cons_zero, List.set_cons_succ])
                  refine sch_takes_nil ?_
                  refine sch_run rfl (fun K hK => ?_)
                  go_simp
                  try rw [if_neg (by first | decide | simp | (intro h; cases h))]
                  refine hK.out _ _ (fun _ => hHeld) ?_
                  clear hK K
                  try simp only [Act.put, List.setIfInBounds_toArray, List.set_cons_zero, List.set_cons_succ]
                  iterate 4 (
                    refine sch_takes_cons ?_
                    first
                      | (refine sch_take (v := ?_) rfl (by assumption) (by rfl) ?_ ?_; rotate_left; (focus (intro wy hSy; (try dsimp only at hSy); go_simp; (try with_reducible rfl))))
                      | (refine sch_pass rfl (by assumption) (by rfl) ?_)
                    simp only [Act.put, List.setIfInBounds_toArray, List.set_cons_zero, List.set_cons_succ])
                  refine sch_takes_nil ?_
                  refine sch_done ?_
                  refine NoPanic.normal ?_
                  clear hHeld
                  go_wp2_with fail
                  refine HDZ.out.mono ?_
                  rintro e w9 ⟨rfl, rfl⟩
                  go_wp2_with fail
                  go_roundw
                  case rel => exact ⟨k + 1, m', t', by omega, by go_num, by rw [HMS.out, tb_of], by have := HTK.out; have := HTT.out; omega, HDE⟩
                  case measure => simp [intOf]; omega
                · have hms2 : m'.s = m.s := hms.resolve_right hsame
                  have HMS := Lib.hid hms2
                  have hne := ne_text (show m.s ≠ txt b from hms2 ▸ hsame)
                  clear hms hsame hms2
                  have HDZ := Lib.hid (show Calls Try.prog 20 #[.pointer (some ⟨N2, 0, none⟩)] w8 fun e w' => e = .returned (.string (tb m.s)) ∧ w8 = w' from by
                    have := HM8.out.data_ m'.s (fun x hx => by rw [hx.2])
                    rw [HMS.out] at this
                    exact this)
                  clear HM8
                  go_wp2_with fail
                  refine wp_region_noPanic ?_
                  refine wp_region_sch (fun wx => wx.cell? ⟨g, off + k, none⟩ = some (.string b)) (fun i => [8, 18].contains i)
                    (.takes [0, 1, 2, 3, 4, 5, 6, 7, 9, 10, 11, 12] (.run 8 (.takes [13, 14, 15, 16, 17, 19] (.run 18 (.takes [20, 21, 22, 23] .done))))) (by kernel_rfl) (fun _ _ _ _ _ h => h) (by kernel_rfl) ?_
                  rw [hw8]
                  clear hw8
                  iterate 12 (
                    refine sch_takes_cons ?_
                    first
                      | (refine sch_take (v := ?_) rfl (by assumption) (by rfl) ?_ ?_; rotate_left; (focus (intro wy hSy; (try dsimp only at hSy); go_simp; (try with_reducible rfl))))
                      | (refine sch_pass rfl (by assumption) (by rfl) ?_)
                    simp only [Act.put, List.setIfInBounds_toArray, List.set_cons_zero, List.set_cons_succ])
                  refine sch_takes_nil ?_
                  refine sch_run rfl (fun K hK => ?_)
                  go_simp
                  with_reducible refine HDZ.out.mono ?_
                  rintro e w9 ⟨rfl, rfl⟩
                  refine hK.out _ _ (fun _ => hHeld) ?_
                  clear hK K
                  try simp only [Act.put, List.setIfInBounds_toArray, List.set_cons_zero, List.set_cons_succ]
                  iterate 6 (
                    refine sch_takes_cons ?_
                    first
                      | (refine sch_take (v := ?_) rfl (by assumption) (by rfl) ?_ ?_; rotate_left; (focus (intro wy hSy; (try dsimp only at hSy); go_simp; (try with_reducible rfl))))
                      | (refine sch_pass rfl (by assumption) (by rfl) ?_)
                    simp only [Act.put, List.setIfInBounds_toArray, List.set_cons_zero, List.set_cons_succ])
                  refine sch_takes_nil ?_
                  refine sch_run rfl (fun K hK => ?_)
                  go_simp
                  with_reducible refine HDZ.out.mono ?_
                  rintro e w9 ⟨rfl, rfl⟩
                  refine hK.out _ _ (fun _ => hHeld) ?_
                  clear hK K
                  try simp only [Act.put, List.setIfInBounds_toArray, List.set_cons_zero, List.set_cons_succ]
                  iterate 4 (
                    refine sch_takes_cons ?_
                    first
                      | (refine sch_take (v := ?_) rfl (by assumption) (by rfl) ?_ ?_; rotate_left; (focus (intro wy hSy; (try dsimp only at hSy); go_simp; (try with_reducible rfl))))
                      | (refine sch_pass rfl (by assumption) (by rfl) ?_)
                    simp only [Act.put, List.setIfInBounds_toArray, List.set_cons_zero, List.set_cons_succ])
                  refine sch_takes_nil ?_
                  refine sch_done ?_
                  refine NoPanic.normal ?_
                  clear hHeld
                  go_wp2_with fail
                  refine HDZ.out.mono ?_
                  rintro e w9 ⟨rfl, rfl⟩
                  go_wp2_with fail
                  go_roundw
                  case rel => exact ⟨k + 1, m', t', by omega, by go_num, by rw [HMS.out], by have := HTK.out; have := HTT.out; omega, HDE⟩
                  case measure => simp [intOf]; omega
          · have kS : ¬ (k : Int) < (sn : Int) := by omega
            obtain ⟨w4, hw4⟩ : ∃ w4, w3.drew = w4 := ⟨_, rfl⟩
            have HM4 := Lib.hid (show MsP w (.pointer (some ⟨B, 0, none⟩)) (.pointer (some ⟨M, 0, none⟩)) (MW 2 4 m t (txt b)) w4 from hw4 ▸ HM3.out.keeps (Below.refl _ _).drew)
            have hHeld := HBC.out w4 HM4.out.below
            clear HM3 hc3
            go_wp2_with fail
            refine wp_region_noPanic ?_
            refine wp_region_sch (fun wx => wx.cell? ⟨g, off + k, none⟩ = some (.string b)) (fun i => [3, 7].contains i)
              (.takes [0, 1, 2] (.run 3 (.takes [4, 5, 6, 8, 9, 10, 11] (.run 7 (.takes [12, 13, 14] .done))))) (by kernel_rfl) (fun _ _ _ _ _ h => h) (by kernel_rfl) ?_
            rw [hw4]
            clear hw4
            iterate 3 (
              refine sch_takes_cons ?_
              first
                | (refine sch_take (v := ?_) rfl (by assumption) (by rfl) ?_ ?_; rotate_left; (focus (intro wy hSy; (try dsimp only at hSy); go_simp; (try with_reducible rfl))))
                | (refine sch_pass rfl (by assumption) (by rfl) ?_)
              simp only [Act.put, List.setIfInBounds_toArray, List.set_cons_zero, List.set_cons_succ])
            refine sch_takes_nil ?_
            refine sch_run rfl (fun K hK => ?_)
            go_simp
            try rw [if_neg (by first | decide | simp | (intro h; cases h))]
            refine hK.out _ _ (fun _ => hHeld) ?_
            clear hK K
            try simp only [Act.put, List.setIfInBounds_toArray, List.set_cons_zero, List.set_cons_succ]
            iterate 7 (
              refine sch_takes_cons ?_
              first
                | (refine sch_take (v := ?_) rfl (by assumption) (by rfl) ?_ ?_; rotate_left; (focus (intro wy hSy; (try dsimp only at hSy); go_simp; (try with_reducible rfl))))
                | (refine sch_pass rfl (by assumption) (by rfl) ?_)
              simp only [Act.put, List.setIfInBounds_toArray, List.set_cons_zero, List.set_cons_succ])
            refine sch_takes_nil ?_
            refine sch_run rfl (fun K hK => ?_)
            go_simp
            try rw [if_neg (by first | decide | simp | (intro h; cases h))]
            refine hK.out _ _ (fun _ => hHeld) ?_
            clear hK K
            try simp only [Act.put, List.setIfInBounds_toArray, List.set_cons_zero, List.set_cons_succ]
            iterate 3 (
              refine sch_takes_cons ?_
              first
                | (refine sch_take (v := ?_) rfl (by assumption) (by rfl) ?_ ?_; rotate_left; (focus (intro wy hSy; (try dsimp only at hSy); go_simp; (try with_reducible rfl))))
                | (refine sch_pass rfl (by assumption) (by rfl) ?_)
              simp only [Act.put, List.setIfInBounds_toArray, List.set_cons_zero, List.set_cons_succ])
            refine sch_takes_nil ?_
            refine sch_done ?_
            refine NoPanic.normal ?_
            clear hHeld
            by_cases hkn : k < kn
            · have kI1 : (k : Int) < (kn : Int) := by omega
              have kI2 : (k : Int) + 1 ≤ (kc : Int) := by have := HKC.out; omega
              obtain ⟨KA, hKA, hold⟩ := HOK.out.one hkn
              have HOLD := Lib.hid hold
              have hsl := slice_one (P := Try.prog) (t := 54) Try.underlying54 (fun w => by kernel_rfl) K kn kc k (by have := HKC.out; omega)
              rw [hKA] at hsl
              clear hold hKA
              have HCR := Lib.hid (keeps_crash HM4.out (HOLD.out) (kc - k))
              clear HM4
              try go_wp2_with fail
              refine HCR.out.mono ?_
              rintro e w6 ⟨rfl, m', t', hd6, hms, htt⟩
              have HTT := Lib.hid htt
              have HO := Lib.hid (hd6.opens (by decide))
              clear hd6 HCR htt
              go_wp2_with fail
              refine HO.out.mono ?_
              rintro e w7 ⟨N2, rfl, hm7⟩
              obtain ⟨w8, hw8⟩ : ∃ w8, w7.drew = w8 := ⟨_, rfl⟩
              have HM8 := Lib.hid (show MsP w (.pointer (some ⟨B, 0, none⟩)) (.pointer (some ⟨N2, 0, none⟩)) (MI 2 4 m' t') w8 from hw8 ▸ hm7.keeps (Below.refl _ _).drew)
              have HDE := Lib.hid (HM8.out.dev (I := DI 2 4 m' t') fun x _ hx => hx.1)
              have hHeld := HBC.out w8 HM8.out.below
              clear hm7 HO
              by_cases hsame : m'.s = txt b
              · have HMS := Lib.hid hsame
                clear hms hsame
                have HDZ := Lib.hid (show Calls Try.prog 20 #[.pointer (some ⟨N2, 0, none⟩)] w8 fun e w' => e = .returned (.string b) ∧ w8 = w' from by
                  have := HM8.out.data_ m'.s (fun x hx => by rw [hx.2])
                  rw [HMS.out, tb_of] at this
                  exact this)
                clear HM8
                go_wp2_with fail
                refine wp_region_noPanic ?_
                refine wp_region_sch (fun wx => wx.cell? ⟨g, off + k, none⟩ = some (.string b)) (fun i => [8, 18].contains i)
                  (.takes [0, 1, 2, 3, 4, 5, 6, 7, 9, 10, 11, 12] (.run 8 (.takes [13, 14, 15, 16, 17, 19] (.run 18 (.takes [20, 21, 22, 23] .done))))) (by kernel_rfl) (fun _ _ _ _ _ h => h) (by kernel_rfl) ?_
                rw [hw8]
                clear hw8
                iterate 12 (
                  refine sch_takes_cons ?_
                  first
                    | (refine sch_take (v := ?_) rfl (by assumption) (by rfl) ?_ ?_; rotate_left; (focus (intro wy hSy; (try dsimp only at hSy); go_simp; (try with_reducible rfl))))
                    | (refine sch_pass rfl (by assumption) (by rfl) ?_)
                  simp only [Act.put, List.setIfInBounds_toArray, List.set_cons_zero, List.set_cons_succ])
                refine sch_takes_nil ?_
                refine sch_run rfl (fun K hK => ?_)
                go_simp
                with_reducible refine HDZ.out.mono ?_
                rintro e w9 ⟨rfl, rfl⟩
                refine hK.out _ _ (fun _ => hHeld) ?_
                clear hK K
                try simp only [Act.put, List.setIfInBounds_toArray, List.set_cons_zero, List.set_cons_succ]
                iterate 6 (
                  refine sch_takes_cons ?_
                  first
                    | (refine sch_take (v := ?_) rfl (by assumption) (by rfl) ?_ ?_; rotate_left; (focus (intro wy hSy; (try dsimp only at hSy); go_simp; (try with_reducible rfl))))
                    | (refine sch_pass rfl (by assumption) (by rfl) ?_)
                  simp only [Act.put, List.setIfInBounds_toArray, List.set_cons_zero, List.set_cons_succ])
                refine sch_takes_nil ?_
                refine sch_run rfl (fun K hK => ?_)
                go_simp
                try rw [if_neg (by first | decide | simp | (intro h; cases h))]
                refine hK.out _ _ (fun _ => hHeld) ?_
                clear hK K
                try simp only [Act.put, List.setIfInBounds_toArray, List.set_cons_zero, List.set_cons_succ]
                iterate 4 (
                  refine sch_takes_cons ?_
                  first
                    | (refine sch_take (v := ?_) rfl (by assumption) (by rfl) ?_ ?_; rotate_left; (focus (intro wy hSy; (try dsimp only at hSy); go_simp; (try with_reducible rfl))))
                    | (refine sch_pass rfl (by assumption) (by rfl) ?_)
                  simp only [Act.put, List.setIfInBounds_toArray, List.set_cons_zero, List.set_cons_succ])
                refine sch_takes_nil ?_
                refine sch_done ?_
                refine NoPanic.normal ?_
                clear hHeld
                go_wp2_with fail
                refine HDZ.out.mono ?_
                rintro e w9 ⟨rfl, rfl⟩
                go_wp2_with fail
                go_roundw
                case rel => exact ⟨k + 1, m', t', by omega, by go_num, by rw [HMS.out, tb_of], by have := HTK.out; have := HTT.out; omega, HDE⟩
                case measure => simp [intOf]; omega
              · have hms2 : m'.s = m.s := hms.resolve_right hsame
                have HMS := Lib.hid hms2
                have hne := ne_text (show m.s ≠ txt b from hms2 ▸ hsame)
                clear hms hsame hms2
                have HDZ := Lib.hid (show Calls Try.prog 20 #[.pointer (some ⟨N2, 0, none⟩)] w8 fun e w' => e = .returned (.string (tb m.s)) ∧ w8 = w' from by
                  have := HM8.out.data_ m'.s (fun x hx => by rw [hx.2])
                  rw [HMS.out] at this
                  exact this)
                clear HM8
                go_wp2_with fail
                refine wp_region_noPanic ?_
                refine wp_region_sch (fun wx => wx.cell? ⟨g, off + k, none⟩ = some (.string b)) (fun i => [8, 18].contains i)
                  (.takes [0, 1, 2, 3, 4, 5, 6, 7, 9, 10, 11, 12] (.run 8 (.takes [13, 14, 15, 16, 17, 19] (.run 18 (.takes [20, 21, 22, 23] .done))))) (by kernel_rfl) (fun _ _ _ _ _ h => h) (by kernel_rfl) ?_
                rw [hw8]
                clear hw8
                iterate 12 (
                  refine sch_takes_cons ?_
                  first
                    | (refine sch_take (v := ?_) rfl (by assumption) (by rfl) ?_ ?_; rotate_left; (focus (intro wy hSy; (try dsimp only at hSy); go_simp; (try with_reducible rfl))))
                    | (refine sch_pass rfl (by assumption) (by rfl) ?_)
                  simp only [Act.put, List.setIfInBounds_toArray, List.set_cons_zero, List.set_cons_succ])
                refine sch_takes_nil ?_
                refine sch_run rfl (fun K hK => ?_)
                go_simp
                with_reducible refine HDZ.out.mono ?_
                rintro e w9 ⟨rfl, rfl⟩
                refine hK.out _ _ (fun _ => hHeld) ?_
                clear hK K
                try simp only [Act.put, List.setIfInBounds_toArray, List.set_cons_zero, List.set_cons_succ]
                iterate 6 (
                  refine sch_takes_cons ?_
                  first
                    | (refine sch_take (v := ?_) rfl (by assumption) (by rfl) ?_ ?_; rotate_left; (focus (intro wy hSy; (try dsimp only at hSy); go_simp; (try with_reducible rfl))))
                    | (refine sch_pass rfl (by assumption) (by rfl) ?_)
                  simp only [Act.put, List.setIfInBounds_toArray, List.set_cons_zero, List.set_cons_succ])
                refine sch_takes_nil ?_
                refine sch_run rfl (fun K hK => ?_)
                go_simp
                with_reducible refine HDZ.out.mono ?_
                rintro e w9 ⟨rfl, rfl⟩
                refine hK.out _ _ (fun _ => hHeld) ?_
                clear hK K
                try simp only [Act.put, List.setIfInBounds_toArray, List.set_cons_zero, List.set_cons_succ]
                iterate 4 (
                  refine sch_takes_cons ?_
                  first
                    | (refine sch_take (v := ?_) rfl (by assumption) (by rfl) ?_ ?_; rotate_left; (focus (intro wy hSy; (try dsimp only at hSy); go_simp; (try with_reducible rfl))))
                    | (refine sch_pass rfl (by assumption) (by rfl) ?_)
                  simp only [Act.put, List.setIfInBounds_toArray, List.set_cons_zero, List.set_cons_succ])
                refine sch_takes_nil ?_
                refine sch_done ?_
                refine NoPanic.normal ?_
                clear hHeld
                go_wp2_with fail
                refine HDZ.out.mono ?_
                rintro e w9 ⟨rfl, rfl⟩
                go_wp2_with fail
                go_roundw
                case rel => exact ⟨k + 1, m', t', by omega, by go_num, by rw [HMS.out], by have := HTK.out; have := HTT.out; omega, HDE⟩
                case measure => simp [intOf]; omega
            · have kI1 : ¬ (k : Int) < (kn : Int) := by omega
              have HCR := Lib.hid (keeps_crash HM4.out (old_nil w) 0)
              clear HM4
              try go_wp2_with fail
              refine HCR.out.mono ?_
              rintro e w6 ⟨rfl, m', t', hd6, hms, htt⟩
              have HTT := Lib.hid htt
              have HO := Lib.hid (hd6.opens (by decide))
              clear hd6 HCR htt
              go_wp2_with fail
              refine HO.out.mono ?_
              rintro e w7 ⟨N2, rfl, hm7⟩
              obtain ⟨w8, hw8⟩ : ∃ w8, w7.drew = w8 := ⟨_, rfl⟩
              have HM8 := Lib.hid (show MsP w (.pointer (some ⟨B, 0, none⟩)) (.pointer (some ⟨N2, 0, none⟩)) (MI 2 4 m' t') w8 from hw8 ▸ hm7.keeps (Below.refl _ _).drew)
              have HDE := Lib.hid (HM8.out.dev (I := DI 2 4 m' t') fun x _ hx => hx.1)
              have hHeld := HBC.out w8 HM8.out.below
              clear hm7 HO
              by_cases hsame : m'.s = txt b
              · have HMS := Lib.hid hsame
                clear hms hsame
                have HDZ := Lib.hid (show Calls Try.prog 20 #[.pointer (some ⟨N2, 0, none⟩)] w8 fun e w' => e = .returned (.string b) ∧ w8 = w' from by
                  have := HM8.out.data_ m'.s (fun x hx => by rw [hx.2])
                  rw [HMS.out, tb_of] at this
                  exact this)
                clear HM8
                go_wp2_with fail
                refine wp_region_noPanic ?_
                refine wp_region_sch (fun wx => wx.cell? ⟨g, off + k, none⟩ = some (.string b)) (fun i => [8, 18].contains i)
                  (.takes [0, 1, 2, 3, 4, 5, 6, 7, 9, 10, 11, 12] (.run 8 (.takes [13, 14, 15, 16, 17, 19] (.run 18 (.takes [20, 21, 22, 23] .done))))) (by kernel_rfl) (fun _ _ _ _ _ h => h) (by kernel_rfl) ?_
                rw [hw8]
                clear hw8
                iterate 12 (
                  refine sch_takes_cons ?_
                  first
                    | (refine sch_take (v := ?_) rfl (by assumption) (by rfl) ?_ ?_; rotate_left; (focus (intro wy hSy; (try dsimp only at hSy); go_simp; (try with_reducible rfl))))
                    | (refine sch_pass rfl (by assumption) (by rfl) ?_)
                  simp only [Act.put, List.setIfInBounds_toArray, List.set_cons_zero, List.set_cons_succ])
                refine sch_takes_nil ?_
                refine sch_run rfl (fun K hK => ?_)
                go_simp
                with_reducible refine HDZ.out.mono ?_
                rintro e w9 ⟨rfl, rfl⟩
                refine hK.out _ _ (fun _ => hHeld) ?_
                clear hK K
                try simp only [Act.put, List.setIfInBounds_toArray, List.set_cons_zero, List.set_cons_succ]
                iterate 6 (
                  refine sch_takes_cons ?_
                  first
                    | (refine sch_take (v := ?_) rfl (by assumption) (by rfl) ?_ ?_; rotate_left; (focus (intro wy hSy; (try dsimp only at hSy); go_simp; (try with_reducible rfl))))
                    | (refine sch_pass rfl (by assumption) (by rfl) ?_)
                  simp only [Act.put, List.setIfInBounds_toArray, List.set_cons_zero, List.set_cons_succ])
                refine sch_takes_nil ?_
                refine sch_run rfl (fun K hK => ?_)
                go_simp
                try rw [if_neg (by first | decide | simp | (intro h; cases h))]
                refine hK.out _ _ (fun _ => hHeld) ?_
                clear hK K
                try simp only [Act.put, List.setIfInBounds_toArray, List.set_cons_zero, List.set_cons_succ]
                iterate 4 (
                  refine sch_takes_cons ?_
                  first
                    | (refine sch_take (v := ?_) rfl (by assumption) (by rfl) ?_ ?_; rotate_left; (focus (intro wy hSy; (try dsimp only at hSy); go_simp; (try with_reducible rfl))))
                    | (refine sch_pass rfl (by assumption) (by rfl) ?_)
                  simp only [Act.put, List.setIfInBounds_toArray, List.set_cons_zero, List.set_cons_succ])
                refine sch_takes_nil ?_
                refine sch_done ?_
                refine NoPanic.normal ?_
                clear hHeld
                go_wp2_with fail
                refine HDZ.out.mono ?_
                rintro e w9 ⟨rfl, rfl⟩
                go_wp2_with fail
                go_roundw
                case rel => exact ⟨k + 1, m', t', by omega, by go_num, by rw [HMS.out, tb_of], by have := HTK.out; have := HTT.out; omega, HDE⟩
                case measure => simp [intOf]; omega
              · have hms2 : m'.s = m.s := hms.resolve_right hsame
                have HMS := Lib.hid hms2
                have hne := ne_text (show m.s ≠ txt b from hms2 ▸ hsame)
                clear hms hsame hms2
                have HDZ := Lib.hid (show Calls Try.prog 20 #[.pointer (some ⟨N2, 0, none⟩)] w8 fun e w' => e = .returned (.string (tb m.s)) ∧ w8 = w' from by
                  have := HM8.out.data_ m'.s (fun x hx => by rw [hx.2])
                  rw [HMS.out] at this
                  exact this)
                clear HM8
                go_wp2_with fail
                refine wp_region_noPanic ?_
                refine wp_region_sch (fun wx => wx.cell? ⟨g, off + k, none⟩ = some (.string b)) (fun i => [8, 18].contains i)
                  (.takes [0, 1, 2, 3, 4, 5, 6, 7, 9, 10, 11, 12] (.run 8 (.takes [13, 14, 15, 16, 17, 19] (.run 18 (.takes [20, 21, 22, 23] .done))))) (by kernel_rfl) (fun _ _ _ _ _ h => h) (by kernel_rfl) ?_
                rw [hw8]
                clear hw8
                iterate 12 (
                  refine sch_takes_cons ?_
                  first
                    | (refine sch_take (v := ?_) rfl (by assumption) (by rfl) ?_ ?_; rotate_left; (focus (intro wy hSy; (try dsimp only at hSy); go_simp; (try with_reducible rfl))))
                    | (refine sch_pass rfl (by assumption) (by rfl) ?_)
                  simp only [Act.put, List.setIfInBounds_toArray, List.set_cons_zero, List.set_cons_succ])
                refine sch_takes_nil ?_
                refine sch_run rfl (fun K hK => ?_)
                go_simp
                with_reducible refine HDZ.out.mono ?_
                rintro e w9 ⟨rfl, rfl⟩
                refine hK.out _ _ (fun _ => hHeld) ?_
                clear hK K
                try simp only [Act.put, List.setIfInBounds_toArray, List.set_cons_zero, List.set_cons_succ]
                iterate 6 (
                  refine sch_takes_cons ?_
                  first
                    | (refine sch_take (v := ?_) rfl (by assumption) (by rfl) ?_ ?_; rotate_left; (focus (intro wy hSy; (try dsimp only at hSy); go_simp; (try with_reducible rfl))))
                    | (refine sch_pass rfl (by assumption) (by rfl) ?_)
                  simp only [Act.put, List.setIfInBounds_toArray, List.set_cons_zero, List.set_cons_succ])
                refine sch_takes_nil ?_
                refine sch_run rfl (fun K hK => ?_)
                go_simp
                with_reducible refine HDZ.out.mono ?_
                rintro e w9 ⟨rfl, rfl⟩
                refine hK.out _ _ (fun _ => hHeld) ?_
                clear hK K
                try simp only [Act.put, List.setIfInBounds_toArray, List.set_cons_zero, List.set_cons_succ]
                iterate 4 (
                  refine sch_takes_cons ?_
                  first
                    | (refine sch_take (v := ?_) rfl (by assumption) (by rfl) ?_ ?_; rotate_left; (focus (intro wy hSy; (try dsimp only at hSy); go_simp; (try with_reducible rfl))))
                    | (refine sch_pass rfl (by assumption) (by rfl) ?_)
                  simp only [Act.put, List.setIfInBounds_toArray, List.set_cons_zero, List.set_cons_succ])
                refine sch_takes_nil ?_
                refine sch_done ?_
                refine NoPanic.normal ?_
                clear hHeld
                go_wp2_with fail
                refine HDZ.out.mono ?_
                rintro e w9 ⟨rfl, rfl⟩
                go_wp2_with fail
                go_roundw
                case rel => exact ⟨k + 1, m', t', by omega, by go_num, by rw [HMS.out], by have := HTK.out; have := HTT.out; omega, HDE⟩
                case measure => simp [intOf]; omega
      · obtain rfl : k = n := by omega
        have HBE := Lib.hid HD.out.below
        clear HD
        go_wp2_with fail
        refine (HH.out wr).mono ?_
        rintro e w2 ⟨rfl, hb2⟩
        have HE := Lib.hid (HBE.out.trans (hb2.mono HBE.out.size))
        clear hb2
        go_wp2
        go_ret
        exact ⟨rfl, HE.out⟩
end Go.Proofs.Ytnmfgmlmjbfdcaa
