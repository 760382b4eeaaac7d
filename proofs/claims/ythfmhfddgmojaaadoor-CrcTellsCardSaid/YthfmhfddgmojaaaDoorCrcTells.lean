/-
  The walk of CrcTells.
-/
import Derived.Test.YthfmhfddgmojaaaDoorRefD
import Derived.Deep.RegionHeld
namespace Go.Proofs.YthfmhfddgmojaaaDoor
open Go.RowKit

set_option maxHeartbeats 400000 in
theorem tells_great (A : Option Addr) (n c : Nat) (x : Int) (w : World) (hT : Tab w) (hn : 600 < n) (hm : n ≤ 9223372036854775807) :
    Calls Tryd.prog 3 #[.slice A n c, .int .u32 x] w fun e w' => e = .returned (.bool true) ∧ Below w.heap.size w w' := by
  have HT := Lib.hid hT
  clear hT
  go_enter Tryd.func3, Tryd.ntmps3
  go_wp2_with fail
  refine (head_any _ HT.out).mono ?_
  rintro e w1 ⟨rfl, hb⟩
  go_wp2
  go_ret
  exact ⟨rfl, hb⟩

/-- Nothing of what was there has turned. -/
def Keep (W wx : World) : Prop := Below W.heap.size W wx
theorem Keep.step {W wx w' : World} (h : Keep W wx) (hb : Below wx.heap.size wx w') : Keep W w' := Below.trans h (hb.mono (Below.size h))
theorem keep_calls {P : Program} {F : FuncId} {args : Array Value} {W wx : World} {v : Value} (h : Calls P F args wx fun e w' => e = .returned v ∧ Below wx.heap.size wx w') (hk : Keep W wx) : Calls P F args wx fun e w' => e = .returned v ∧ Keep W w' :=
  h.mono fun _ _ ⟨he, hb⟩ => ⟨he, hk.step hb⟩

/-- Open, of what is not sealed. -/
theorem open_no {T : TypeId} (A : Option Addr) (z : List UInt8) (n c : Nat) (w : World) (hn : z.length = n) (hT : Tab w) (hr : Reads T w A z) (hl : n ≤ 2000) (hc : n ≤ c) (hno : ¬ Sealed z) :
    Calls Tryd.prog 10 #[.slice A n c] w fun e w' => e = .returned (.tuple #[.slice none 0 0, .bool false]) ∧ Below w.heap.size w w' := by
  rcases Nat.lt_or_ge n 4 with h | h
  · exact (open_short A n c w h).mono fun _ _ ⟨he, hw⟩ => ⟨he, by subst hw; exact Below.refl _ _⟩
  · exact open_refuses A z n c w hn hT hr h hl hc hno
theorem ropen_no {T : TypeId} (A : Option Addr) (z : List UInt8) (n c : Nat) (w : World) (hn : z.length = n) (hr : Reads T w A z) (hl : n ≤ 2000) (hc : n ≤ c) (hno : ¬ Sealed z) :
    Calls Tryd.prog 11 #[.slice A n c] w fun e w' => e = .returned (.tuple #[.slice none 0 0, .bool false]) ∧ Below w.heap.size w w' := by
  rcases Nat.lt_or_ge n 4 with h | h
  · exact (ropen_short A n c w h).mono fun _ _ ⟨he, hw⟩ => ⟨he, by subst hw; exact Below.refl _ _⟩
  · exact ropen_refuses A z n c w hn hr h hl hc hno

/-- What Open tells: bytes, and whether. -/
def Opened (w : World) (m : Nat) (lo : List UInt8) (fl : Bool) (e : Ending) (w' : World) : Prop :=
  ∃ Ao co, e = .returned (.tuple #[.slice Ao m co, .bool fl]) ∧ Reads 5 w' Ao lo ∧ Below w.heap.size w w'

/-- Both Opens tell the same of the same bytes, whenever they are called. -/
theorem opens {T : TypeId} (A : Option Addr) (l : List UInt8) (n c : Nat) (w : World) (hln : l.length = n) (hT : Tab w) (hr : Reads T w A l) (hl : n ≤ 2000) (hc : n ≤ c) :
    ∃ (m : Nat) (lo : List UInt8) (fl : Bool), lo.length = m ∧ (∀ wx, Keep w wx → Calls Tryd.prog 10 #[.slice A n c] wx (Opened wx m lo fl)) ∧
      (∀ wx, Keep w wx → Calls Tryd.prog 11 #[.slice A n c] wx (Opened wx m lo fl)) := by
  by_cases hs : Sealed l
  · have h4 : 4 ≤ n := by rw [← hln]; exact hs.1
    refine ⟨n - 4, l.take (n - 4), true, by rw [List.length_take]; omega, fun wx hk => ?_, fun wx hk => ?_⟩
    · exact (open_takes A l n c wx hln (hT.keeps hk) (hr.below hk (Nat.le_refl _)) h4 hl hc hs).mono fun _ _ ⟨g, cap, he, _, _, hrd, hb⟩ => ⟨_, cap, he, hrd, hb⟩
    · exact (ropen_takes A l n c wx hln (hr.below hk (Nat.le_refl _)) h4 hl hc hs).mono fun _ _ ⟨g, cap, he, _, _, hrd, hb⟩ => ⟨_, cap, he, hrd, hb⟩
  · refine ⟨0, [], false, rfl, fun wx hk => ?_, fun wx hk => ?_⟩
    · exact (open_no A l n c wx hln (hT.keeps hk) (hr.below hk (Nat.le_refl _)) hl hc hs).mono fun _ _ ⟨he, hb⟩ => ⟨none, 0, he, Reads.nil, hb⟩
    · exact (ropen_no A l n c wx hln (hr.below hk (Nat.le_refl _)) hl hc hs).mono fun _ _ ⟨he, hb⟩ => ⟨none, 0, he, Reads.nil, hb⟩

theorem seal_n {T : TypeId} (A : Option Addr) (l : List UInt8) (n c : Nat) (w : World) (hn : l.length = n) (hT : Tab w) (hr : Reads T w A l) (hl : n ≤ 2000) :
    Calls Tryd.prog 9 #[.slice A n c] w (NewB w (n + 4) (sealL l)) := by
  subst hn
  exact seal_any A l c w hT hr hl

/-- What was sealed opens as it was. -/
theorem open_back {T : TypeId} (A : Option Addr) (l : List UInt8) (n c : Nat) (w : World) (hn : l.length = n) (hT : Tab w) (hr : Reads T w A (sealL l)) (hl : n + 4 ≤ 2000) (hc : n + 4 ≤ c) :
    Calls Tryd.prog 10 #[.slice A (n + 4) c] w (Opened w n l true) := by
  have hlen : (sealL l).length = n + 4 := by rw [sealL_length, hn]
  refine (open_takes A (sealL l) (n + 4) c w hlen hT hr (by omega) hl hc (sealL_sealed l)).mono fun _ _ ⟨g, cap, he, _, _, hrd, hb⟩ => ⟨some ⟨g, 0, none⟩, cap, ?_, ?_, hb⟩
  · rw [Nat.add_sub_cancel] at he; exact he
  · rw [Nat.add_sub_cancel, show (sealL l).take n = l by unfold sealL; rw [List.take_left' hn]] at hrd; exact hrd

theorem rmore_n {T : TypeId} (A : Option Addr) (l : List UInt8) (n c s m : Nat) (w : World) (hn : l.length = n) (hr : Reads T w A l) (hs : s < 4294967296) (hl : n ≤ 140737488355328) (hm : more_ s l = m) :
    Calls Tryd.prog 12 #[.int .u32 (s : Int), .slice A n c] w fun e w' => e = .returned (.int .u32 (m : Int)) ∧ Below w.heap.size w w' := by
  subst hn; subst hm
  exact rmore_any A l c s w hr hs hl

/-- What the last statement's calls tell, whenever they are called. -/
structure Told (W : World) (A : Option Addr) (k c f sF s0 : Nat) (z : List UInt8) : Prop where
  rmore : ∀ wx, Keep W wx → Calls Tryd.prog 12 #[.int .u32 (f : Int), .slice A k c] wx fun e w' => e = .returned (.int .u32 (sF : Int)) ∧ Keep W w'
  more : ∀ wx, Keep W wx → Calls Tryd.prog 8 #[.int .u32 (f : Int), .slice A k c] wx fun e w' => e = .returned (.int .u32 (sF : Int)) ∧ Keep W w'
  zero : ∀ wx, Keep W wx → Calls Tryd.prog 8 #[.int .u32 0, .slice A k c] wx fun e w' => e = .returned (.int .u32 (s0 : Int)) ∧ Keep W w'
  sum : ∀ wx, Keep W wx → Calls Tryd.prog 13 #[.slice A k c] wx fun e w' => e = .returned (.int .u32 (s0 : Int)) ∧ Keep W w'
  rseal : ∀ wx, Keep W wx → Calls Tryd.prog 14 #[.slice A k c] wx (NewB wx (k + 4) z)
  head : ∀ wx, Keep W wx → Calls Tryd.prog 7 #[] wx fun e w' => e = .returned (.bool true) ∧ Keep W w'

theorem told {T : TypeId} {W : World} (A : Option Addr) (l : List UInt8) (n c f sF : Nat) (hln : l.length = n) (hT : Tab W) (hr : Reads T W A l) (hA : A = none → c = 0) (hl : n ≤ 600) (hf : f < 4294967296) (hsF : more_ f l = sF) : Told W A n c f sF (more_ 0 l) (sealL l) where
  rmore wx hk := keep_calls (rmore_n A l n c f sF wx hln (hr.below hk (Nat.le_refl _)) hf (by omega) hsF) hk
  more wx hk := keep_calls (more_n A l n c f sF wx hln (hT.keeps hk) (hr.below hk (Nat.le_refl _)) hf (by omega) hsF) hk
  zero wx hk := keep_calls (more_n A l n c 0 _ wx hln (hT.keeps hk) (hr.below hk (Nat.le_refl _)) (by decide) (by omega) rfl) hk
  sum wx hk := keep_calls (sum_n A l n c _ wx hln (hT.keeps hk) (hr.below hk (Nat.le_refl _)) (by omega) rfl) hk
  rseal wx hk := rseal_any A l n c wx hln (hr.below hk (Nat.le_refl _)) hA (by omega)
  head wx hk := keep_calls (head_any wx (hT.keeps hk)) hk

theorem one_byte (l : List UInt8) (i : Nat) (h : i < l.length) : (l.drop i).take 1 = [l[i]] := by
  rw [List.drop_eq_getElem_cons h]
  rfl

theorem more_next (s : Nat) (l : List UInt8) (i : Nat) (h : i < l.length) : more_ (more_ s (l.take i)) ((l.drop i).take 1) = more_ s (l.take (i + 1)) := by
  rw [one_byte l i h, List.take_succ_eq_append_getElem h, more_app]

set_option maxRecDepth 100000 in
set_option maxHeartbeats 4000000 in
theorem tells_small {T : TypeId} (A : Option Addr) (l : List UInt8) (n c f : Nat) (w : World) (hln : l.length = n) (hT : Tab w) (hr : Reads T w A l) (hA : A = none → c = 0) (hn : n ≤ 600) (hnc : n ≤ c) (hc : c ≤ 9223372036854775807) (hf : f < 4294967296) :
    Calls Tryd.prog 3 #[.slice A n c, .int .u32 (f : Int)] w fun e w' => e = .returned (.bool true) ∧ Below w.heap.size w w' := by
  have HT := Lib.hid hT
  have HR := Lib.hid hr
  have HA := Lib.hid hA
  have HLN := Lib.hid hln
  have hown := text_n A l n c w hln hr
  generalize hsl : (⟨l.toArray⟩ : ByteArray) = sl at *
  have HSL := Lib.hid hsl
  clear hT hr hA hsl hln
  go_enter Tryd.func3, Tryd.ntmps3
  go_wp2_with fail
  clear hown
  go_loopw [6, 7] (fun v i wr => ∃ k : Nat, k ≤ n ∧ i = .int .i64 k ∧ v = .int .u32 (more_ f (l.take k) : Int) ∧ Below w.heap.size w wr) (fun _ i _ => n - (intOf i).toNat)
  case atStart => exact ⟨0, by omega, rfl, by rw [List.take_zero]; unfold more_; rw [show bits [] = [] from rfl]; show Value.int .u32 (f : Int) = .int .u32 ((f ^^^ ones) ^^^ ones : Nat); rw [xor_back], Below.refl _ _⟩
  case round =>
    obtain ⟨k, hk, rfl, rfl, hb⟩ := hrel
    have HB := Lib.hid hb
    clear hb
    by_cases hlt : k < n
    · obtain ⟨g, off, rfl, _⟩ := HR.out.cell (j := k) (by rw [HLN.out]; exact hlt)
      have hck : ¬ c = k := by omega
      have HRK := Lib.hid (show Reads T wr (some ⟨g, off + k, none⟩) ((l.drop k).take 1) by
        have h := ((HR.out.below HB.out (Nat.le_refl _)).drop k c (by rw [HLN.out]; exact hnc)).take 1
        rw [if_neg hck, Option.map_some, Addr.add_lit] at h
        exact h)
      have HLK := Lib.hid (show ((l.drop k).take 1).length = 1 by rw [one_byte l k (by rw [HLN.out]; exact hlt)]; rfl)
      have HMK := Lib.hid (more_next f l k (by rw [HLN.out]; exact hlt))
      have HML := Lib.hid (more_lt f (l.take k) hf)
      generalize more_ f (l.take k) = s at *
      have hk0 : (0 : Int) ≤ (k : Int) := by omega
      have hkc : (k : Int) + 1 ≤ (c : Int) := by omega
      go_wp2_with fail
      refine (more_n _ ((l.drop k).take 1) 1 (c - k) s _ wr HLK.out (HT.out.keeps HB.out) HRK.out HML.out (by omega) HMK.out).mono ?_
      rintro e w1 ⟨rfl, hb1⟩
      have HN := Lib.hid (HB.out.trans (hb1.mono HB.out.size))
      clear hb1
      go_wp2_with fail
      go_roundw
      case rel => exact ⟨k + 1, by omega, by go_num, rfl, HN.out⟩
      case measure => simp [intOf]; omega
    · obtain rfl : k = n := by omega
      have htk : l.take k = l := List.take_of_length_le (by rw [HLN.out]; exact Nat.le_refl _)
      rw [htk]
      obtain ⟨sF, hsF⟩ : ∃ sF, more_ f l = sF := ⟨_, rfl⟩
      rw [hsF]
      have HSF := Lib.hid hsF
      clear htk hsF hlt hk
      obtain ⟨m, lo, fl, hlo, ho, hro⟩ := opens A l k c w HLN.out HT.out HR.out (by omega) hnc
      have HLO := Lib.hid hlo
      have HO := Lib.hid ho
      have HRO := Lib.hid hro
      clear hlo ho hro
      have HSE := Lib.hid (seal_n A l k c wr HLN.out (HT.out.keeps HB.out) (HR.out.below HB.out (Nat.le_refl _)) (by omega))
      have HZL := Lib.hid (show (sealL l).length = k + 4 by rw [sealL_length, HLN.out])
      obtain ⟨z, hz⟩ : ∃ z, sealL l = z := ⟨_, rfl⟩
      rw [hz] at HSE HZL
      have HZ := Lib.hid hz
      clear hz
      go_wp2_with fail
      refine HSE.out.mono ?_
      rintro e w1 ⟨gz, cz, rfl, _, hcz, hrz, hb1⟩
      have HB1 := Lib.hid (show Keep w w1 from HB.out.trans (hb1.mono HB.out.size))
      have HRZ1 := Lib.hid hrz
      clear hrz hb1 HSE
      go_wp2_with fail
      refine (HO.out w1 HB1.out).mono ?_
      rintro e w2 ⟨Ao, co, rfl, hro2, hb2⟩
      have HB2 := Lib.hid (HB1.out.step hb2)
      have HRZ2 := Lib.hid (HRZ1.out.below hb2 (Nat.le_refl _))
      have HRO2 := Lib.hid hro2
      clear hb2 hro2 HRZ1
      go_wp2_with fail
      refine (HRO.out w2 HB2.out).mono ?_
      rintro e w3 ⟨Aw, cw, rfl, hrw3, hb3⟩
      have HB3 := Lib.hid (HB2.out.step hb3)
      have HRZ3 := Lib.hid (HRZ2.out.below hb3 (Nat.le_refl _))
      have HRO3 := Lib.hid (HRO2.out.below hb3 (Nat.le_refl _))
      have HRW3 := Lib.hid hrw3
      clear hb3 hrw3 HRZ2 HRO2
      go_wp2_with fail
      refine (open_back (some ⟨gz, 0, none⟩) l k cz w3 HLN.out (HT.out.keeps HB3.out) (by rw [HZ.out]; exact HRZ3.out) (by omega) hcz).mono ?_
      rintro e w4 ⟨Ab, cb, rfl, hrb4, hb4⟩
      have HB4 := Lib.hid (HB3.out.step hb4)
      have HRZ4 := Lib.hid (HRZ3.out.below hb4 (Nat.le_refl _))
      have HRO4 := Lib.hid (HRO3.out.below hb4 (Nat.le_refl _))
      have HRW4 := Lib.hid (HRW3.out.below hb4 (Nat.le_refl _))
      have HRB4 := Lib.hid hrb4
      clear hb4 hrb4 HRZ3 HRO3 HRW3
      go_wp2_with fail
      have HTD := Lib.hid (told (W := w4) A l k c f sF HLN.out (HT.out.keeps HB4.out) (HR.out.below HB4.out (Nat.le_refl _)) HA.out (by omega) hf HSF.out)
      rw [HZ.out] at HTD
      generalize more_ 0 l = s0 at *
      have HC := Lib.hid (show ∀ wx, Keep w4 wx → (convert 22 9 (.slice (some ⟨gz, 0, none⟩) (k + 4) cz)).run Tryd.prog wx = .ok (.string ⟨z.toArray⟩) wx ∧ (convert 22 9 (.slice Ao m co)).run Tryd.prog wx = .ok (.string ⟨lo.toArray⟩) wx ∧
          (convert 22 9 (.slice Aw m cw)).run Tryd.prog wx = .ok (.string ⟨lo.toArray⟩) wx ∧ (convert 22 9 (.slice Ab k cb)).run Tryd.prog wx = .ok (.string ⟨l.toArray⟩) wx ∧ (convert 22 9 (.slice A k c)).run Tryd.prog wx = .ok (.string ⟨l.toArray⟩) wx from
        fun wx hk => ⟨text_n _ z (k + 4) cz wx HZL.out (HRZ4.out.below hk (Nat.le_refl _)), text_n Ao lo m co wx HLO.out (HRO4.out.below hk (Nat.le_refl _)), text_n Aw lo m cw wx HLO.out (HRW4.out.below hk (Nat.le_refl _)), text_n Ab l k cb wx HLN.out (HRB4.out.below hk (Nat.le_refl _)), text_n A l k c wx HLN.out ((HR.out.below HB4.out (Nat.le_refl _)).below hk (Nat.le_refl _))⟩)
      rw [HSL.out] at HC
      generalize (⟨lo.toArray⟩ : ByteArray) = so at *
      obtain ⟨sz, hsz⟩ : ∃ sz : ByteArray, ⟨z.toArray⟩ = sz := ⟨_, rfl⟩
      rw [hsz] at HC
      have HSZ := Lib.hid hsz
      have HC2 := Lib.hid (show ∀ wx, Keep w4 wx → Keep w4 wx ∧ (convert 22 9 (.slice (some ⟨gz, 0, none⟩) (k + 4) cz)).run Tryd.prog wx = .ok (.string sz) wx ∧ (convert 22 9 (.slice Ao m co)).run Tryd.prog wx = .ok (.string so) wx ∧
          (convert 22 9 (.slice Aw m cw)).run Tryd.prog wx = .ok (.string so) wx ∧ (convert 22 9 (.slice Ab k cb)).run Tryd.prog wx = .ok (.string sl) wx ∧ (convert 22 9 (.slice A k c)).run Tryd.prog wx = .ok (.string sl) wx from fun wx hk => ⟨hk, HC.out wx hk⟩)
      have hk0 : Keep w4 w4.drew := (Below.refl _ w4).drew
      clear hsz HRZ4 HRO4 HRW4 HRB4 HO HRO HLO HZL HSF HLN HA HR HT HZ HSL HC hnc hc hf hn
      go_region_held (fun wx => Keep w4 wx ∧ (convert 22 9 (.slice (some ⟨gz, 0, none⟩) (k + 4) cz)).run Tryd.prog wx = .ok (.string sz) wx ∧ (convert 22 9 (.slice Ao m co)).run Tryd.prog wx = .ok (.string so) wx ∧
          (convert 22 9 (.slice Aw m cw)).run Tryd.prog wx = .ok (.string so) wx ∧ (convert 22 9 (.slice Ab k cb)).run Tryd.prog wx = .ok (.string sl) wx ∧ (convert 22 9 (.slice A k c)).run Tryd.prog wx = .ok (.string sl) wx) (exact HC2.out _ (by assumption))
        (first
        | (go_at_call 12; refine (HTD.out.rmore _ (And.left (by assumption))).mono ?_; rintro e wa ⟨rfl, hka⟩)
        | (go_at_call 13; refine (HTD.out.sum _ (And.left (by assumption))).mono ?_; rintro e wc ⟨rfl, hkc⟩)
        | (go_at_call 8; ((with_reducible refine (HTD.out.more _ (And.left (by assumption))).mono ?_); rintro e wb ⟨rfl, hkb⟩))
        | (go_at_call 8; ((with_reducible refine (HTD.out.zero _ (And.left (by assumption))).mono ?_); rintro e wd ⟨rfl, hkd⟩))
        | (go_at_call 14; refine (HTD.out.rseal _ (And.left (by assumption))).mono ?_; rintro e ws ⟨gs, cs, rfl, hls, _, hrs, hbs⟩; have hks := Keep.step (And.left (by assumption)) hbs; have cs0 := text_n (some ⟨gs, 0, none⟩) z (k + 4) cs ws hls hrs; rw [HSZ.out] at cs0)
        | (go_at_call 7; refine (HTD.out.head _ (And.left (by assumption))).mono ?_; rintro e wh ⟨rfl, hkh⟩))
      go_wp2_with fail
      try go_frame
      go_ret
      exact ⟨rfl, HB4.out.step hkh⟩

end Go.Proofs.YthfmhfddgmojaaaDoor
