/-
  The head of the statements of package master.
-/
import Derived.Test.YtnmfgmlmjbfdcaaMasStage
namespace Go.Proofs.Ytnmfgmlmjbfdcaa
open Go.RowKit

abbrev m0 : MS := ⟨0, 0, [], false, []⟩
abbrev m1 : MS := ⟨1, 1, [97], false, []⟩
theorem head_pack : (tb (packT 1 [97] 64)).size = 64 ∧ (tb (packT 1 [97] 64)).extract 0 13 = ⟨#[0, 0, 0, 0, 0, 0, 0, 1, 0, 0, 0, 1, 97]⟩ ∧ packE 1 1 64 = 0 := by
  refine ⟨?_, ?_, by rfl⟩
  · rw [tb_size]; kernel_rfl
  · rw [tb_cut]; kernel_rfl
theorem put_way {W w : World} {p a : Value} {nb ns t : Nat} {m : MS} {s : List UInt8} (h : MsP W p a (MW nb ns m t s) w) (c : List UInt8) (hc : c.length ≤ 1000000) :
    Calls Try.prog 30 #[a, .string (tb c)] w fun e w' => e = .returned (.int .i64 9) ∧ MsP W p a (MW nb ns m t s) w' :=
  h.putNo c 9 (by omega) (fun x hx => by rw [hx.1.pend]; decide) (by decide) fun x hx => by
    unfold DV.putE
    rw [hx.2]
    exact if_pos rfl
theorem put_far {W w : World} {p a : Value} {nb ns t : Nat} {m : MS} (h : MsP W p a (MI nb ns m t) w) (c : List UInt8) (hc : c.length ≤ 1000000) (hl : ns * 56 < c.length + 4) :
    Calls Try.prog 30 #[a, .string (tb c)] w fun e w' => e = .returned (.int .i64 3) ∧ MsP W p a (MI nb ns m t) w' :=
  h.putNo c 3 (by omega) (fun x hx => hx.1.pend) (by decide) fun x hx => by rw [hx.2]; exact hx.1.putLong hl
theorem crash_nothing {W w : World} {p a : Value} {nb ns t : Nat} {m : MS} {s : List UInt8} (h : MsP W p a (MW nb ns m t s) w) :
    Calls Try.prog 26 #[p, .slice none 0 0] w fun e w' => e = .returned (.tuple #[]) ∧ DvP W p (DI nb ns m t) w' :=
  (h.dev (I := WI nb ns m t s) fun _ _ hx => hx.1).crash (old_nil W) 0 fun _ _ _ hd => hd.lostAll

set_option maxRecDepth 100000 in
set_option maxHeartbeats 8000000 in
theorem head_any (w : World) : Calls Try.prog 9 #[] w fun e w' => e = .returned (.bool true) ∧ Below w.heap.size w w' := by
  have HN := Lib.hid (show Calls Try.prog 16 #[.int .i64 2, .int .i64 1] w _ from DvP.new 2 1 w (by decide) (by decide) (by decide) (by decide))
  obtain ⟨hp1, hp2, hp3⟩ := head_pack
  have HPK := Lib.hid (show ∀ wx, Calls Try.prog 10 #[.int .u64 1, .string ⟨#[97]⟩, .int .i64 64] wx fun e w' => e = .returned (.tuple #[.string (tb (packT 1 [97] 64)), .int .i64 0]) ∧ Below wx.heap.size wx w' from fun wx => pack_any 1 ⟨#[97]⟩ 64 wx (by decide) (by decide) (by decide) (by decide))
  obtain ⟨X, hX⟩ : ∃ X, tb (packT 1 [97] 64) = X := ⟨_, rfl⟩
  rw [hX] at hp1 hp2 HPK
  clear hX hp3
  obtain ⟨o, hmk, hcv⟩ := zeros_made 53 (by decide) 53 rfl
  obtain ⟨L, hL⟩ : ∃ L, rep 0 53 = L := ⟨_, rfl⟩
  have HL1 := Lib.hid (show L = tb (List.replicate 53 0) from hL.symm)
  have HL2 := Lib.hid (show L.extract 0 52 = tb (List.replicate 52 0) by rw [← hL, show rep 0 53 = tb (List.replicate 53 0) from rfl, tb_cut]; rfl)
  have hL3 : L.size = 53 := by rw [← hL]; exact rep_size 0 53
  rw [hL] at hcv
  clear hL
  go_enter Try.func9, Try.ntmps9
  go_wp2_with fail
  refine HN.out.mono ?_
  rintro e w1 ⟨A, rfl, hd⟩
  have HD1 := Lib.hid (hd.imp fun d hi hx => DI.new hi hx.1 hx.2.1 hx.2.2.1 hx.2.2.2.1 hx.2.2.2.2 (by decide))
  clear hd HN
  have HO := Lib.hid (HD1.out.opens (by decide))
  go_wp2_with fail
  refine HO.out.mono ?_
  rintro e w2 ⟨B, rfl, hm⟩
  have HM2 := Lib.hid hm
  clear hm HO HD1
  go_wp2_with fail
  refine (HPK.out w2).mono ?_
  rintro e w3 ⟨rfl, hb3⟩
  have HM3 := Lib.hid (HM2.out.keeps hb3)
  have HC := Lib.hid (show Calls Try.prog 30 #[.pointer (some ⟨B, 0, none⟩), .string ⟨#[97]⟩] w3 _ from HM3.out.begin (s := [97]) (by decide) (by decide) (by decide) (by decide))
  clear hb3 HM2 HPK HM3
  go_wp2_with fail
  refine HC.out.mono ?_
  rintro e w4 ⟨rfl, hm4⟩
  have HM4 := Lib.hid hm4
  clear hm4 HC
  have HC := Lib.hid (show Calls Try.prog 20 #[.pointer (some ⟨B, 0, none⟩)] w4 fun e w' => e = .returned (.string ⟨#[]⟩) ∧ w4 = w' from HM4.out.data_ [] (fun x hx => by rw [hx.2]; rfl))
  go_wp2_with fail
  refine HC.out.mono ?_
  rintro e w5 ⟨rfl, rfl⟩
  clear HC
  have HC := Lib.hid (HM4.out.finish (by decide))
  clear HM4
  go_wp2_with fail
  refine HC.out.mono ?_
  rintro e w5 ⟨rfl, hm5⟩
  have HM5 := Lib.hid (show MsP w (.pointer (some ⟨A, 0, none⟩)) (.pointer (some ⟨B, 0, none⟩)) (MI 2 1 m1 1) w5 from hm5)
  clear hm5 HC
  have HC := Lib.hid (show Calls Try.prog 30 #[.pointer (some ⟨B, 0, none⟩), .string ⟨#[98]⟩] w5 _ from HM5.out.begin (s := [98]) (by decide) (by decide) (by decide) (by decide))
  clear HM5
  go_wp2_with fail
  refine HC.out.mono ?_
  rintro e w6 ⟨rfl, hm6⟩
  have HM6 := Lib.hid hm6
  clear hm6 HC
  have HC := Lib.hid (show Calls Try.prog 30 #[.pointer (some ⟨B, 0, none⟩), .string ⟨#[99]⟩] w6 _ from put_way HM6.out [99] (by decide))
  clear HM6
  go_wp2_with fail
  refine HC.out.mono ?_
  rintro e w7 ⟨rfl, hm7⟩
  have HM7 := Lib.hid hm7
  clear hm7 HC
  have HC := Lib.hid (show Calls Try.prog 20 #[.pointer (some ⟨B, 0, none⟩)] w7 fun e w' => e = .returned (.string ⟨#[97]⟩) ∧ w7 = w' from HM7.out.data_ [97] (fun x hx => by rw [hx.2]; rfl))
  have HC2 := Lib.hid (show Calls Try.prog 21 #[.pointer (some ⟨B, 0, none⟩)] w7 fun e w' => e = .returned (.int .u64 1) ∧ w7 = w' from HM7.out.version_ 1 (fun x hx => by rw [hx.2]; rfl))
  have HCR := Lib.hid (crash_nothing HM7.out)
  clear HM7
  go_wp2_with fail
  refine HC.out.mono ?_
  rintro e w8 ⟨rfl, rfl⟩
  go_wp2_with fail
  refine HC2.out.mono ?_
  rintro e w8 ⟨rfl, rfl⟩
  clear HC HC2
  go_wp2_with fail
  refine HCR.out.mono ?_
  rintro e w8 ⟨rfl, hd8⟩
  have HO := Lib.hid (hd8.opens (by decide))
  clear hd8 HCR
  go_wp2_with fail
  refine HO.out.mono ?_
  rintro e w9 ⟨C, rfl, hm⟩
  have HMo := Lib.hid (hm.keeps ((Below.refl _ _).alloc (Nat.le_refl _) o))
  obtain ⟨wa, hwa⟩ : ∃ wa, w9.alloc o = wa := ⟨_, rfl⟩
  obtain ⟨wb, hwb⟩ : ∃ wb, wa.drew = wb := ⟨_, rfl⟩
  have HMb := Lib.hid (show MsP w (.pointer (some ⟨A, 0, none⟩)) (.pointer (some ⟨C, 0, none⟩)) (MI 2 1 m1 1) wb from hwb ▸ hwa ▸ HMo.out.keeps (Below.refl _ _).drew)
  have HC1 := Lib.hid (put_far HMb.out (List.replicate 53 0) (by decide) (by decide))
  rw [← HL1.out] at HC1
  have HC2 := Lib.hid (show ∀ wx, MsP w (.pointer (some ⟨A, 0, none⟩)) (.pointer (some ⟨C, 0, none⟩)) (MI 2 1 m1 1) wx → Calls Try.prog 30 #[.pointer (some ⟨C, 0, none⟩), .string (tb (List.replicate 52 0))] wx _ from fun wx hx => hx.begin (s := List.replicate 52 0) (by decide) (by decide) (by decide) (by decide))
  rw [← HL2.out] at HC2
  have HWA := Lib.hid hwa
  have HWB := Lib.hid hwb
  clear hm HO HMo HMb hwa hwb HL1 HL2
  have hHeld := True.intro
  go_wp2_with fail
  rw [HWA.out]
  refine wp_region_noPanic ?_
  refine wp_region_sch (fun _ => True) (fun i => [2, 6].contains i)
    (.takes [0, 1, 3, 4, 5] (.run 2 (.run 6 (.takes [7, 8] .done)))) (by kernel_rfl) (fun _ _ _ _ _ h => h) (by kernel_rfl) ?_
  rw [HWB.out]
  iterate 5 (
    refine sch_takes_cons ?_
    first
      | (refine sch_take (v := ?_) rfl (by assumption) (by rfl) ?_ ?_; rotate_left; (focus (intro wy hSy; (try dsimp only at hSy); go_simp; (try with_reducible rfl))))
      | (refine sch_pass rfl (by assumption) (by rfl) ?_)
    simp only [Act.put, List.setIfInBounds_toArray, List.set_cons_zero, List.set_cons_succ])
  refine sch_takes_nil ?_
  refine sch_run rfl (fun K hK => ?_)
  go_simp
  with_reducible refine HC1.out.mono ?_
  rintro e wc ⟨rfl, hmc⟩
  have HCX := Lib.hid (HC2.out wc hmc)
  clear hmc HC1 HC2
  refine hK.out _ _ (fun _ => hHeld) ?_
  clear hK K
  try simp only [Act.put, List.setIfInBounds_toArray, List.set_cons_zero, List.set_cons_succ]
  refine sch_run rfl (fun K hK => ?_)
  go_simp
  with_reducible refine HCX.out.mono ?_
  rintro e wd ⟨rfl, hmd⟩
  have HMd := Lib.hid hmd
  clear hmd HCX
  refine hK.out _ _ (fun _ => hHeld) ?_
  clear hK K
  try simp only [Act.put, List.setIfInBounds_toArray, List.set_cons_zero, List.set_cons_succ]
  iterate 2 (
    refine sch_takes_cons ?_
    first
      | (refine sch_take (v := ?_) rfl (by assumption) (by rfl) ?_ ?_; rotate_left; (focus (intro wy hSy; (try dsimp only at hSy); go_simp; (try with_reducible rfl))))
      | (refine sch_pass rfl (by assumption) (by rfl) ?_)
    simp only [Act.put, List.setIfInBounds_toArray, List.set_cons_zero, List.set_cons_succ])
  refine sch_takes_nil ?_
  refine sch_done ?_
  refine NoPanic.normal ?_
  clear hHeld
  have HC := Lib.hid (show Calls Try.prog 20 #[.pointer (some ⟨C, 0, none⟩)] wd fun e w' => e = .returned (.string ⟨#[97]⟩) ∧ wd = w' from HMd.out.data_ [97] (fun x hx => by rw [hx.2]; rfl))
  have HC2 := Lib.hid (show Calls Try.prog 21 #[.pointer (some ⟨C, 0, none⟩)] wd fun e w' => e = .returned (.int .u64 1) ∧ wd = w' from HMd.out.version_ 1 (fun x hx => by rw [hx.2]; rfl))
  have HBE := Lib.hid HMd.out.below
  clear HMd
  go_wp2_with fail
  refine HC.out.mono ?_
  rintro e we ⟨rfl, rfl⟩
  go_wp2_with fail
  refine HC2.out.mono ?_
  rintro e we ⟨rfl, rfl⟩
  go_wp2_with fail
  go_ret
  exact ⟨rfl, HBE.out⟩
end Go.Proofs.Ytnmfgmlmjbfdcaa
