/-
  The walks over the document's answer for package record, part B: a record, written.
-/
import Derived.Test.YtlhcacancnmhcaaDoorRecDocA
namespace Go.Proofs.YtlhcacancnmhcaaDoor
open Go.RowKit

set_option maxRecDepth 100000 in
set_option maxHeartbeats 2000000 in
theorem rone_any (r : Rec) (w : World) (hr : r.d.length ≤ 40000) :
    Calls Tryd.prog 19 #[recV r] w fun e w' => e = .returned (.string (tb (one r))) ∧ Below w.heap.size w w' := by
  have HX := Lib.hid (show tb (headR r) ++ tb (sealL r.d) = tb (one r) from by rw [tb_app]; rfl)
  have hz1 : (tb (headR r)).size = 9 := by rw [tb_size, headR_length]
  have hz2 : (tb (sealL r.d)).size = r.d.length + 4 := by rw [tb_size, sealL_length]
  obtain ⟨o, ho⟩ : ∃ o, w.alloc (.cells #[.int .u8 (r.k.toNat : Int), .string (tb r.d)] 36) = o := ⟨_, rfl⟩
  obtain ⟨W, hW⟩ : ∃ W, o.drew = W := ⟨_, rfl⟩
  have HB0 := Lib.hid (show Below w.heap.size w W by rw [← hW, ← ho]; exact ((Below.refl _ _).alloc (Nat.le_refl _) _).drew)
  have hrow : Row W w.heap.size 36 [.int .u8 (r.k.toNat : Int), .string (tb r.d)] (0, 0) := by rw [← hW, ← ho]; exact Row.new w 36 [.int .u8 (r.k.toNat : Int), .string (tb r.d)] (0, 0)
  have HC := Lib.hid (show ∀ wx, Below W.heap.size W wx → wx.cell? ⟨w.heap.size, 0, none⟩ = some (.int .u8 (r.k.toNat : Int)) ∧ wx.cell? ⟨w.heap.size, 1, none⟩ = some (.string (tb r.d)) from fun wx hb => by
    have h := hrow.below hb hrow.lt
    exact ⟨by rw [h.cell]; rfl, by rw [h.cell]; rfl⟩)
  have hHeld := HC.out W (Below.refl _ _)
  have HH := Lib.hid (fun wx (hb : Below W.heap.size W wx) => show Calls Tryd.prog 27 #[.agg #[.int .u8 (r.k.toNat : Int), .string (tb r.d)]] wx fun e w' => ∃ A c, e = .returned (.slice A 9 c) ∧ Reads 5 w' A (headR r) ∧ Below W.heap.size W w' ∧ Below wx.heap.size wx w' from
    (rhead_any r wx (by omega)).mono fun e w' ⟨A, c, h1, _, _, h4, h5⟩ => ⟨A, c, h1, h4, hb.trans (h5.mono hb.size), h5⟩)
  have HS := Lib.hid (fun (wx : World) (A : Option Addr) (c n : Nat) (hn : r.d.length = n) (hrd : Reads 5 wx A r.d) (hA : A = none → c = 0) (hb : Below W.heap.size W wx) => show Calls Tryd.prog 22 #[.slice A n c] wx fun e w' => ∃ g c', e = .returned (.slice (some ⟨g, 0, none⟩) (n + 4) c') ∧ Reads 5 w' (some ⟨g, 0, none⟩) (sealL r.d) ∧ Below W.heap.size W w' ∧ Below wx.heap.size wx w' from
    (rseal_any A r.d n c wx hn hrd hA (by omega)).mono fun e w' ⟨g, c', h1, _, _, h4, h5⟩ => ⟨g, c', h1, h4, hb.trans (h5.mono hb.size), h5⟩)
  obtain ⟨wF, cF, hcv, hcF⟩ := conv_tb r.d
  have HCF := Lib.hid hcF
  have HL1 := Lib.hid (headR_length r)
  have HL2 := Lib.hid (show (sealL r.d).length = r.d.length + 4 from sealL_length r.d)
  obtain ⟨n, hn⟩ : ∃ n, r.d.length = n := ⟨_, rfl⟩
  have HN := Lib.hid hn
  rw [hn] at HL2
  simp only [hn] at hcv hz2 hr
  have HT1 := Lib.hid (fun (A : Option Addr) (c : Nat) (wx : World) (h : Reads 5 wx A (headR r)) => show (convert 47 9 (.slice A 9 c)).run Tryd.prog wx = .ok (.string (tb (headR r))) wx from text_n A (headR r) 9 c wx HL1.out h)
  have HT2 := Lib.hid (fun (A : Option Addr) (c : Nat) (wx : World) (h : Reads 5 wx A (sealL r.d)) => show (convert 47 9 (.slice A (n + 4) c)).run Tryd.prog wx = .ok (.string (tb (sealL r.d))) wx from text_n A (sealL r.d) (n + 4) c wx HL2.out h)
  have hcat : ¬ 9223372036854775807 < 9 + (n + 4) := by omega
  generalize tb (one r) = X at *
  generalize hY : tb (headR r) = Y at *
  generalize hZ : tb (sealL r.d) = Z at *
  generalize headR r = H at *
  generalize sealL r.d = SD at *
  unfold recV
  generalize r.d = d at *
  generalize r.k.toNat = q at *
  clear hn hrow hcF hY hZ
  go_enter Tryd.func19, Tryd.ntmps19
  go_wp2_with fail
  refine wp_region_noPanic ?_
  refine wp_region_sch (fun wx => wx.cell? ⟨w.heap.size, 0, none⟩ = some (.int .u8 (q : Int)) ∧ wx.cell? ⟨w.heap.size, 1, none⟩ = some (.string (tb d))) (fun i => [1, 2, 5, 6, 7].contains i)
    (.takes [0, 3, 4] (.fork [1, 5] (fun k => if k = 1 then (.fork [2, 5] (fun k => if k = 2 then (.run 5 (.run 6 (.run 7 (.takes [8, 9] .done)))) else (.fork [2, 6] (fun k => if k = 2 then (.run 6 (.run 7 (.takes [8, 9] .done))) else (.fork [2, 7] (fun k => if k = 2 then (.run 7 (.takes [8, 9] .done)) else (.run 2 (.takes [8, 9] .done)))))))) else (.run 1 (.fork [2, 6] (fun k => if k = 2 then (.run 6 (.run 7 (.takes [8, 9] .done))) else (.fork [2, 7] (fun k => if k = 2 then (.run 7 (.takes [8, 9] .done)) else (.run 2 (.takes [8, 9] .done)))))))))) (by kernel_rfl) (fun _ _ _ _ _ h => h) (by kernel_rfl) ?_
  rw [hW]
  clear hW ho
  have hb0 : Below W.heap.size W W := Below.refl _ _
  iterate 3 (
    refine sch_takes_cons ?_
    first
      | (refine sch_take (v := ?_) rfl (by assumption) (by rfl) ?_ ?_; rotate_left; (focus (intro wy hSy; (try dsimp only at hSy); go_simp; (try with_reducible rfl))))
      | (refine sch_pass rfl (by assumption) (by rfl) ?_)
    simp only [Act.put, List.setIfInBounds_toArray, List.set_cons_zero, List.set_cons_succ])
  refine sch_takes_nil ?_
  refine sch_fork rfl (fun K hK => ?_) (sch_fork rfl (fun K hK => ?_) sch_fork_nil)
  · go_simp
    with_reducible refine (HH.out _ hb0).mono ?_
    rintro e w1 ⟨A1, c1, rfl, r1_1, hb1, hm1⟩
    have hHeld := HC.out _ hb1
    try dsimp only
    refine hK.out _ _ (fun _ => hHeld) ?_
    clear hK K
    change wpSch _ _ _ _ _ _ (.fork [2, 5] (fun k => if k = 2 then (.run 5 (.run 6 (.run 7 (.takes [8, 9] .done)))) else (.fork [2, 6] (fun k => if k = 2 then (.run 6 (.run 7 (.takes [8, 9] .done))) else (.fork [2, 7] (fun k => if k = 2 then (.run 7 (.takes [8, 9] .done)) else (.run 2 (.takes [8, 9] .done)))))))) _ _
    try simp only [Act.put, List.setIfInBounds_toArray, List.set_cons_zero, List.set_cons_succ]
    refine sch_fork rfl (fun K hK => ?_) (sch_fork rfl (fun K hK => ?_) sch_fork_nil)
    · have ht2 := HT1.out A1 c1 w1 r1_1
      go_simp
      refine hK.out _ _ (fun _ => hHeld) ?_
      clear hK K
      change wpSch _ _ _ _ _ _ (.run 5 (.run 6 (.run 7 (.takes [8, 9] .done)))) _ _
      try simp only [Act.put, List.setIfInBounds_toArray, List.set_cons_zero, List.set_cons_succ]
      refine sch_run rfl (fun K hK => ?_)
      go_simp
      obtain ⟨r5_3, hm3, _⟩ := HCF.out w1
      have hb3 := hb1.trans (hm3.mono hb1.size)
      generalize hcc3 : cF w1 = cc3 at *
      generalize hww3 : wF w1 = w3 at *
      have r1_4 := r1_1.below hm3 (Nat.le_refl _)
      have hHeld := HC.out _ hb3
      refine hK.out _ _ (fun _ => hHeld) ?_
      clear hK K
      try simp only [Act.put, List.setIfInBounds_toArray, List.set_cons_zero, List.set_cons_succ]
      refine sch_run rfl (fun K hK => ?_)
      go_simp
      with_reducible refine (HS.out _ (some ⟨w1.heap.size, 0, none⟩) cc3 n HN.out r5_3 (fun e => by cases e) hb3).mono ?_
      rintro e w5 ⟨g5, c5, rfl, r6_5, hb5, hm5⟩
      have r1_6 := r1_4.below hm5 (Nat.le_refl _)
      have r5_7 := r5_3.below hm5 (Nat.le_refl _)
      have hHeld := HC.out _ hb5
      try dsimp only
      refine hK.out _ _ (fun _ => hHeld) ?_
      clear hK K
      try simp only [Act.put, List.setIfInBounds_toArray, List.set_cons_zero, List.set_cons_succ]
      refine sch_run rfl (fun K hK => ?_)
      have ht8 := HT2.out (some ⟨g5, 0, none⟩) c5 w5 r6_5
      go_simp
      refine hK.out _ _ (fun _ => hHeld) ?_
      clear hK K
      try simp only [Act.put, List.setIfInBounds_toArray, List.set_cons_zero, List.set_cons_succ]
      iterate 2 (
        refine sch_takes_cons ?_
        first
          | (refine sch_take (v := ?_) rfl (by assumption) (by rfl) ?_ ?_; rotate_left; (focus (intro wy hSy; (try dsimp only at hSy); go_simp; (try with_reducible rfl))))
          | (refine sch_pass rfl (by assumption) (by rfl) ?_)
        simp only [Act.put, List.setIfInBounds_toArray, List.set_cons_zero, List.set_cons_succ])
      refine sch_takes_nil ?_
      refine sch_done ?_
      refine NoPanic.normal ?_
      have HE := Lib.hid hb5
      clear hb5
      go_wp2
      go_ret
      exact ⟨by rw [← HX.out]; rfl, HB0.out.trans (HE.out.mono HB0.out.size)⟩
    · go_simp
      obtain ⟨r5_9, hm9, _⟩ := HCF.out w1
      have hb9 := hb1.trans (hm9.mono hb1.size)
      generalize hcc9 : cF w1 = cc9 at *
      generalize hww9 : wF w1 = w9 at *
      have r1_10 := r1_1.below hm9 (Nat.le_refl _)
      have hHeld := HC.out _ hb9
      refine hK.out _ _ (fun _ => hHeld) ?_
      clear hK K
      change wpSch _ _ _ _ _ _ (.fork [2, 6] (fun k => if k = 2 then (.run 6 (.run 7 (.takes [8, 9] .done))) else (.fork [2, 7] (fun k => if k = 2 then (.run 7 (.takes [8, 9] .done)) else (.run 2 (.takes [8, 9] .done)))))) _ _
      try simp only [Act.put, List.setIfInBounds_toArray, List.set_cons_zero, List.set_cons_succ]
      refine sch_fork rfl (fun K hK => ?_) (sch_fork rfl (fun K hK => ?_) sch_fork_nil)
      · have ht11 := HT1.out A1 c1 w9 r1_10
        go_simp
        refine hK.out _ _ (fun _ => hHeld) ?_
        clear hK K
        change wpSch _ _ _ _ _ _ (.run 6 (.run 7 (.takes [8, 9] .done))) _ _
        try simp only [Act.put, List.setIfInBounds_toArray, List.set_cons_zero, List.set_cons_succ]
        refine sch_run rfl (fun K hK => ?_)
        go_simp
        with_reducible refine (HS.out _ (some ⟨w1.heap.size, 0, none⟩) cc9 n HN.out r5_9 (fun e => by cases e) hb9).mono ?_
        rintro e w12 ⟨g12, c12, rfl, r6_12, hb12, hm12⟩
        have r1_13 := r1_10.below hm12 (Nat.le_refl _)
        have r5_14 := r5_9.below hm12 (Nat.le_refl _)
        have hHeld := HC.out _ hb12
        try dsimp only
        refine hK.out _ _ (fun _ => hHeld) ?_
        clear hK K
        try simp only [Act.put, List.setIfInBounds_toArray, List.set_cons_zero, List.set_cons_succ]
        refine sch_run rfl (fun K hK => ?_)
        have ht15 := HT2.out (some ⟨g12, 0, none⟩) c12 w12 r6_12
        go_simp
        refine hK.out _ _ (fun _ => hHeld) ?_
        clear hK K
        try simp only [Act.put, List.setIfInBounds_toArray, List.set_cons_zero, List.set_cons_succ]
        iterate 2 (
          refine sch_takes_cons ?_
          first
            | (refine sch_take (v := ?_) rfl (by assumption) (by rfl) ?_ ?_; rotate_left; (focus (intro wy hSy; (try dsimp only at hSy); go_simp; (try with_reducible rfl))))
            | (refine sch_pass rfl (by assumption) (by rfl) ?_)
          simp only [Act.put, List.setIfInBounds_toArray, List.set_cons_zero, List.set_cons_succ])
        refine sch_takes_nil ?_
        refine sch_done ?_
        refine NoPanic.normal ?_
        have HE := Lib.hid hb12
        clear hb12
        go_wp2
        go_ret
        exact ⟨by rw [← HX.out]; rfl, HB0.out.trans (HE.out.mono HB0.out.size)⟩
      · go_simp
        with_reducible refine (HS.out _ (some ⟨w1.heap.size, 0, none⟩) cc9 n HN.out r5_9 (fun e => by cases e) hb9).mono ?_
        rintro e w16 ⟨g16, c16, rfl, r6_16, hb16, hm16⟩
        have r1_17 := r1_10.below hm16 (Nat.le_refl _)
        have r5_18 := r5_9.below hm16 (Nat.le_refl _)
        have hHeld := HC.out _ hb16
        try dsimp only
        refine hK.out _ _ (fun _ => hHeld) ?_
        clear hK K
        change wpSch _ _ _ _ _ _ (.fork [2, 7] (fun k => if k = 2 then (.run 7 (.takes [8, 9] .done)) else (.run 2 (.takes [8, 9] .done)))) _ _
        try simp only [Act.put, List.setIfInBounds_toArray, List.set_cons_zero, List.set_cons_succ]
        refine sch_fork rfl (fun K hK => ?_) (sch_fork rfl (fun K hK => ?_) sch_fork_nil)
        · have ht19 := HT1.out A1 c1 w16 r1_17
          go_simp
          refine hK.out _ _ (fun _ => hHeld) ?_
          clear hK K
          change wpSch _ _ _ _ _ _ (.run 7 (.takes [8, 9] .done)) _ _
          try simp only [Act.put, List.setIfInBounds_toArray, List.set_cons_zero, List.set_cons_succ]
          refine sch_run rfl (fun K hK => ?_)
          have ht20 := HT2.out (some ⟨g16, 0, none⟩) c16 w16 r6_16
          go_simp
          refine hK.out _ _ (fun _ => hHeld) ?_
          clear hK K
          try simp only [Act.put, List.setIfInBounds_toArray, List.set_cons_zero, List.set_cons_succ]
          iterate 2 (
            refine sch_takes_cons ?_
            first
              | (refine sch_take (v := ?_) rfl (by assumption) (by rfl) ?_ ?_; rotate_left; (focus (intro wy hSy; (try dsimp only at hSy); go_simp; (try with_reducible rfl))))
              | (refine sch_pass rfl (by assumption) (by rfl) ?_)
            simp only [Act.put, List.setIfInBounds_toArray, List.set_cons_zero, List.set_cons_succ])
          refine sch_takes_nil ?_
          refine sch_done ?_
          refine NoPanic.normal ?_
          have HE := Lib.hid hb16
          clear hb16
          go_wp2
          go_ret
          exact ⟨by rw [← HX.out]; rfl, HB0.out.trans (HE.out.mono HB0.out.size)⟩
        · have ht21 := HT2.out (some ⟨g16, 0, none⟩) c16 w16 r6_16
          go_simp
          refine hK.out _ _ (fun _ => hHeld) ?_
          clear hK K
          change wpSch _ _ _ _ _ _ (.run 2 (.takes [8, 9] .done)) _ _
          try simp only [Act.put, List.setIfInBounds_toArray, List.set_cons_zero, List.set_cons_succ]
          refine sch_run rfl (fun K hK => ?_)
          have ht22 := HT1.out A1 c1 w16 r1_17
          go_simp
          refine hK.out _ _ (fun _ => hHeld) ?_
          clear hK K
          try simp only [Act.put, List.setIfInBounds_toArray, List.set_cons_zero, List.set_cons_succ]
          iterate 2 (
            refine sch_takes_cons ?_
            first
              | (refine sch_take (v := ?_) rfl (by assumption) (by rfl) ?_ ?_; rotate_left; (focus (intro wy hSy; (try dsimp only at hSy); go_simp; (try with_reducible rfl))))
              | (refine sch_pass rfl (by assumption) (by rfl) ?_)
            simp only [Act.put, List.setIfInBounds_toArray, List.set_cons_zero, List.set_cons_succ])
          refine sch_takes_nil ?_
          refine sch_done ?_
          refine NoPanic.normal ?_
          have HE := Lib.hid hb16
          clear hb16
          go_wp2
          go_ret
          exact ⟨by rw [← HX.out]; rfl, HB0.out.trans (HE.out.mono HB0.out.size)⟩
  · go_simp
    obtain ⟨r5_23, hm23, _⟩ := HCF.out W
    have hb23 := hb0.trans (hm23.mono hb0.size)
    generalize hcc23 : cF W = cc23 at *
    generalize hww23 : wF W = w23 at *
    have hHeld := HC.out _ hb23
    refine hK.out _ _ (fun _ => hHeld) ?_
    clear hK K
    change wpSch _ _ _ _ _ _ (.run 1 (.fork [2, 6] (fun k => if k = 2 then (.run 6 (.run 7 (.takes [8, 9] .done))) else (.fork [2, 7] (fun k => if k = 2 then (.run 7 (.takes [8, 9] .done)) else (.run 2 (.takes [8, 9] .done))))))) _ _
    try simp only [Act.put, List.setIfInBounds_toArray, List.set_cons_zero, List.set_cons_succ]
    refine sch_run rfl (fun K hK => ?_)
    go_simp
    with_reducible refine (HH.out _ hb23).mono ?_
    rintro e w24 ⟨A24, c24, rfl, r1_24, hb24, hm24⟩
    have r5_25 := r5_23.below hm24 (Nat.le_refl _)
    have hHeld := HC.out _ hb24
    try dsimp only
    refine hK.out _ _ (fun _ => hHeld) ?_
    clear hK K
    try simp only [Act.put, List.setIfInBounds_toArray, List.set_cons_zero, List.set_cons_succ]
    refine sch_fork rfl (fun K hK => ?_) (sch_fork rfl (fun K hK => ?_) sch_fork_nil)
    · have ht26 := HT1.out A24 c24 w24 r1_24
      go_simp
      refine hK.out _ _ (fun _ => hHeld) ?_
      clear hK K
      change wpSch _ _ _ _ _ _ (.run 6 (.run 7 (.takes [8, 9] .done))) _ _
      try simp only [Act.put, List.setIfInBounds_toArray, List.set_cons_zero, List.set_cons_succ]
      refine sch_run rfl (fun K hK => ?_)
      go_simp
      with_reducible refine (HS.out _ (some ⟨W.heap.size, 0, none⟩) cc23 n HN.out r5_25 (fun e => by cases e) hb24).mono ?_
      rintro e w27 ⟨g27, c27, rfl, r6_27, hb27, hm27⟩
      have r1_28 := r1_24.below hm27 (Nat.le_refl _)
      have r5_29 := r5_25.below hm27 (Nat.le_refl _)
      have hHeld := HC.out _ hb27
      try dsimp only
      refine hK.out _ _ (fun _ => hHeld) ?_
      clear hK K
      try simp only [Act.put, List.setIfInBounds_toArray, List.set_cons_zero, List.set_cons_succ]
      refine sch_run rfl (fun K hK => ?_)
      have ht30 := HT2.out (some ⟨g27, 0, none⟩) c27 w27 r6_27
      go_simp
      refine hK.out _ _ (fun _ => hHeld) ?_
      clear hK K
      try simp only [Act.put, List.setIfInBounds_toArray, List.set_cons_zero, List.set_cons_succ]
      iterate 2 (
        refine sch_takes_cons ?_
        first
          | (refine sch_take (v := ?_) rfl (by assumption) (by rfl) ?_ ?_; rotate_left; (focus (intro wy hSy; (try dsimp only at hSy); go_simp; (try with_reducible rfl))))
          | (refine sch_pass rfl (by assumption) (by rfl) ?_)
        simp only [Act.put, List.setIfInBounds_toArray, List.set_cons_zero, List.set_cons_succ])
      refine sch_takes_nil ?_
      refine sch_done ?_
      refine NoPanic.normal ?_
      have HE := Lib.hid hb27
      clear hb27
      go_wp2
      go_ret
      exact ⟨by rw [← HX.out]; rfl, HB0.out.trans (HE.out.mono HB0.out.size)⟩
    · go_simp
      with_reducible refine (HS.out _ (some ⟨W.heap.size, 0, none⟩) cc23 n HN.out r5_25 (fun e => by cases e) hb24).mono ?_
      rintro e w31 ⟨g31, c31, rfl, r6_31, hb31, hm31⟩
      have r1_32 := r1_24.below hm31 (Nat.le_refl _)
      have r5_33 := r5_25.below hm31 (Nat.le_refl _)
      have hHeld := HC.out _ hb31
      try dsimp only
      refine hK.out _ _ (fun _ => hHeld) ?_
      clear hK K
      change wpSch _ _ _ _ _ _ (.fork [2, 7] (fun k => if k = 2 then (.run 7 (.takes [8, 9] .done)) else (.run 2 (.takes [8, 9] .done)))) _ _
      try simp only [Act.put, List.setIfInBounds_toArray, List.set_cons_zero, List.set_cons_succ]
      refine sch_fork rfl (fun K hK => ?_) (sch_fork rfl (fun K hK => ?_) sch_fork_nil)
      · have ht34 := HT1.out A24 c24 w31 r1_32
        go_simp
        refine hK.out _ _ (fun _ => hHeld) ?_
        clear hK K
        change wpSch _ _ _ _ _ _ (.run 7 (.takes [8, 9] .done)) _ _
        try simp only [Act.put, List.setIfInBounds_toArray, List.set_cons_zero, List.set_cons_succ]
        refine sch_run rfl (fun K hK => ?_)
        have ht35 := HT2.out (some ⟨g31, 0, none⟩) c31 w31 r6_31
        go_simp
        refine hK.out _ _ (fun _ => hHeld) ?_
        clear hK K
        try simp only [Act.put, List.setIfInBounds_toArray, List.set_cons_zero, List.set_cons_succ]
        iterate 2 (
          refine sch_takes_cons ?_
          first
            | (refine sch_take (v := ?_) rfl (by assumption) (by rfl) ?_ ?_; rotate_left; (focus (intro wy hSy; (try dsimp only at hSy); go_simp; (try with_reducible rfl))))
            | (refine sch_pass rfl (by assumption) (by rfl) ?_)
          simp only [Act.put, List.setIfInBounds_toArray, List.set_cons_zero, List.set_cons_succ])
        refine sch_takes_nil ?_
        refine sch_done ?_
        refine NoPanic.normal ?_
        have HE := Lib.hid hb31
        clear hb31
        go_wp2
        go_ret
        exact ⟨by rw [← HX.out]; rfl, HB0.out.trans (HE.out.mono HB0.out.size)⟩
      · have ht36 := HT2.out (some ⟨g31, 0, none⟩) c31 w31 r6_31
        go_simp
        refine hK.out _ _ (fun _ => hHeld) ?_
        clear hK K
        change wpSch _ _ _ _ _ _ (.run 2 (.takes [8, 9] .done)) _ _
        try simp only [Act.put, List.setIfInBounds_toArray, List.set_cons_zero, List.set_cons_succ]
        refine sch_run rfl (fun K hK => ?_)
        have ht37 := HT1.out A24 c24 w31 r1_32
        go_simp
        refine hK.out _ _ (fun _ => hHeld) ?_
        clear hK K
        try simp only [Act.put, List.setIfInBounds_toArray, List.set_cons_zero, List.set_cons_succ]
        iterate 2 (
          refine sch_takes_cons ?_
          first
            | (refine sch_take (v := ?_) rfl (by assumption) (by rfl) ?_ ?_; rotate_left; (focus (intro wy hSy; (try dsimp only at hSy); go_simp; (try with_reducible rfl))))
            | (refine sch_pass rfl (by assumption) (by rfl) ?_)
          simp only [Act.put, List.setIfInBounds_toArray, List.set_cons_zero, List.set_cons_succ])
        refine sch_takes_nil ?_
        refine sch_done ?_
        refine NoPanic.normal ?_
        have HE := Lib.hid hb31
        clear hb31
        go_wp2
        go_ret
        exact ⟨by rw [← HX.out]; rfl, HB0.out.trans (HE.out.mono HB0.out.size)⟩
end Go.Proofs.YtlhcacancnmhcaaDoor
