/-
  The walk over the document's answer for package record, part D: Scan.
-/
import Derived.Test.YtlhcacancnmhcaaDoorRecDocC
namespace Go.Proofs.YtlhcacancnmhcaaDoor
open Go.RowKit

/-- What the document's scan gives back. -/
def RScanV (w : World) (l : List Rec) (n x : Nat) (e : Ending) (w' : World) : Prop :=
  ∃ A c, e = .returned (.tuple #[.slice A l.length c, .int .i64 (n : Int), .int .i64 (x : Int)]) ∧ l.length ≤ c ∧ (A = none → c = 0) ∧ Recs w' A l ∧ Below w.heap.size w w'

theorem index_head (x : List UInt8) (h : 1 ≤ x.length) : ∀ W : World, (Instr.index 9 (.string (tb x)) (.int .i64 0)).run Tryd.prog W = .ok (.int .u8 ((x.headD 0).toNat : Int)) W := fun W => by
  rw [run_index_string _ _ _ _ _ Tryd.underlying9, dif_pos ⟨by omega, by rw [tb_size]; omega⟩]
  cases x with
  | nil => simp at h
  | cons a l => rfl

theorem val_tb (y : List UInt8) : val (tb y).data.toList = val y := by rw [tb_list]

/-- The document's own reading, case by case. -/
theorem look_bad1 {x : List UInt8} (h9 : 9 ≤ x.length) (h : sealed (x.take 5) ≠ x.take 9) : lookR x = .bad := look_c h9 (fun hs => h ((head_is h9).2 hs))
theorem look_bad2 {x : List UInt8} (h9 : 9 ≤ x.length) (hs : sealed (x.take 5) = x.take 9) (hl : lenOf x ≤ 262144) (ht : 13 + lenOf x ≤ x.length) (hb : one ⟨x.headD 0, (x.drop 9).take (lenOf x)⟩ ≠ x.take (13 + lenOf x)) : lookR x = .bad :=
  look_f h9 ((head_is h9).1 hs) hl ht (fun h => hb ((body_is ((head_is h9).1 hs) ht).2 h))
theorem look_told {x : List UInt8} (h9 : 9 ≤ x.length) (hs : sealed (x.take 5) = x.take 9) (hl : lenOf x ≤ 262144) (ht : 13 + lenOf x ≤ x.length) (hb : one ⟨x.headD 0, (x.drop 9).take (lenOf x)⟩ = x.take (13 + lenOf x)) : lookR x = .told ⟨x.headD 0, (x.drop 9).take (lenOf x)⟩ :=
  look_g h9 ((head_is h9).1 hs) hl ht ((body_is ((head_is h9).1 hs) ht).1 hb)

set_option maxRecDepth 100000 in
set_option maxHeartbeats 4000000 in
theorem rscan_any (b : List UInt8) (w : World) (hmax : b.length ≤ 30000) : Calls Tryd.prog 13 #[.string (tb b)] w (RScanV w (scan b).1 (scan b).2.1 (scan b).2.2) := by
  have HMX := Lib.hid hmax
  have HX := Lib.hid (fun k => show (tb b).extract k b.length = tb (b.drop k) by rw [tb_cut, List.take_length])
  have hsz : (tb b).size = b.length := tb_size _
  have HEND := Lib.hid (show ∀ (A : Option Addr) (l : List Rec) (c n x : Nat) (w' : World), scan b = (l, n, x) → l.length ≤ c → (A = none → c = 0) → Recs w' A l → Below w.heap.size w w' → RScanV w (scan b).1 (scan b).2.1 (scan b).2.2 (.returned (.tuple #[.slice A l.length c, .int .i64 (n : Int), .int .i64 (x : Int)])) w' from
    fun A l c n x w' h1 h2 h3 h4 h5 => by rw [h1]; exact ⟨A, c, rfl, h2, h3, h4, h5⟩)
  generalize RScanV w (scan b).1 (scan b).2.1 (scan b).2.2 = Q at *
  go_enter Tryd.func13, Tryd.ntmps13
  go_wp2_with fail
  go_loopw [5, 6] (fun v i wr => ∃ (l : List Rec) (k : Nat) (u : Value), k ≤ b.length ∧ u = v ∧ i = .int .i64 k ∧ l.length ≤ k ∧ scan b = (l ++ (scan (b.drop k)).1, k + (scan (b.drop k)).2.1, (scan (b.drop k)).2.2) ∧ GrR w l u wr) (fun _ i _ => b.length - (intOf i).toNat)
  case atStart => exact ⟨[], 0, _, by omega, rfl, rfl, by simp, by simp, GrR.nil (Below.refl _ _)⟩
  case round =>
    obtain ⟨l, k, v, hk, rfl, rfl, hlk, hsc, hg⟩ := hrel
    have HG := Lib.hid hg
    have HSC := Lib.hid hsc
    have hXk := HX.out k
    have hkI : (k : Int) ≤ (b.length : Int) := by omega
    have HLD := Lib.hid (List.length_drop (i := k) (l := b))
    generalize hx : b.drop k = x at *
    have HX2 := Lib.hid hx
    clear hx hg hsc
    obtain ⟨A, c, rfl, hc, hA, hrd⟩ := HG.out.reads
    have HC := Lib.hid (And.intro hc hA)
    clear hc hA hrd
    have hszx : (tb x).size = x.length := tb_size _
    by_cases h0 : x.length = 0
    · have hkb : k = b.length := by have := HLD.out; omega
      have HS := Lib.hid (show scan b = (l, k, 0) by rw [HSC.out, scan_of_whole (show lookR x = .whole from if_pos h0)]; simp)
      have hkJ : ¬ (k : Int) < (b.length : Int) := by omega
      clear hkI HX HSC h0 hXk hszx hkb
      go_wp2
      refine bodyPost_ret (v := .tuple #[.slice A l.length c, .int .i64 (k : Int), .int .i64 0]) (by simp [results, Tryd.results13, go_sem]) rfl ?_
      exact HEND.out _ _ _ _ _ _ HS.out HC.out.1 HC.out.2 HG.out.recs HG.out.2
    have hkl : (k : Int) < (b.length : Int) := by have := HLD.out; omega
    by_cases h9 : x.length < 9
    · have HS := Lib.hid (show scan b = (l, k, 1) by rw [HSC.out, scan_of_torn (show lookR x = .torn by unfold lookR; rw [if_neg h0, if_pos h9])]; simp)
      have h9I : ((tb x).size : Int) < 9 := by omega
      clear HX HSC h0 h9
      generalize tb x = s at *
      go_wp2
      refine bodyPost_ret (v := .tuple #[.slice A l.length c, .int .i64 (k : Int), .int .i64 1]) (by simp [results, Tryd.results13, go_sem]) rfl ?_
      exact HEND.out _ _ _ _ _ _ HS.out HC.out.1 HC.out.2 HG.out.recs HG.out.2
    replace h9 : 9 ≤ x.length := by omega
    have h9I : ¬ (x.length : Int) < 9 := by omega
    have h9J : (9 : Int) ≤ (x.length : Int) := by omega
    have h5J : (5 : Int) ≤ (x.length : Int) := by omega
    have hX15 : (tb x).extract 1 5 = tb ((x.drop 1).take 4) := by rw [tb_cut, List.drop_take]
    have hX05 : (tb x).extract 0 5 = tb (x.take 5) := by rw [tb_cut, List.drop_zero]
    have hX09 : (tb x).extract 0 9 = tb (x.take 9) := by rw [tb_cut, List.drop_zero]
    have hl4 : ((x.drop 1).take 4).length = 4 := by rw [List.length_take, List.length_drop]; omega
    have HV := Lib.hid (show Calls Tryd.prog 21 #[.string (tb ((x.drop 1).take 4))] wr fun e w' => e = .returned (.int .u64 (lenOf x : Int)) ∧ ∃ d, w' = wr.drewN d from by
      have := value_any 4 (tb ((x.drop 1).take 4)) wr (by rw [tb_size]; omega) (by rw [tb_size]; omega)
      rwa [val_tb] at this)
    have hlt4 : lenOf x < 4294967296 := by
      have := val_lt ((x.drop 1).take 4)
      rw [hl4] at this
      exact this
    have HB1 := Lib.hid (fun h => look_bad1 (x := x) h9 h)
    have HB2 := Lib.hid (fun hs hl ht hb => look_bad2 (x := x) h9 hs hl ht hb)
    have HTO := Lib.hid (fun hs hl ht hb => look_told (x := x) h9 hs hl ht hb)
    have HD := Lib.hid (fun hl => look_d (b := x) h9 hl)
    have HE := Lib.hid (fun hs hl ht => look_e (b := x) h9 ((head_is h9).1 hs) hl ht)
    have hl5 : (x.take 5).length = 5 := by rw [List.length_take]; omega
    obtain ⟨wF, cF, hcv, hcF⟩ := conv_tb (x.take 5)
    have HIX := Lib.hid (index_head x (by omega))
    have HXD := Lib.hid (fun n (_ : 9 + n ≤ x.length) => show (tb x).extract 9 (9 + n) = tb ((x.drop 9).take n) by rw [tb_cut, List.drop_take]; congr 2; omega)
    have HXT := Lib.hid (fun n => show (tb x).extract 0 n = tb (x.take n) by rw [tb_cut, List.drop_zero])
    have hbnd : x.length ≤ 30000 := by have := HLD.out; omega
    obtain ⟨n, hn⟩ : ∃ n, lenOf x = n := ⟨_, rfl⟩
    rw [hn] at HV hlt4 HB2 HTO HD HE
    have HSL := Lib.hid (fun (wx : World) (hb : Below w.heap.size w wx) => show Calls Tryd.prog 22 #[.slice (some ⟨wx.heap.size, 0, none⟩) 5 (cF wx)] (wF wx) fun e w' => ∃ g c', e = .returned (.slice (some ⟨g, 0, none⟩) 9 c') ∧ (convert 47 9 (.slice (some ⟨g, 0, none⟩) 9 c')).run Tryd.prog w' = .ok (.string (tb (sealed (x.take 5)))) w' ∧ Below w.heap.size w w' ∧ Below wx.heap.size wx w' from by
      obtain ⟨q1, q2, q3⟩ := hcF wx
      refine (rseal_any (some ⟨wx.heap.size, 0, none⟩) (x.take 5) 5 (cF wx) (wF wx) hl5 q1 (fun e => by cases e) (by omega)).mono fun e w' ⟨g, c', he, h1, h2, h3, h4⟩ => ?_
      have hb2 : Below wx.heap.size wx w' := q2.trans (h4.mono q2.size)
      exact ⟨g, c', he, text_n (some ⟨g, 0, none⟩) (sealed (x.take 5)) 9 c' w' h1 h3, hb.trans (hb2.mono hb.size), hb2⟩)
    rw [hl5] at hcv
    generalize hU : (x.drop 1).take 4 = U at *
    clear hU hcF hl4 hl5 hn h0
    go_wp2_with fail
    refine HV.out.mono ?_
    rintro e w1 ⟨rfl, d, rfl⟩
    have HG1 := Lib.hid (HG.out.drewN d)
    generalize wr.drewN d = w1 at *
    have hwI : IntKind.i64.wrap (n : Int) = (n : Int) := IntWalk.i64_in _ (by omega)
    clear HV
    go_wp2_with fail
    obtain ⟨W, hW⟩ : ∃ W, w1.drew = W := ⟨_, rfl⟩
    have HG2 := Lib.hid (show GrR w l (.slice A l.length c) W from hW ▸ HG1.out.drewN 1)
    have hBW : Below w.heap.size w W := HG2.out.2
    have hHeld : True := True.intro
    have HY := Lib.hid (show ∀ p q : List UInt8, p ≠ q → ¬ tb p = tb q ∧ ((tb p).toList == (tb q).toList) = false from fun p q h => ⟨fun e => h (tb_inj e), by rw [beq_eq_false_iff_ne, ByteArray.toList_eq, ByteArray.toList_eq, tb_list, tb_list]; exact h⟩)
    by_cases hs : sealed (x.take 5) = x.take 9
    · have HB2' := Lib.hid (HB2.out hs)
      have HTO' := Lib.hid (HTO.out hs)
      have HE' := Lib.hid (HE.out hs)
      rw [hs] at HSL
      generalize hz : x.take 9 = z at *
      clear hs HB2 HTO HE HB1 hz
      by_cases hbig : 262144 < n
      · have HS := Lib.hid (show scan b = (l, k, 2) by rw [HSC.out, scan_of_bad (HD.out hbig)]; simp)
        have hbI : (262144 : Int) < (n : Int) := by omega
        clear hbig HD HSC
        refine wp_region_noPanic ?_
        refine wp_region_sch (fun _ => True) (fun i => [2, 3, 4].contains i)
          (.takes [0, 1, 5, 6] (.run 2 (.run 3 (.run 4 (.takes [7, 8, 9, 10, 11] .done))))) (by kernel_rfl) (fun _ _ _ _ _ h => h) (by kernel_rfl) ?_
        rw [hW]
        clear hW
        iterate 4 (
          refine sch_takes_cons ?_
          first
            | (refine sch_take (v := ?_) rfl (by assumption) (by rfl) ?_ ?_; rotate_left; (focus (intro wy hSy; (try dsimp only at hSy); go_simp; (try with_reducible rfl))))
            | (refine sch_pass rfl (by assumption) (by rfl) ?_)
          simp only [Act.put, List.setIfInBounds_toArray, List.set_cons_zero, List.set_cons_succ])
        refine sch_takes_nil ?_
        refine sch_run rfl (fun K hK => ?_)
        go_simp
        refine hK.out _ _ (fun _ => hHeld) ?_
        clear hK K
        try simp only [Act.put, List.setIfInBounds_toArray, List.set_cons_zero, List.set_cons_succ]
        refine sch_run rfl (fun K hK => ?_)
        go_simp
        with_reducible refine (HSL.out W hBW).mono ?_
        rintro e w3 ⟨g3, c3, rfl, ht3, hb3, hm3⟩
        try dsimp only
        refine hK.out _ _ (fun _ => hHeld) ?_
        clear hK K
        try simp only [Act.put, List.setIfInBounds_toArray, List.set_cons_zero, List.set_cons_succ]
        refine sch_run rfl (fun K hK => ?_)
        go_simp
        refine hK.out _ _ (fun _ => hHeld) ?_
        clear hK K
        try simp only [Act.put, List.setIfInBounds_toArray, List.set_cons_zero, List.set_cons_succ]
        iterate 5 (
          refine sch_takes_cons ?_
          first
            | (refine sch_take (v := ?_) rfl (by assumption) (by rfl) ?_ ?_; rotate_left; (focus (intro wy hSy; (try dsimp only at hSy); go_simp; (try with_reducible rfl))))
            | (refine sch_pass rfl (by assumption) (by rfl) ?_)
          simp only [Act.put, List.setIfInBounds_toArray, List.set_cons_zero, List.set_cons_succ])
        refine sch_takes_nil ?_
        refine sch_done ?_
        refine NoPanic.normal ?_
        have HG3 := Lib.hid (HG2.out.keeps hm3)
        clear hb3 hm3 ht3
        go_wp2
        refine bodyPost_ret (v := .tuple #[.slice A l.length c, .int .i64 (k : Int), .int .i64 2]) (by simp [results, Tryd.results13, go_sem]) rfl ?_
        exact HEND.out _ _ _ _ _ _ HS.out HC.out.1 HC.out.2 HG3.out.recs HG3.out.2
      · have hbI : ¬ (262144 : Int) < (n : Int) := by omega
        refine wp_region_noPanic ?_
        refine wp_region_sch (fun _ => True) (fun i => [2, 3, 4].contains i)
          (.takes [0, 1, 5, 6] (.run 2 (.run 3 (.run 4 (.takes [7, 8, 9, 10, 11] .done))))) (by kernel_rfl) (fun _ _ _ _ _ h => h) (by kernel_rfl) ?_
        rw [hW]
        clear hW
        iterate 4 (
          refine sch_takes_cons ?_
          first
            | (refine sch_take (v := ?_) rfl (by assumption) (by rfl) ?_ ?_; rotate_left; (focus (intro wy hSy; (try dsimp only at hSy); go_simp; (try with_reducible rfl))))
            | (refine sch_pass rfl (by assumption) (by rfl) ?_)
          simp only [Act.put, List.setIfInBounds_toArray, List.set_cons_zero, List.set_cons_succ])
        refine sch_takes_nil ?_
        refine sch_run rfl (fun K hK => ?_)
        go_simp
        refine hK.out _ _ (fun _ => hHeld) ?_
        clear hK K
        try simp only [Act.put, List.setIfInBounds_toArray, List.set_cons_zero, List.set_cons_succ]
        refine sch_run rfl (fun K hK => ?_)
        go_simp
        with_reducible refine (HSL.out W hBW).mono ?_
        rintro e w3 ⟨g3, c3, rfl, ht3, hb3, hm3⟩
        try dsimp only
        refine hK.out _ _ (fun _ => hHeld) ?_
        clear hK K
        try simp only [Act.put, List.setIfInBounds_toArray, List.set_cons_zero, List.set_cons_succ]
        refine sch_run rfl (fun K hK => ?_)
        go_simp
        refine hK.out _ _ (fun _ => hHeld) ?_
        clear hK K
        try simp only [Act.put, List.setIfInBounds_toArray, List.set_cons_zero, List.set_cons_succ]
        iterate 5 (
          refine sch_takes_cons ?_
          first
            | (refine sch_take (v := ?_) rfl (by assumption) (by rfl) ?_ ?_; rotate_left; (focus (intro wy hSy; (try dsimp only at hSy); go_simp; (try with_reducible rfl))))
            | (refine sch_pass rfl (by assumption) (by rfl) ?_)
          simp only [Act.put, List.setIfInBounds_toArray, List.set_cons_zero, List.set_cons_succ])
        refine sch_takes_nil ?_
        refine sch_done ?_
        refine NoPanic.normal ?_
        have HG3 := Lib.hid (HG2.out.keeps hm3)
        clear hb3 hm3 ht3
        have h13 : IntKind.u64.wrap (13 + (n : Int)) = ((13 + n : Nat) : Int) := (IntWalk.u64_in _ (by omega)).trans (by omega)
        have hwx : IntKind.u64.wrap (x.length : Int) = (x.length : Int) := IntWalk.u64_in _ (by omega)
        obtain ⟨N, hN⟩ : ∃ N, 13 + n = N := ⟨_, rfl⟩
        have hNI : 13 + (n : Int) = (N : Int) := by omega
        have hNu : IntKind.u64.wrap (N : Int) = (N : Int) := IntWalk.u64_in _ (by omega)
        have hNi : IntKind.i64.wrap (N : Int) = (N : Int) := IntWalk.i64_in _ (by omega)
        clear h13
        by_cases ht : x.length < 13 + n
        · have HS := Lib.hid (show scan b = (l, k, 1) by rw [HSC.out, scan_of_torn (HE'.out (by omega) ht)]; simp)
          have htI : (x.length : Int) < (N : Int) := by omega
          clear ht hN HSC
          go_wp2
          refine bodyPost_ret (v := .tuple #[.slice A l.length c, .int .i64 (k : Int), .int .i64 1]) (by simp [results, Tryd.results13, go_sem]) rfl ?_
          exact HEND.out _ _ _ _ _ _ HS.out HC.out.1 HC.out.2 HG3.out.recs HG3.out.2
        · have htI : ¬ (x.length : Int) < (N : Int) := by omega
          have htJ : (N : Int) ≤ (x.length : Int) := by omega
          obtain ⟨M, hM⟩ : ∃ M, 9 + n = M := ⟨_, rfl⟩
          have hMI : 9 + (n : Int) = (M : Int) := by omega
          have hMi : IntKind.i64.wrap (M : Int) = (M : Int) := IntWalk.i64_in _ (by omega)
          have hM9 : (9 : Int) ≤ (M : Int) := by omega
          have hMx : (M : Int) ≤ (x.length : Int) := by omega
          have hXD := HXD.out n (by omega)
          rw [hM] at hXD
          have hXT := HXT.out N
          have hDl : ((x.drop 9).take n).length = n := by rw [List.length_take, List.length_drop]; omega
          have hidx := HIX.out
          have HBD := Lib.hid (HB2'.out (by omega) (by omega))
          have HTD := Lib.hid (HTO'.out (by omega) (by omega))
          rw [hN] at HBD HTD
          generalize hk0 : x.headD 0 = k0 at *
          generalize hd0 : (x.drop 9).take n = D at *
          obtain ⟨q, hq⟩ : ∃ q, k0.toNat = q := ⟨_, rfl⟩
          rw [hq] at hidx
          have HO := Lib.hid (fun (wx : World) => show Calls Tryd.prog 19 #[.agg #[.int .u8 (q : Int), .string (tb D)]] wx fun e w' => e = .returned (.string (tb (one ⟨k0, D⟩))) ∧ Below wx.heap.size wx w' from by
            have := rone_any ⟨k0, D⟩ wx (by show D.length ≤ 40000; omega)
            unfold recV at this
            rwa [hq] at this)
          have HQ := Lib.hid hq
          have HND := Lib.hid (show 13 + D.length = N by omega)
          clear hM ht hN HD hk0 hd0 HIX HXD HXT HE' HB2' HTO' hq
          go_wp2_with fail
          generalize hw4 : w3.drew = w4 at *
          have HG4 := Lib.hid (show GrR w l (.slice A l.length c) w4 from hw4 ▸ HG3.out.drewN 1)
          refine wp_region_noPanic ?_
          refine wp_region_sch (fun _ => True) (fun i => [8, 9].contains i)
            (.takes [0, 1, 2, 3, 4, 5, 6, 7] (.run 8 (.run 9 .done))) (by kernel_rfl) (fun _ _ _ _ _ h => h) (by kernel_rfl) ?_
          try rw [hw4]
          clear hw4
          have hHeld : True := True.intro
          iterate 8 (
            refine sch_takes_cons ?_
            first
              | (refine sch_take (v := ?_) rfl (by assumption) (by rfl) ?_ ?_; rotate_left; (focus (intro wy hSy; (try dsimp only at hSy); go_simp; (try with_reducible rfl))))
              | (refine sch_pass rfl (by assumption) (by rfl) ?_)
            simp only [Act.put, List.setIfInBounds_toArray, List.set_cons_zero, List.set_cons_succ])
          refine sch_takes_nil ?_
          refine sch_run rfl (fun K hK => ?_)
          go_simp
          refine hK.out _ _ (fun _ => hHeld) ?_
          clear hK K
          try simp only [Act.put, List.setIfInBounds_toArray, List.set_cons_zero, List.set_cons_succ]
          refine sch_run rfl (fun K hK => ?_)
          go_simp
          refine hK.out _ _ (fun _ => hHeld) ?_
          clear hK K
          try simp only [Act.put, List.setIfInBounds_toArray, List.set_cons_zero, List.set_cons_succ]
          refine sch_done ?_
          refine NoPanic.normal ?_
          have hMo : True := trivial
          obtain ⟨o, ho⟩ : ∃ o, w4.alloc (.cells #[.int .u8 (q : Int), .string (tb D)] 36) = o := ⟨_, rfl⟩
          have HG5 := Lib.hid (show GrR w l (.slice A l.length c) o.drew from (ho ▸ HG4.out.alloc _ : GrR w l (.slice A l.length c) o).drewN 1)
          have HR5 := Lib.hid (show Row o.drew w4.heap.size 36 [.int .u8 (q : Int), .string (tb D)] (0, 0) from ho ▸ (Row.new w4 36 [.int .u8 (q : Int), .string (tb D)] (0, 0)).drew)
          go_wp2_with fail
          obtain ⟨W5, hW5⟩ : ∃ W5, o.drew = W5 := ⟨_, rfl⟩
          rw [hW5] at HG5 HR5
          have HC5 := Lib.hid (show ∀ wx, Below W5.heap.size W5 wx → wx.cell? ⟨w4.heap.size, 0, none⟩ = some (.int .u8 (q : Int)) ∧ wx.cell? ⟨w4.heap.size, 1, none⟩ = some (.string (tb D)) from fun wx hb => by
            have h := HR5.out.below hb HR5.out.lt
            exact ⟨by rw [h.cell]; rfl, by rw [h.cell]; rfl⟩)
          have hHeld := HC5.out W5 (Below.refl _ _)
          by_cases hone : one ⟨k0, D⟩ = x.take N
          · have HS0 := HTD.out hone
            have hp13 := look_pos HS0
            have HS := Lib.hid (show scan b = ((l ++ [⟨k0, D⟩]) ++ (scan (b.drop (k + N))).1, (k + N) + (scan (b.drop (k + N))).2.1, (scan (b.drop (k + N))).2.2) by
              have hN2 : 13 + (⟨k0, D⟩ : Rec).d.length = N := HND.out
              rw [HSC.out, scan_of_rec HS0, ← HX2.out, List.drop_drop, hN2]
              simp only [List.append_assoc, List.singleton_append, Prod.mk.injEq, true_and, and_true]
              omega)
            obtain ⟨K2, hK2⟩ : ∃ K2, k + N = K2 := ⟨_, rfl⟩
            rw [hK2] at HS
            have hKn : (k : Int) + 13 + (n : Int) = (K2 : Int) := by have := HND.out; omega
            have hK13 : IntKind.i64.wrap ((k : Int) + 13) = (k : Int) + 13 := IntWalk.i64_in _ (by have := HLD.out; have := HMX.out; omega)
            have hKw : IntKind.i64.wrap (K2 : Int) = (K2 : Int) := IntWalk.i64_in _ (by have := HLD.out; have := HMX.out; omega)
            rw [hone] at HO
            generalize x.take N = Z at *
            clear hone HBD HTD HS0 hp13 HSC
            refine wp_region_noPanic ?_
            refine wp_region_sch (fun wx => wx.cell? ⟨w4.heap.size, 0, none⟩ = some (.int .u8 (q : Int)) ∧ wx.cell? ⟨w4.heap.size, 1, none⟩ = some (.string (tb D))) (fun i => [1].contains i)
              (.takes [0, 2, 3, 4, 5, 6] (.run 1 (.takes [7] .done))) (by kernel_rfl) (fun _ _ _ _ _ h => h) (by kernel_rfl) ?_
            rw [ho, hW5]
            clear hW5 ho
            iterate 6 (
              refine sch_takes_cons ?_
              first
                | (refine sch_take (v := ?_) rfl (by assumption) (by rfl) ?_ ?_; rotate_left; (focus (intro wy hSy; (try dsimp only at hSy); go_simp; (try with_reducible rfl))))
                | (refine sch_pass rfl (by assumption) (by rfl) ?_)
              simp only [Act.put, List.setIfInBounds_toArray, List.set_cons_zero, List.set_cons_succ])
            refine sch_takes_nil ?_
            refine sch_run rfl (fun K hK => ?_)
            go_simp
            with_reducible refine (HO.out W5).mono ?_
            rintro e w6 ⟨rfl, hb6⟩
            have hHeld := HC5.out w6 hb6
            try dsimp only
            refine hK.out _ _ (fun _ => hHeld) ?_
            clear hK K
            try simp only [Act.put, List.setIfInBounds_toArray, List.set_cons_zero, List.set_cons_succ]
            refine sch_takes_cons ?_
            first
              | (refine sch_take (v := ?_) rfl (by assumption) (by rfl) ?_ ?_; rotate_left; (focus (intro wy hSy; (try dsimp only at hSy); go_simp; (try with_reducible rfl))))
              | (refine sch_pass rfl (by assumption) (by rfl) ?_)
            simp only [Act.put, List.setIfInBounds_toArray, List.set_cons_zero, List.set_cons_succ]
            refine sch_takes_nil ?_
            refine sch_done ?_
            refine NoPanic.normal ?_
            have HG6 := Lib.hid (HG5.out.keeps hb6)
            obtain ⟨c0, c1⟩ := HC5.out w6 hb6
            have HG7 := Lib.hid (HG6.out.alloc (.cells (recC ⟨k0, D⟩).toArray 36))
            have HN7 := Lib.hid (new_rec w6 36 ⟨k0, D⟩)
            have hll : l.length ≤ 1000000 := by have := HMX.out; omega
            have hrc : recC ⟨k0, D⟩ = [.int .u8 (q : Int), .string (tb D)] := by rw [← HQ.out]; rfl
            rw [hrc] at HN7 HG7
            have HRC := Lib.hid hrc
            clear hb6 hrc
            go_wp2_with (at_builtin; refine wpList_rec ⟨k0, D⟩ rfl (.tmp 65) (.tmp 67) rfl rfl HG7.out ⟨w6.heap.size, 0, none⟩ 1 rfl (by rw [HRC.out]; exact HN7.out) hll ?_)
            intro v8 w8 hg8
            have HG8 := Lib.hid hg8
            clear hg8 HG6 HG7 HN7 c0 c1
            go_wp2
            go_roundw
            case rel => exact ⟨l ++ [⟨k0, D⟩], K2, _, by have := HLD.out; omega, rfl, by go_num, by simp; omega, HS.out, HG8.out⟩
            case measure => have := HLD.out; simp [intOf]; omega
          · obtain ⟨hy1, hy2⟩ := HY.out _ _ hone
            have HS := Lib.hid (show scan b = (l, k, 2) by rw [HSC.out, scan_of_bad (HBD.out hone)]; simp)
            generalize one ⟨k0, D⟩ = O at *
            generalize x.take N = Z at *
            clear hone HBD HTD HSC
            refine wp_region_noPanic ?_
            refine wp_region_sch (fun wx => wx.cell? ⟨w4.heap.size, 0, none⟩ = some (.int .u8 (q : Int)) ∧ wx.cell? ⟨w4.heap.size, 1, none⟩ = some (.string (tb D))) (fun i => [1].contains i)
              (.takes [0, 2, 3, 4, 5, 6] (.run 1 (.takes [7] .done))) (by kernel_rfl) (fun _ _ _ _ _ h => h) (by kernel_rfl) ?_
            rw [ho, hW5]
            clear hW5 ho
            iterate 6 (
              refine sch_takes_cons ?_
              first
                | (refine sch_take (v := ?_) rfl (by assumption) (by rfl) ?_ ?_; rotate_left; (focus (intro wy hSy; (try dsimp only at hSy); go_simp; (try with_reducible rfl))))
                | (refine sch_pass rfl (by assumption) (by rfl) ?_)
              simp only [Act.put, List.setIfInBounds_toArray, List.set_cons_zero, List.set_cons_succ])
            refine sch_takes_nil ?_
            refine sch_run rfl (fun K hK => ?_)
            go_simp
            with_reducible refine (HO.out W5).mono ?_
            rintro e w6 ⟨rfl, hb6⟩
            have hHeld := HC5.out w6 hb6
            try dsimp only
            refine hK.out _ _ (fun _ => hHeld) ?_
            clear hK K
            try simp only [Act.put, List.setIfInBounds_toArray, List.set_cons_zero, List.set_cons_succ]
            refine sch_takes_cons ?_
            first
              | (refine sch_take (v := ?_) rfl (by assumption) (by rfl) ?_ ?_; rotate_left; (focus (intro wy hSy; (try dsimp only at hSy); go_simp; (try with_reducible rfl))))
              | (refine sch_pass rfl (by assumption) (by rfl) ?_)
            simp only [Act.put, List.setIfInBounds_toArray, List.set_cons_zero, List.set_cons_succ]
            refine sch_takes_nil ?_
            refine sch_done ?_
            refine NoPanic.normal ?_
            have HG6 := Lib.hid (HG5.out.keeps hb6)
            clear hb6
            go_wp2
            refine bodyPost_ret (v := .tuple #[.slice A l.length c, .int .i64 (k : Int), .int .i64 2]) (by simp [results, Tryd.results13, go_sem]) rfl ?_
            exact HEND.out _ _ _ _ _ _ HS.out HC.out.1 HC.out.2 HG6.out.recs HG6.out.2

    · obtain ⟨hy1, hy2⟩ := HY.out _ _ hs
      have HS := Lib.hid (show scan b = (l, k, 2) by rw [HSC.out, scan_of_bad (HB1.out hs)]; simp)
      generalize sealed (x.take 5) = zs at *
      generalize x.take 9 = z at *
      clear hs HB1 HB2 HTO HE HD HSC
      refine wp_region_noPanic ?_
      refine wp_region_sch (fun _ => True) (fun i => [2, 3, 4].contains i)
        (.takes [0, 1, 5, 6] (.run 2 (.run 3 (.run 4 (.takes [7, 8, 9, 10, 11] .done))))) (by kernel_rfl) (fun _ _ _ _ _ h => h) (by kernel_rfl) ?_
      rw [hW]
      clear hW
      iterate 4 (
        refine sch_takes_cons ?_
        first
          | (refine sch_take (v := ?_) rfl (by assumption) (by rfl) ?_ ?_; rotate_left; (focus (intro wy hSy; (try dsimp only at hSy); go_simp; (try with_reducible rfl))))
          | (refine sch_pass rfl (by assumption) (by rfl) ?_)
        simp only [Act.put, List.setIfInBounds_toArray, List.set_cons_zero, List.set_cons_succ])
      refine sch_takes_nil ?_
      refine sch_run rfl (fun K hK => ?_)
      go_simp
      refine hK.out _ _ (fun _ => hHeld) ?_
      clear hK K
      try simp only [Act.put, List.setIfInBounds_toArray, List.set_cons_zero, List.set_cons_succ]
      refine sch_run rfl (fun K hK => ?_)
      go_simp
      with_reducible refine (HSL.out W hBW).mono ?_
      rintro e w3 ⟨g3, c3, rfl, ht3, hb3, hm3⟩
      try dsimp only
      refine hK.out _ _ (fun _ => hHeld) ?_
      clear hK K
      try simp only [Act.put, List.setIfInBounds_toArray, List.set_cons_zero, List.set_cons_succ]
      refine sch_run rfl (fun K hK => ?_)
      go_simp
      refine hK.out _ _ (fun _ => hHeld) ?_
      clear hK K
      try simp only [Act.put, List.setIfInBounds_toArray, List.set_cons_zero, List.set_cons_succ]
      iterate 5 (
        refine sch_takes_cons ?_
        first
          | (refine sch_take (v := ?_) rfl (by assumption) (by rfl) ?_ ?_; rotate_left; (focus (intro wy hSy; (try dsimp only at hSy); go_simp; (try with_reducible rfl))))
          | (refine sch_pass rfl (by assumption) (by rfl) ?_)
        simp only [Act.put, List.setIfInBounds_toArray, List.set_cons_zero, List.set_cons_succ])
      refine sch_takes_nil ?_
      refine sch_done ?_
      refine NoPanic.normal ?_
      have HG3 := Lib.hid (HG2.out.keeps hm3)
      clear hb3 hm3 ht3
      go_wp2
      refine bodyPost_ret (v := .tuple #[.slice A l.length c, .int .i64 (k : Int), .int .i64 2]) (by simp [results, Tryd.results13, go_sem]) rfl ?_
      exact HEND.out _ _ _ _ _ _ HS.out HC.out.1 HC.out.2 HG3.out.recs HG3.out.2
end Go.Proofs.YtlhcacancnmhcaaDoor
