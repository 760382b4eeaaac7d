/-
  The half: the code's and the document's.
-/
import Derived.Test.YtbganaaiaokfmaaCelDel
namespace Go.Proofs.Ytbganaaiaokfmaa
open Go.RowKit

theorem rgt_size {l : List Cel} (h : Rgt l) : sizeC l ≤ l.length * 2565 := by
  have key : ∀ m : List Cel, (∀ c ∈ m, fitC c = true) → sizeC m ≤ m.length * 2565 := by
    intro m
    induction m with
    | nil => intro _; exact Nat.zero_le _
    | cons a m ih =>
      intro hm
      rw [sizeC_cons, List.length_cons]
      have h1 := ih fun c hc => hm c (by simp [hc])
      have h2 := hm a (by simp)
      unfold fitC at h2
      simp only [Bool.and_eq_true, decide_eq_true_eq] at h2
      omega
  exact key l h.2
noncomputable def halfN (l : List Cel) : Nat := Classical.epsilon fun n => HalfC l n
theorem halfN_of {l : List Cel} {n : Nat} (h : HalfC l n) : halfN l = n := HalfC.unique (Classical.epsilon_spec (p := fun n => HalfC l n) ⟨n, h⟩) h
/-- What Half answers: the number, the error. -/
noncomputable def halfP (l : List Cel) : Nat × Int := if rgtB l = true then (if l.length < 2 then (0, 9) else (halfN l, 0)) else (0, 100)
noncomputable def halfV (l : List Cel) : Value := .tuple #[.int .i64 ((halfP l).1 : Int), .int .i64 (halfP l).2]
theorem halfV_of {l : List Cel} {n : Nat} (hr : rgtB l = true) (h : HalfC l n) : halfV l = .tuple #[.int .i64 (n : Int), .int .i64 0] := by
  have h1 := h.one
  have h2 := h.last
  unfold halfV halfP
  rw [if_pos hr, if_neg (by omega), halfN_of h]
theorem halfV_wrong {l : List Cel} (hr : rgtB l = false) : halfV l = .tuple #[.int .i64 0, .int .i64 100] := by
  unfold halfV halfP
  rw [hr]
  rfl
theorem halfV_few {l : List Cel} (hr : rgtB l = true) (h : l.length < 2) : halfV l = .tuple #[.int .i64 0, .int .i64 9] := by
  unfold halfV halfP
  rw [if_pos hr, if_pos h]
  rfl

set_option maxRecDepth 100000 in
set_option maxHeartbeats 2000000 in
theorem khalf_any (A : Option Addr) (n c : Nat) (l : List CB) (w : World) (hl : Cels w A l) (hn : l.length = n) (hnb : n ≤ 300000) (hnc : n ≤ c) :
    Calls Try.prog 11 #[.slice A n c] w fun e w' => e = .returned (halfV (cels l)) ∧ Below w.heap.size w w' := by
  have HRT := Lib.hid (kright_any A n c l w hl hn (by omega))
  have hcl := cels_length l
  cases hr : rgtB (cels l) with
  | false =>
    rw [hr] at HRT
    rw [halfV_wrong hr]
    clear hl hn hr hcl
    go_enter Try.func11, Try.ntmps11
    go_wp2_with fail
    refine HRT.out.mono ?_
    rintro e w1 ⟨rfl, hb1⟩
    have HB1 := Lib.hid hb1
    clear hb1
    go_wp2_with fail
    go_ret2
    exact ⟨rfl, HB1.out⟩
  | true =>
    rw [hr] at HRT
    by_cases h2 : n < 2
    · rw [halfV_few hr (by omega)]
      have g2 : (n : Int) < 2 := by omega
      clear hl hn hr hcl h2
      go_enter Try.func11, Try.ntmps11
      go_wp2_with fail
      refine HRT.out.mono ?_
      rintro e w1 ⟨rfl, hb1⟩
      have HB1 := Lib.hid hb1
      clear hb1
      go_wp2_with fail
      go_ret2
      exact ⟨rfl, HB1.out⟩
    · have hR : Rgt (cels l) := of_decide_eq_true hr
      have hsz := rgt_size hR
      obtain ⟨p, rfl⟩ : ∃ p, n = p + 1 := ⟨n - 1, by omega⟩
      have g2 : ¬ (((p + 1 : Nat) : Int)) < 2 := by omega
      have HV := Lib.hid (fun m (h : HalfC (cels l) m) => halfV_of hr h)
      have HL := Lib.hid hl
      have HS := Lib.hid (fun wx (hb : Below w.heap.size w wx) => kSize_any A (p + 1) c l wx (hl.keeps hb) hn (by omega))
      have HST := Lib.hid (fun k (hk : k < l.length) => show sizeC ((cels l).take (k + 1)) = sizeC ((cels l).take k) + 4 + l[k].1.size + l[k].2.size by
        rw [size_take _ _ (by rw [cels_length]; exact hk), cels_get _ _ hk]
        show _ + 4 + (l[k].1.toList).length + (l[k].2.toList).length = _
        rw [len_size, len_size])
      have HSB := Lib.hid (fun k => size_mono (cels l) k)
      have HHN := Lib.hid (fun _ : Unit => hn)
      have HSZ := Lib.hid ksz_any
      have HT0 := Lib.hid (show sizeC ((cels l).take 0) = 0 by rw [List.take_zero]; rfl)
      have HEN := Lib.hid (fun m (h1 : 1 ≤ m) (h2 : m + 1 ≤ p + 1) (h3 : ∀ q, 1 ≤ q → q < m → 2 * sizeC ((cels l).take q) < sizeC (cels l)) (h4 : m + 1 = p + 1 ∨ sizeC (cels l) ≤ 2 * sizeC ((cels l).take m)) => show HalfC (cels l) m from ⟨h1, by rw [cels_length, hn]; exact h2, h3, by rw [cels_length, hn]; exact h4⟩)
      rw [cels_length, hn] at hsz
      obtain ⟨V, hV⟩ : ∃ V, halfV (cels l) = V := ⟨_, rfl⟩
      rw [hV] at HV ⊢
      obtain ⟨S, hS⟩ : ∃ S, sizeC (cels l) = S := ⟨_, rfl⟩
      rw [hS] at HS HSB hsz HEN
      rw [IntWalk.i64_in (S : Int) (by omega)] at HS
      have HSI := Lib.hid (show S ≤ 800000000 by omega)
      clear hl hn hr hcl h2 hR hV hS hsz
      go_enter Try.func11, Try.ntmps11
      go_wp2_with fail
      refine HRT.out.mono ?_
      rintro e w1 ⟨rfl, hb1⟩
      have HB1 := Lib.hid hb1
      have HS1 := Lib.hid (HS.out w1 hb1)
      clear hb1 HRT HS
      go_wp2_with fail
      refine HS1.out.mono ?_
      rintro e w2 ⟨rfl, hb2⟩
      have HB2 := Lib.hid (HB1.out.trans (hb2.mono HB1.out.size))
      clear hb2 HS1
      go_wp2_with fail
      go_loopw [4, 5, 24] (fun x y i wr => ∃ k : Nat, k ≤ p ∧ i = .int .i64 (k : Int) ∧ (∃ s : Nat, x = .int .i64 (s : Int) ∧ y = .int .i64 ((S : Int) - (s : Int)) ∧ Hid (s = sizeC ((cels l).take k))) ∧ Hid (∀ q, 1 ≤ q → q < k + 1 → 2 * sizeC ((cels l).take q) < S) ∧ Hid (Below w.heap.size w wr)) (fun _ _ i _ => p - (intOf i).toNat)
      case atStart => exact ⟨0, Nat.zero_le _, rfl, ⟨0, rfl, by simp, Lib.hid HT0.out.symm⟩, Lib.hid (fun q h1 h2 => by omega), HB2⟩
      case round =>
        obtain ⟨k, hk, rfl, ⟨s, rfl, rfl, Hs⟩, HQ, HBk⟩ := hrel
        by_cases hlt : k < p
        · have hkI : (k : Int) < (p : Int) := by omega
          have hkl : k < l.length := by have := HHN.out (); omega
          obtain ⟨g, off, rfl, HC⟩ := HL.out.at_ hkl
          have hst := HST.out k hkl
          have hsb := HSB.out (k + 1)
          obtain ⟨c0, c1⟩ := HC.out k hkl wr HBk.out
          obtain ⟨ky, hky⟩ : ∃ ky, l[k].1 = ky := ⟨_, rfl⟩
          obtain ⟨vl, hvl⟩ : ∃ vl, l[k].2 = vl := ⟨_, rfl⟩
          rw [hky] at c0
          rw [hvl] at c1
          rw [hky, hvl] at hst
          obtain ⟨o, ho⟩ : ∃ o, wr.alloc (.cells #[.string ky, .string vl] 38) = o := ⟨_, rfl⟩
          have HBo := Lib.hid (show Below w.heap.size w o from ho ▸ HBk.out.alloc HBk.out.size _)
          obtain ⟨B, hB⟩ : ∃ B, wr.heap.size = B := ⟨_, rfl⟩
          have HCo := Lib.hid (show Row o B 38 [.string ky, .string vl] (0, 0) from hB ▸ ho ▸ Row.new wr 38 [.string ky, .string vl] (0, 0))
          have o0 : o.cell? ⟨B, 0, none⟩ = some (.string ky) := by rw [HCo.out.cell]; rfl
          have o1 : o.cell? ⟨B, 1, none⟩ = some (.string vl) := by rw [HCo.out.cell]; rfl
          have HZ := Lib.hid (fun wx => HSZ.out ky vl wx)
          obtain ⟨u, hu⟩ : ∃ u : Nat, 4 + ky.size + vl.size = u := ⟨_, rfl⟩
          have hs0 := Hs.out
          have hS8 := HSI.out
          have hnew : s + u = sizeC ((cels l).take (k + 1)) := by omega
          have huS : u ≤ S ∧ s + u ≤ S := by omega
          rw [show (4 + (ky.size : Int) + (vl.size : Int)) = (u : Int) by omega, IntWalk.i64_in (u : Int) (by omega)] at HZ
          have HNEW := Lib.hid hnew
          have huI : (s : Int) + (u : Int) ≤ 800000000 := by omega
          have hs1 : (s : Int) + (u : Int) = ((s + u : Nat) : Int) := by omega
          have hs2 : (S : Int) - (s : Int) - (u : Int) = (S : Int) - ((s + u : Nat) : Int) := by omega
          have hw1 : IntKind.i64.wrap ((s : Int) + (u : Int)) = ((s + u : Nat) : Int) := by rw [hs1]; exact IntWalk.i64_in _ (by omega)
          have hw2 : IntKind.i64.wrap ((S : Int) - (s : Int) - (u : Int)) = (S : Int) - ((s + u : Nat) : Int) := by rw [hs2]; exact IntWalk.i64_in _ (by omega)
          obtain ⟨z, hz⟩ : ∃ z : Nat, s + u = z := ⟨_, rfl⟩
          rw [hz] at hw1 hw2 HNEW
          have HZS := Lib.hid (show z ≤ S by omega)
          clear HC hky hvl hkl hst hsb hs0 hnew huS hs1 hs2 hu hS8 huI hz HSZ HST
          go_wp2_with fail
          refine (HZ.out o).mono ?_
          rintro e w3 ⟨rfl, hb3⟩
          have HB3 := Lib.hid (HBo.out.trans (hb3.mono HBo.out.size))
          have hC3 := HCo.out.below hb3 HCo.out.lt
          have q0 : w3.cell? ⟨B, 0, none⟩ = some (.string ky) := by rw [hC3.cell]; rfl
          have q1 : w3.cell? ⟨B, 1, none⟩ = some (.string vl) := by rw [hC3.cell]; rfl
          clear hb3 hC3 o0 o1
          go_wp2_with fail
          refine (HZ.out w3).mono ?_
          rintro e w4 ⟨rfl, hb4⟩
          have HB4 := Lib.hid (HB3.out.trans (hb4.mono HB3.out.size))
          clear hb4 q0 q1 HZ
          by_cases hge : S ≤ 2 * z
          · have hgI : (S : Int) - (z : Int) ≤ (z : Int) := by omega
            have HF := Lib.hid (HV.out (k + 1) (HEN.out (k + 1) (by omega) (by omega) (fun q h1 h2 => HQ.out q h1 (by omega)) (.inr (by rw [← HNEW.out]; exact hge))))
            clear hge
            go_wp2_with fail
            go_ret2
            exact ⟨by rw [HF.out]; simp, HB4.out⟩
          · have hgI : ¬ (S : Int) - (z : Int) ≤ (z : Int) := by omega
            have HQ2 := Lib.hid (show ∀ q, 1 ≤ q → q < k + 1 + 1 → 2 * sizeC ((cels l).take q) < S from fun q h1 h2 => by
              by_cases e : q = k + 1
              · subst e; rw [← HNEW.out]; omega
              · exact HQ.out q h1 (by omega))
            clear hge
            go_wp2_with fail
            go_roundw
            case rel => exact ⟨k + 1, by omega, by go_num, ⟨z, rfl, rfl, HNEW⟩, HQ2, HB4⟩
            case measure => simp [intOf]; omega
        · have hkI : ¬ (k : Int) < (p : Int) := by omega
          obtain rfl : k = p := by omega
          have HF := Lib.hid (show 1 ≤ k → V = .tuple #[.int .i64 (k : Int), .int .i64 0] from fun h1 => HV.out k (HEN.out k h1 (Nat.le_refl _) (fun q h1 h2 => HQ.out q h1 (by omega)) (.inl rfl)))
          clear HQ HEN HV HSZ HST hk hlt
          have h1k : 1 ≤ k := by omega
          go_wp2_with fail
          go_ret2
          exact ⟨by rw [HF.out h1k]; simp, HBk.out⟩

set_option maxRecDepth 100000 in
set_option maxHeartbeats 2000000 in
theorem chalf_any (A : Option Addr) (n c : Nat) (l : List CB) (w : World) (hl : Cels w A l) (hn : l.length = n) (hnb : n ≤ 300000) (hnc : n ≤ c) :
    Calls Try.prog 12 #[.slice A n c] w fun e w' => e = .returned (halfV (cels l)) ∧ Below w.heap.size w w' := by
  have HRT := Lib.hid (cright_any A n c l w hl hn (by omega))
  have hcl := cels_length l
  cases hr : rgtB (cels l) with
  | false =>
    rw [hr] at HRT
    rw [halfV_wrong hr]
    clear hl hn hr hcl
    go_enter Try.func12, Try.ntmps12
    go_wp2_with fail
    refine HRT.out.mono ?_
    rintro e w1 ⟨rfl, hb1⟩
    have HB1 := Lib.hid hb1
    clear hb1
    go_wp2_with fail
    go_ret2
    exact ⟨rfl, HB1.out⟩
  | true =>
    rw [hr] at HRT
    by_cases h2 : n < 2
    · rw [halfV_few hr (by omega)]
      have g2 : (n : Int) < 2 := by omega
      clear hl hn hr hcl h2
      go_enter Try.func12, Try.ntmps12
      go_wp2_with fail
      refine HRT.out.mono ?_
      rintro e w1 ⟨rfl, hb1⟩
      have HB1 := Lib.hid hb1
      clear hb1
      go_wp2_with fail
      go_ret2
      exact ⟨rfl, HB1.out⟩
    · have hR : Rgt (cels l) := of_decide_eq_true hr
      have hsz := rgt_size hR
      obtain ⟨p, rfl⟩ : ∃ p, n = p + 1 := ⟨n - 1, by omega⟩
      have g2 : ¬ (((p + 1 : Nat) : Int)) < 2 := by omega
      have HV := Lib.hid (fun m (h : HalfC (cels l) m) => halfV_of hr h)
      have HS := Lib.hid (fun wx (hb : Below w.heap.size w wx) => csize_any A (p + 1) c l wx (hl.keeps hb) hn (by omega))
      have HSK := Lib.hid (fun k (hk : k ≤ p) wx (hb : Below w.heap.size w wx) => csize_any A k c (l.take k) wx ((hl.keeps hb).take k) (by rw [List.length_take]; omega) (by omega))
      have HSB := Lib.hid (fun k => size_mono (cels l) k)
      have HEN := Lib.hid (fun m (h1 : 1 ≤ m) (h2 : m + 1 ≤ p + 1) (h3 : ∀ q, 1 ≤ q → q < m → 2 * sizeC ((cels l).take q) < sizeC (cels l)) (h4 : m + 1 = p + 1 ∨ sizeC (cels l) ≤ 2 * sizeC ((cels l).take m)) => show HalfC (cels l) m from ⟨h1, by rw [cels_length, hn]; exact h2, h3, by rw [cels_length, hn]; exact h4⟩)
      have HCT := Lib.hid (fun k => show cels (l.take k) = (cels l).take k by unfold cels; rw [List.map_take])
      rw [cels_length, hn] at hsz
      obtain ⟨V, hV⟩ : ∃ V, halfV (cels l) = V := ⟨_, rfl⟩
      rw [hV] at HV ⊢
      obtain ⟨S, hS⟩ : ∃ S, sizeC (cels l) = S := ⟨_, rfl⟩
      rw [hS] at HS HSB hsz HEN
      rw [IntWalk.i64_in (S : Int) (by omega)] at HS
      have HSI := Lib.hid (show S ≤ 800000000 by omega)
      have hp1 : 1 ≤ p := by omega
      clear hl hn hr hcl h2 hR hV hS hsz
      go_enter Try.func12, Try.ntmps12
      go_wp2_with fail
      refine HRT.out.mono ?_
      rintro e w1 ⟨rfl, hb1⟩
      have HB1 := Lib.hid hb1
      clear hb1 HRT
      go_wp2_with fail
      go_loopw [4] (fun i wr => ∃ k : Nat, 1 ≤ k ∧ k ≤ p ∧ i = .int .i64 (k : Int) ∧ Hid (∀ q, 1 ≤ q → q < k → 2 * sizeC ((cels l).take q) < S) ∧ Hid (Below w.heap.size w wr)) (fun i _ => p - (intOf i).toNat)
      case atStart => exact ⟨1, Nat.le_refl _, hp1, rfl, Lib.hid (fun q h1 h2 => by omega), HB1⟩
      case round =>
        obtain ⟨k, hk1, hk, rfl, HQ, HBk⟩ := hrel
        by_cases hlt : k < p
        · have hkI : (k : Int) < (p : Int) := by omega
          have hkc : (k : Int) ≤ (c : Int) := by omega
          have HZ := Lib.hid (HSK.out k hk wr HBk.out)
          have hsb := HSB.out k
          have hS8 := HSI.out
          rw [HCT.out] at HZ
          obtain ⟨z, hz⟩ : ∃ z, sizeC ((cels l).take k) = z := ⟨_, rfl⟩
          rw [hz] at HZ hsb
          rw [IntWalk.i64_in (z : Int) (by omega)] at HZ
          have hw2 : IntKind.i64.wrap (2 * (z : Int)) = 2 * (z : Int) := IntWalk.i64_in _ (by omega)
          have HZZ := Lib.hid hz
          have hzb : (z : Int) ≤ 800000000 := by omega
          clear hz hsb hS8 HSK
          go_wp2_with fail
          refine HZ.out.mono ?_
          rintro e w3 ⟨rfl, hb3⟩
          have HB3 := Lib.hid (HBk.out.trans (hb3.mono HBk.out.size))
          have HS3 := Lib.hid (HS.out w3 HB3.out)
          clear hb3 HZ
          go_wp2_with fail
          refine HS3.out.mono ?_
          rintro e w4 ⟨rfl, hb4⟩
          have HB4 := Lib.hid (HB3.out.trans (hb4.mono HB3.out.size))
          clear hb4 HS3
          by_cases hge : 2 * z < S
          · have hgI : 2 * (z : Int) < (S : Int) := by omega
            have HQ2 := Lib.hid (show ∀ q, 1 ≤ q → q < k + 1 → 2 * sizeC ((cels l).take q) < S from fun q h1 h2 => by
              by_cases e : q = k
              · subst e; rw [HZZ.out]; exact hge
              · exact HQ.out q h1 (by omega))
            clear hge
            go_wp2_with fail
            go_roundw
            case rel => exact ⟨k + 1, by omega, by omega, by go_num, HQ2, HB4⟩
            case measure => simp [intOf]; omega
          · have hgI : ¬ 2 * (z : Int) < (S : Int) := by omega
            have HF := Lib.hid (HV.out k (HEN.out k hk1 (by omega) HQ.out (.inr (by rw [HZZ.out]; omega))))
            clear hge
            go_wp2_with fail
            go_ret2
            exact ⟨by rw [HF.out]; rfl, HB4.out⟩
        · have hkI : ¬ (k : Int) < (p : Int) := by omega
          obtain rfl : k = p := by omega
          have HF := Lib.hid (HV.out k (HEN.out k hk1 (Nat.le_refl _) HQ.out (.inl rfl)))
          clear HQ HEN HV HSK hk hlt
          go_wp2_with fail
          go_ret2
          exact ⟨by rw [HF.out]; rfl, HBk.out⟩
end Go.Proofs.Ytbganaaiaokfmaa
