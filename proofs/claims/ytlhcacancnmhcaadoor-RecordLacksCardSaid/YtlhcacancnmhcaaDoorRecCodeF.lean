/-
  The walk over package record, part F: what stands at a longer text's beginning.
-/
import Derived.Test.YtlhcacancnmhcaaDoorRecCodeE
namespace Go.Proofs.YtlhcacancnmhcaaDoor
open Go.RowKit

theorem look_c {b : List UInt8} (h9 : 9 ≤ b.length) (hs : ¬ Sealed (b.take 9)) : lookR b = .bad := by
  unfold lookR; rw [if_neg (by omega), if_neg (by omega), if_pos (.inl hs)]
theorem look_d {b : List UInt8} (h9 : 9 ≤ b.length) (hl : 262144 < lenOf b) : lookR b = .bad := by
  unfold lookR; rw [if_neg (by omega), if_neg (by omega), if_pos (.inr hl)]
theorem look_e {b : List UInt8} (h9 : 9 ≤ b.length) (hs : Sealed (b.take 9)) (hl : lenOf b ≤ 262144) (ht : b.length < 13 + lenOf b) : lookR b = .torn := by
  unfold lookR; rw [if_neg (by omega), if_neg (by omega), if_neg (fun x => by rcases x with x | x; exact x hs; omega), if_pos ht]
theorem look_f {b : List UInt8} (h9 : 9 ≤ b.length) (hs : Sealed (b.take 9)) (hl : lenOf b ≤ 262144) (ht : 13 + lenOf b ≤ b.length) (hb : ¬ Sealed ((b.drop 9).take (lenOf b + 4))) : lookR b = .bad := by
  unfold lookR; rw [if_neg (by omega), if_neg (by omega), if_neg (fun x => by rcases x with x | x; exact x hs; omega), if_neg (by omega), if_pos hb]
theorem look_g {b : List UInt8} (h9 : 9 ≤ b.length) (hs : Sealed (b.take 9)) (hl : lenOf b ≤ 262144) (ht : 13 + lenOf b ≤ b.length) (hb : Sealed ((b.drop 9).take (lenOf b + 4))) : lookR b = .told ⟨b.headD 0, (b.drop 9).take (lenOf b)⟩ := by
  unfold lookR; rw [if_neg (by omega), if_neg (by omega), if_neg (fun x => by rcases x with x | x; exact x hs; omega), if_neg (by omega), if_neg (fun x => x hb)]

set_option maxRecDepth 100000 in
set_option maxHeartbeats 4000000 in
theorem read_long (b : List UInt8) (w : World) (hT : Tab w) (h9 : 9 ≤ b.length) (hmax : b.length ≤ 1000000) : Calls Tryd.prog 20 #[.string (tb b)] w (ReadV b w) := by
  have hE : (tb b).toList.isEmpty = false := by rw [ByteArray.toList_eq, tb_list]; cases b <;> simp at h9 ⊢
  obtain ⟨o, ho⟩ : ∃ o, w.alloc (.cells #[.int .u8 0, .string ⟨#[]⟩] 36) = o := ⟨_, rfl⟩
  have HM := Lib.hid (show MidR w o from ho ▸ MidR.new w)
  have HBAD := Lib.hid (show lookR b = .bad → ∀ e w', e = .returned (.tuple #[.agg #[.int .u8 0, .string ⟨#[]⟩], .int .i64 0, .int .u8 3]) → Below w.heap.size w w' → ReadV b w e w' from fun hb e w' h1 h2 => ⟨by rw [h1, hb]; rfl, h2⟩)
  have HTORN := Lib.hid (show lookR b = .torn → ∀ e w', e = .returned (.tuple #[.agg #[.int .u8 0, .string ⟨#[]⟩], .int .i64 0, .int .u8 2]) → Below w.heap.size w w' → ReadV b w e w' from fun hb e w' h1 h2 => ⟨by rw [h1, hb]; rfl, h2⟩)
  have HTOLD := Lib.hid (show lookR b = .told ⟨b.headD 0, (b.drop 9).take (lenOf b)⟩ → 13 + lenOf b ≤ b.length → ∀ e w', e = .returned (.tuple #[.agg #[.int .u8 ((b.headD 0).toNat : Int), .string (tb ((b.drop 9).take (lenOf b)))], .int .i64 ((13 + lenOf b : Nat) : Int), .int .u8 1]) → Below w.heap.size w w' → ReadV b w e w' from fun hb hl e w' h1 h2 => ⟨by
    rw [h1, hb]
    show _ = Ending.returned (.tuple #[.agg #[_, _], .int .i64 ((13 + ((b.drop 9).take (lenOf b)).length : Nat) : Int), _])
    rw [List.length_take, List.length_drop, Nat.min_eq_left (by omega)]
    rfl, h2⟩)
  have HT := Lib.hid hT
  by_cases hs : Sealed (b.take 9)
  · have hU0 := unsealed_ok b 5 o (hT.keeps HM.out.below) (by omega) (by omega) hs
    have HU := Lib.hid (show Calls Tryd.prog 28 #[.string (tb b), .int .i64 9] o (Unsl b 5 o) from hU0)
    have HV1 := Lib.hid (five_one h9)
    have HV4 := Lib.hid (five_four h9)
    have HL5 := Lib.hid (show (b.take 5).length = 5 by rw [List.length_take]; omega)
    have hX9 : (tb b).extract 9 b.length = tb (b.drop 9) := by rw [tb_cut, List.take_length]
    have hsz : (tb b).size = b.length := tb_size _
    have h9s : (9 : Int) ≤ ((tb b).size : Int) := by omega
    have HLD := Lib.hid (List.length_drop (i := 9) (l := b))
    have hlt4 : lenOf b < 4294967296 := by
      have := val_lt ((b.drop 1).take 4)
      rw [List.length_take, List.length_drop, Nat.min_eq_left (by omega)] at this
      exact this
    have HC := Lib.hid (fun hl => look_d (b := b) h9 hl)
    have HCE := Lib.hid (fun hl ht => look_e h9 hs hl ht)
    have HCF := Lib.hid (fun hl ht hb => look_f h9 hs hl ht hb)
    have HCG := Lib.hid (fun hl ht hb => look_g h9 hs hl ht hb)
    have hk := (b.headD 0).toNat_lt
    obtain ⟨k, hkk⟩ : ∃ k, (b.headD 0).toNat = k := ⟨_, rfl⟩
    rw [hkk] at HV1 HTOLD hk
    obtain ⟨n, hnn⟩ : ∃ n, lenOf b = n := ⟨_, rfl⟩
    rw [hnn] at HTOLD HC HCE HCF HCG HV4 hlt4
    obtain ⟨x, hx⟩ : ∃ x, b.drop 9 = x := ⟨_, rfl⟩
    rw [hx] at hX9 HCF HCG HTOLD HLD
    obtain ⟨y, hy⟩ : ∃ y, b.take 5 = y := ⟨_, rfl⟩
    unfold Unsl at HU
    rw [hy] at HU HV1 HV4 HL5
    generalize ReadV b w = Q at *
    have wk : IntKind.u8.wrap (k : Int) = (k : Int) := IntWalk.u8_in _ (by omega)
    clear hU0 hs h9 hkk hnn hx hy
    go_enter Tryd.func20, Tryd.ntmps20
    go_wp2_with fail
    refine HU.out.mono ?_
    rintro e w1 ⟨g1, cap1, rfl, hl1, hc1, hr1, hb1⟩
    have HM1 := Lib.hid (HM.out.keeps hb1)
    have HO := Lib.hid (open_any (some ⟨g1, 0, none⟩) y cap1 w1 hr1 (by rw [hl1]; omega))
    rw [hl1] at HO
    clear hb1 hr1 hl1 hc1 HU
    go_wp2_with fail
    refine HO.out.mono ?_
    rintro e w2 ⟨g2, rfl, hg2, hrd2, hb2⟩
    have HM2 := Lib.hid (HM1.out.keeps hb2)
    have HG2 := Lib.hid (show w.heap.size ≤ g2 from Nat.le_trans HM1.out.below.size hg2)
    have HN1 := Lib.hid (num_any g2 (some y) 1 w2 hrd2)
    have e1 : rnum (some y) 1 = (k, some (y.drop 1)) := by
      show (if isW 1 = true ∧ (1 : Int) ≤ (y.length : Int) then (val (y.take 1), some (y.drop 1)) else (0, none)) = _
      rw [if_pos ⟨rfl, by rw [HL5.out]; omega⟩, HV1.out]
    have e2 : rnum (some (y.drop 1)) 4 = (n, some ((y.drop 1).drop 4)) := by
      show (if isW 4 = true ∧ (4 : Int) ≤ ((y.drop 1).length : Int) then (val ((y.drop 1).take 4), some ((y.drop 1).drop 4)) else (0, none)) = _
      rw [if_pos ⟨rfl, by rw [List.length_drop, HL5.out]; omega⟩, HV4.out]
    rw [e1] at HN1
    have HRD2 := Lib.hid hrd2
    have HE2 := Lib.hid e2
    clear hrd2 hg2 hb2 HO e1 e2
    go_wp2_with fail
    refine HN1.out.mono ?_
    rintro e w3 ⟨rfl, hn3⟩
    have HM3 := Lib.hid (HM2.out.now HRD2.out HG2.out hn3)
    have HRD3 := Lib.hid hn3.2
    have HN2 := Lib.hid (num_any g2 (some (y.drop 1)) 4 w3 hn3.2)
    rw [HE2.out] at HN2
    clear hn3 HN1
    go_wp2_with fail
    refine HN2.out.mono ?_
    rintro e w4 ⟨rfl, hn4⟩
    have HM4 := Lib.hid (HM3.out.now HRD3.out HG2.out hn4)
    clear hn4 HN2
    have wn : IntKind.i64.wrap (n : Int) = (n : Int) := IntWalk.i64_in _ (by omega)
    by_cases hl : 262144 < n
    · have HP := Lib.hid (HBAD.out (HC.out hl))
      have hl2 : (262144 : Int) < (n : Int) := by omega
      clear hl
      have c0 := HM4.out.c0
      have c1 := HM4.out.c1
      have f0 := HM4.out.f0
      have f1 := HM4.out.f1
      go_wp2
      obtain ⟨hr, ht⟩ := HM4.out.fin (.int .u8 0) (.string ⟨#[]⟩)
      have k0 := hr.cell 0
      have k1 := hr.cell 1
      simp at k0 k1
      refine bodyPost_ret (v := .tuple #[.agg #[.int .u8 0, .string ⟨#[]⟩], .int .i64 0, .int .u8 3]) ?_ rfl (HP.out _ _ rfl ht)
      simp [results, Tryd.results20, go_sem, k0, k1]
    · have hl2 : ¬ (262144 : Int) < (n : Int) := by omega
      obtain ⟨m, hm⟩ : ∃ m, n + 4 = m := ⟨_, rfl⟩
      have hnm : (n : Int) + 4 = (m : Int) := by omega
      have wm : IntKind.i64.wrap (m : Int) = (m : Int) := IntWalk.i64_in _ (by omega)
      by_cases ht : b.length < 13 + n
      · have HP := Lib.hid (HTORN.out (HCE.out (by omega) ht))
        have HU2 := Lib.hid (fun wx => unsealed_short x m wx (by have := HLD.out; omega))
        clear hl ht hm
        have c0 := HM4.out.c0
        have c1 := HM4.out.c1
        have f0 := HM4.out.f0
        have f1 := HM4.out.f1
        go_wp2_with (go_at_call 28; refine (HU2.out _).mono ?_; rintro e w' ⟨rfl, rfl⟩)
        obtain ⟨hr, ht⟩ := HM4.out.fin (.int .u8 0) (.string ⟨#[]⟩)
        have k0 := hr.cell 0
        have k1 := hr.cell 1
        simp at k0 k1
        refine bodyPost_ret (v := .tuple #[.agg #[.int .u8 0, .string ⟨#[]⟩], .int .i64 0, .int .u8 2]) ?_ rfl (HP.out _ _ rfl ht)
        simp [results, Tryd.results20, go_sem, k0, k1]
      · have hT4 : Tab w4 := HT.out.keeps HM4.out.below
        rw [hm] at HCF HCG
        by_cases hb : Sealed (x.take m)
        · have HP := Lib.hid (HTOLD.out (HCG.out (by omega) (by omega) hb) (by omega))
          have HU2 := Lib.hid (unsealed_ok x n w4 hT4 (by have := HLD.out; omega) (by omega) (by rw [hm]; exact hb))
          unfold Unsl at HU2
          rw [hm] at HU2
          obtain ⟨D, hD⟩ : ∃ D, x.take n = D := ⟨_, rfl⟩
          rw [hD] at HP HU2
          obtain ⟨p, hp⟩ : ∃ p, 13 + n = p := ⟨_, rfl⟩
          rw [hp] at HP
          have hmp : 9 + (m : Int) = (p : Int) := by omega
          have wp : IntKind.i64.wrap (p : Int) = (p : Int) := IntWalk.i64_in _ (by omega)
          clear hp hm hl ht hb hT4 hD HTOLD HCG
          go_wp2_with fail
          refine HU2.out.mono ?_
          rintro e w5 ⟨g5, cap5, rfl, hl5, hc5, hr5, hb5⟩
          have HM5 := Lib.hid (HM4.out.keeps hb5)
          have hcv : (convert 47 9 (.slice (some ⟨g5, 0, none⟩) n cap5)).run Tryd.prog w5 = .ok (.string (tb D)) w5 := text_n (some ⟨g5, 0, none⟩) D n cap5 w5 hl5 hr5
          clear hb5 hr5 hl5 hc5 HU2
          have c0 := HM5.out.c0
          have c1 := HM5.out.c1
          have f0 := HM5.out.f0
          have f1 := HM5.out.f1
          go_wp2
          obtain ⟨hr, ht⟩ := HM5.out.fin (.int .u8 (k : Int)) (.string (tb D))
          have k0 := hr.cell 0
          have k1 := hr.cell 1
          simp at k0 k1
          refine bodyPost_ret (v := .tuple #[.agg #[.int .u8 (k : Int), .string (tb D)], .int .i64 (p : Int), .int .u8 1]) ?_ rfl (HP.out _ _ rfl ht)
          simp [results, Tryd.results20, go_sem, k0, k1]
        · have HP := Lib.hid (HBAD.out (HCF.out (by omega) (by omega) hb))
          have HU2 := Lib.hid (unsealed_bad x m w4 hT4 (by have := HLD.out; omega) (by omega) (by omega) hb)
          clear hl ht hb hT4 hm
          go_wp2_with fail
          refine HU2.out.mono ?_
          rintro e w5 ⟨rfl, hb5⟩
          have HM5 := Lib.hid (HM4.out.keeps hb5)
          clear hb5 HU2
          have c0 := HM5.out.c0
          have c1 := HM5.out.c1
          have f0 := HM5.out.f0
          have f1 := HM5.out.f1
          go_wp2
          obtain ⟨hr, ht⟩ := HM5.out.fin (.int .u8 0) (.string ⟨#[]⟩)
          have k0 := hr.cell 0
          have k1 := hr.cell 1
          simp at k0 k1
          refine bodyPost_ret (v := .tuple #[.agg #[.int .u8 0, .string ⟨#[]⟩], .int .i64 0, .int .u8 3]) ?_ rfl (HP.out _ _ rfl ht)
          simp [results, Tryd.results20, go_sem, k0, k1]
  · have HP := Lib.hid (HBAD.out (look_c h9 hs))
    have HU := Lib.hid (show Calls Tryd.prog 28 #[.string (tb b), .int .i64 9] o _ from unsealed_bad b 9 o (hT.keeps HM.out.below) h9 (by omega) (by omega) hs)
    generalize tb b = s at *
    generalize ReadV b w = Q at *
    clear hs h9 hT
    go_enter Tryd.func20, Tryd.ntmps20
    go_wp2_with fail
    refine HU.out.mono ?_
    rintro e w1 ⟨rfl, hb1⟩
    have HM1 := Lib.hid (HM.out.keeps hb1)
    clear hb1
    have c0 := HM1.out.c0
    have c1 := HM1.out.c1
    have f0 := HM1.out.f0
    have f1 := HM1.out.f1
    go_wp2
    obtain ⟨hr, ht⟩ := HM1.out.fin (.int .u8 0) (.string ⟨#[]⟩)
    have k0 := hr.cell 0
    have k1 := hr.cell 1
    simp at k0 k1
    refine bodyPost_ret (v := .tuple #[.agg #[.int .u8 0, .string ⟨#[]⟩], .int .i64 0, .int .u8 3]) ?_ rfl (HP.out _ _ rfl ht)
    simp [results, Tryd.results20, go_sem, k0, k1]

theorem read_any (b : List UInt8) (w : World) (hT : Tab w) (hmax : b.length ≤ 1000000) : Calls Tryd.prog 20 #[.string (tb b)] w (ReadV b w) := by
  rcases Nat.lt_or_ge b.length 9 with h | h
  · exact read_short b w h
  · exact read_long b w hT h hmax
end Go.Proofs.YtlhcacancnmhcaaDoor
