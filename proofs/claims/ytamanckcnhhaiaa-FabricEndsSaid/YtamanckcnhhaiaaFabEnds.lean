/-
  FabricEnds: the walk.
-/
import Derived.Test.YtamanckcnhhaiaaFabTwo
namespace Go.Proofs.Ytamanckcnhhaiaa
open Go.RowKit

/-- A letter more on the way that is looked at. -/
theorem ends_more {la : List MB} {L : List ByteArray} {k : Nat} (h : qu la (0, 1) = L.take (min k 64)) (hk : k < L.length) : addE la ((0, 1), L[k]) = (if k < 64 then 0 else 6) ∧ qu (addL la ((0, 1), L[k])) (0, 1) = L.take (min (k + 1) 64) := by
  have hl : (qu la (0, 1)).length = min k 64 := by rw [h, List.length_take]; omega
  rw [qu_add_same]
  unfold addE
  rw [show ((((0 : Int), (1 : Int)), L[k]) : MB).1 = (0, 1) from rfl, hl]
  by_cases h64 : k < 64
  · rw [if_pos (by omega), if_pos h64, if_pos (by omega), h, show min (k + 1) 64 = k + 1 by omega, show min k 64 = k by omega, List.take_succ_eq_append_getElem hk]
    exact ⟨rfl, rfl⟩
  · rw [if_neg (by omega), if_neg h64, if_neg (by omega), h, show min (k + 1) 64 = 64 by omega, show min k 64 = 64 by omega]
    exact ⟨rfl, rfl⟩

/-- What holds at the head of each round of the first loop. -/
structure EndsA (W : World) (p q : Value) (L : List ByteArray) (other : Int) (k : Nat) (la lb : List MB) (w : World) : Prop where
  two : Two W p la q lb w
  na : la.length ≤ 2 * k
  nb : lb.length ≤ 2 * k
  qa : qu la (0, 1) = L.take (min k 64)
  qb : other ≠ 0 → qu lb (0, 1) = L.take (min k 64)
/-- What holds at the head of each round of the second one. -/
structure EndsB (W : World) (p q : Value) (L : List ByteArray) (m k : Nat) (la lb : List MB) (w : World) : Prop where
  two : Two W p la q lb w
  na : la.length ≤ 200
  nb : lb.length ≤ 200
  qa : qu la (0, 1) = (L.take m).drop k
  qb : qu lb (0, 1) = L.take (m - k)

theorem EndsA.next {W : World} {p q : Value} {L : List ByteArray} {other : Int} {k : Nat} {la lb : List MB} {w w' : World} (h : EndsA W p q L other k la lb w) (hk : k < L.length) (h1 : other ≠ 1) (x y : ByteArray)
    (ht : Two W p (addL (addL la ((0, 1), L[k])) ((0, other), x)) q (addL (addL lb ((0, 1), L[k])) ((other, 1), y)) w') : EndsA W p q L other (k + 1) (addL (addL la ((0, 1), L[k])) ((0, other), x)) (addL (addL lb ((0, 1), L[k])) ((other, 1), y)) w' := by
  refine ⟨ht, ?_, ?_, ?_, fun h0 => ?_⟩
  · have := addL_length (addL la ((0, 1), L[k])) ((0, other), x)
    have := addL_length la ((0, 1), L[k])
    have := h.na
    omega
  · have := addL_length (addL lb ((0, 1), L[k])) ((other, 1), y)
    have := addL_length lb ((0, 1), L[k])
    have := h.nb
    omega
  · rw [qu_add_other _ _ _ (fun e => h1 (Prod.ext_iff.1 e).2)]
    exact (ends_more h.qa hk).2
  · rw [qu_add_other _ _ _ (fun e => h0 (Prod.ext_iff.1 e).1)]
    exact (ends_more (h.qb h0) hk).2

theorem EndsB.front {W : World} {p q : Value} {L : List ByteArray} {m k : Nat} {la lb : List MB} {w : World} (h : EndsB W p q L m k la lb w) (hk : k < m) (hm : m ≤ L.length) :
    Calls Try.prog 7 #[p, .int .i64 0, .int .i64 1, .int .i64 0] w fun e w' => e = .returned (.tuple #[.string L[k], .int .i64 0]) ∧ ∃ l' : List MB, l'.length ≤ 200 ∧ qu l' (0, 1) = (L.take m).drop (k + 1) ∧ Two W p l' q lb w' := by
  have hl : 0 < (qu la (0, 1)).length := by rw [h.qa, List.length_drop, List.length_take]; omega
  have hx : (qu la (0, 1))[0] = L[k] := by
    rw [List.getElem_of_eq h.qa hl, List.getElem_drop, List.getElem_take]
    rfl
  refine (take_two h.two 0 1 0 0 rfl (by have := h.na; omega) hl).mono ?_
  rintro e w' ⟨rfl, l', h1, h2, h3⟩
  refine ⟨by rw [hx], l', by have := h.na; omega, ?_, h3⟩
  rw [h1, h.qa, List.eraseIdx_zero, List.tail_drop]
theorem EndsB.back {W : World} {p q : Value} {L : List ByteArray} {m k : Nat} {la lb l' : List MB} {w w' : World} (h : EndsB W p q L m k la lb w) (hk : k < m) (hm : m ≤ L.length) (ht : Two W p l' q lb w') (r : Nat) (hr : r = m - 1 - k) (hrl : r < L.length) :
    Calls Try.prog 7 #[q, .int .i64 0, .int .i64 1, .int .i64 (r : Int)] w' fun e w' => e = .returned (.tuple #[.string L[r], .int .i64 0]) ∧ ∃ m' : List MB, m'.length ≤ 200 ∧ qu m' (0, 1) = L.take (m - (k + 1)) ∧ Two W p l' q m' w' := by
  have hl : r < (qu lb (0, 1)).length := by rw [h.qb, List.length_take]; omega
  have hx : (qu lb (0, 1))[r] = L[r] := by rw [List.getElem_of_eq h.qb hl, List.getElem_take]
  refine (take_two ht.swap 0 1 r _ rfl (by have := h.nb; omega) hl).mono ?_
  rintro e w' ⟨rfl, m', h1, h2, h3⟩
  refine ⟨by rw [hx], m', by have := h.nb; omega, ?_, h3.swap⟩
  rw [h1, h.qb, List.eraseIdx_eq_take_drop_succ, List.take_take, List.drop_of_length_le (by rw [List.length_take]; omega), List.append_nil]
  congr 1
  omega

set_option maxRecDepth 100000 in
set_option maxHeartbeats 4000000 in
theorem ends_off (v : Value) (N c : Nat) (A : Option Addr) (other : Int) (W : World) (hv : v = .slice A N c) (hN : 70 < N ∨ other = 1) (hm : N ≤ 9223372036854775807) : Calls Try.prog 3 #[v, .int .i64 other] W fun e w' => e = .returned (.bool true) ∧ Below W.heap.size W w' := by
  subst hv
  by_cases h70 : 70 < N
  · have hI : (70 : Int) < (N : Int) := by omega
    go_enter Try.func3, Try.ntmps3
    go_wp2_with fail
    refine (head_any W).mono ?_
    rintro e w1 ⟨rfl, hb⟩
    have HB := Lib.hid hb
    clear hb
    go_wp2
    go_ret
    exact ⟨rfl, HB.out⟩
  · obtain rfl : other = 1 := by omega
    have hI : ¬ (70 : Int) < (N : Int) := by omega
    go_enter Try.func3, Try.ntmps3
    go_wp2_with fail
    refine (head_any W).mono ?_
    rintro e w1 ⟨rfl, hb⟩
    have HB := Lib.hid hb
    clear hb
    go_wp2
    go_ret
    exact ⟨rfl, HB.out⟩

set_option maxRecDepth 100000 in
set_option maxHeartbeats 8000000 in
theorem ends_on (N c : Nat) (A : Option Addr) (L : List ByteArray) (other : Int) (W : World) (hs : Strs W A L) (hL : L.length = N) (hN : N ≤ 70) (h1 : other ≠ 1) : Calls Try.prog 3 #[.slice A N c, .int .i64 other] W fun e w' => e = .returned (.bool true) ∧ Below W.heap.size W w' := by
  have hI : ¬ (70 : Int) < (N : Int) := by omega
  have hb1 : (other == 1) = false := beq_eq_false_iff_ne.2 h1
  have HS := Lib.hid hs
  have HL := Lib.hid (fun _ : Unit => hL)
  have HO := Lib.hid h1
  clear hs hL h1
  go_enter Try.func3, Try.ntmps3
  go_wp2_with fail
  refine (new_fab (W := W) (Below.refl _ _)).mono ?_
  rintro e w1 ⟨pa, rfl, h1⟩
  have H1 := Lib.hid h1
  clear h1
  go_wp2_with fail
  refine (new_any w1).mono ?_
  rintro e w2 ⟨d, rfl, h2⟩
  have H2 := Lib.hid (two_new H1.out ⟨d, rfl, h2⟩)
  have H3 := Lib.hid (show EndsA W (.pointer (some ⟨pa, 0, none⟩)) (.pointer (some ⟨d.b, 0, none⟩)) L other 0 [] [] w2 from ⟨H2.out, Nat.zero_le _, Nat.zero_le _, rfl, fun _ => rfl⟩)
  clear h2 H1 H2
  unfold FV.ptr
  generalize (Value.pointer (some ⟨pa, 0, none⟩)) = p at *
  generalize (Value.pointer (some ⟨d.b, 0, none⟩)) = q at *
  go_wp2_with fail
  go_loopw [7, 8] (fun x y wr => ∃ (m k : Nat) (la lb : List MB), k ≤ N ∧ x = .int .i64 (m : Int) ∧ y = .int .i64 (k : Int) ∧ Hid (m = min k 64) ∧ Hid (EndsA W p q L other k la lb wr)) (fun _ y _ => N - (intOf y).toNat)
  case atStart => exact ⟨0, 0, [], [], Nat.zero_le _, rfl, rfl, Lib.hid rfl, H3⟩
  case round =>
    obtain ⟨m, k, la, lb, hk, rfl, rfl, HM, HE⟩ := hrel
    clear H3
    by_cases hlt : k < N
    · have hkl : k < L.length := by rw [HL.out ()]; exact hlt
      have hkI : (k : Int) < (N : Int) := by omega
      have hNI : (N : Int) ≤ 70 := by omega
      obtain ⟨g, off, rfl, HC0⟩ := HS.out.at_ hkl
      have HC1 := Lib.hid (HC0.out k hkl)
      have HE1 := Lib.hid (ends_more HE.out.qa hkl).1
      have HF1 := Lib.hid (fun h0 => (ends_more (HE.out.qb h0) hkl).1)
      have HNX := Lib.hid (fun x y w' ht => HE.out.next hkl HO.out x y (w' := w') ht)
      have HFC := Lib.hid (addE_cases lb ((0, 1), L[k]))
      obtain ⟨s, hsk⟩ : ∃ s, L[k] = s := ⟨_, rfl⟩
      simp only [hsk] at HC1 HE1 HF1 HNX HFC
      have HC := Lib.hid (fun wx (hb : Below W.heap.size W wx) => HC1.out wx hb)
      have c0 := HC.out wr HE.out.two.since
      clear HC0 HC1 hsk hkl
      by_cases h100 : 100 < s.size
      · have hsI : (100 : Int) < (s.size : Int) := by omega
        have HB0 := Lib.hid HE.out.two.since
        clear HE HE1 HF1 HNX HFC HM HC
        go_wp2_with fail
        refine (head_any wr).mono ?_
        rintro e w1 ⟨rfl, hb⟩
        have HB := Lib.hid (HB0.out.trans (hb.mono HB0.out.size))
        clear hb
        go_wp2
        go_ret
        exact ⟨rfl, HB.out⟩
      · have hsI : ¬ (100 : Int) < (s.size : Int) := by omega
        have HSZ := Lib.hid (show s.size ≤ 262144 by omega)
        have HLA := Lib.hid (show la.length ≤ 1000 by have := HE.out.na; omega)
        have HLB := Lib.hid (show lb.length ≤ 1000 by have := HE.out.nb; omega)
        obtain ⟨wd, hwd⟩ : ∃ wd, wr.drew = wd := ⟨_, rfl⟩
        have HTd := Lib.hid (show Two W p la q lb wd from hwd ▸ HE.out.two.keeps (below_drew (Below.refl _ _)))
        have hHeld := HC.out wd HTd.out.since
        clear HE h100
        go_wp2_with fail
        refine wp_region_noPanic ?_
        refine wp_region_sch (fun wx => wx.cell? ⟨g, off + k, none⟩ = some (.string s)) (fun i => [5, 11].contains i)
          (.takes [0, 1, 2, 3, 4, 6, 7, 8, 9, 10] (.run 5 (.run 11 (.takes [12, 13] .done)))) (by kernel_rfl) (fun _ _ _ _ _ h => h) (by kernel_rfl) ?_
        rw [hwd]
        clear hwd
        iterate 10 (
          refine sch_takes_cons ?_
          first
            | (refine sch_take (v := ?_) rfl (by assumption) (by rfl) ?_ ?_; rotate_left; (focus (intro wy hSy; (try dsimp only at hSy); go_simp; (try with_reducible rfl))))
            | (refine sch_pass rfl (by assumption) (by rfl) ?_)
          simp only [Act.put, List.setIfInBounds_toArray, List.set_cons_zero, List.set_cons_succ])
        refine sch_takes_nil ?_
        refine sch_run rfl (fun K hK => ?_)
        go_simp
        with_reducible refine (send_two HTd.out 0 1 s HSZ.out (Nat.le_trans HLA.out (by decide))).mono ?_
        rintro e w5 ⟨rfl, ht5⟩
        have HT5 := Lib.hid ht5.swap
        have hHeld := HC.out w5 ht5.since
        clear ht5 HTd
        refine hK.out _ _ (fun _ => hHeld) ?_
        clear hK K
        try simp only [Act.put, List.setIfInBounds_toArray, List.set_cons_zero, List.set_cons_succ]
        refine sch_run rfl (fun K hK => ?_)
        go_simp
        with_reducible refine (send_two HT5.out 0 1 s HSZ.out (Nat.le_trans HLB.out (by decide))).mono ?_
        rintro e w6 ⟨rfl, ht6⟩
        have HT6 := Lib.hid ht6.swap
        have hHeld := HC.out w6 ht6.since
        clear ht6 HT5
        refine hK.out _ _ (fun _ => hHeld) ?_
        clear hK K
        try simp only [Act.put, List.setIfInBounds_toArray, List.set_cons_zero, List.set_cons_succ]
        iterate 2 (
          refine sch_takes_cons ?_
          first
            | (refine sch_take (v := ?_) rfl (by assumption) (by rfl) ?_ ?_; rotate_left; (focus (intro wy hSy; (try dsimp only at hSy); go_simp; (try with_reducible rfl))))
            | (refine sch_pass rfl (by assumption) (by rfl) ?_)
          simp only [Act.put, List.setIfInBounds_toArray, List.set_cons_zero, List.set_cons_succ])
        refine sch_takes_nil ?_
        refine sch_done ?_
        refine NoPanic.normal ?_
        clear hHeld
        obtain ⟨e1, he1⟩ : ∃ e1, addE la ((0, 1), s) = e1 := ⟨_, rfl⟩
        obtain ⟨f1, hf1⟩ : ∃ f1, addE lb ((0, 1), s) = f1 := ⟨_, rfl⟩
        rw [he1] at HE1 ⊢
        rw [hf1] at HF1 HFC ⊢
        obtain ⟨la1, hla1⟩ : ∃ la1, addL la ((0, 1), s) = la1 := ⟨_, rfl⟩
        obtain ⟨lb1, hlb1⟩ : ∃ lb1, addL lb ((0, 1), s) = lb1 := ⟨_, rfl⟩
        rw [hla1, hlb1] at HT6 HNX
        have HLA1 := Lib.hid (show la1.length ≤ 100000 by rw [← hla1]; have := addL_length la ((0, 1), s); have := HLA.out; omega)
        have HLB1 := Lib.hid (show lb1.length ≤ 100000 by rw [← hlb1]; have := addL_length lb ((0, 1), s); have := HLB.out; omega)
        clear he1 hf1 hla1 hlb1 HLA HLB
        have HSN := Lib.hid (fun wx (hb : Two W p la1 q lb1 wx) => (send_two hb 0 other ⟨#[120]⟩ (by decide) HLA1.out).mono fun e w' hh => And.intro hh.1 hh.2.swap)
        have HSM := Lib.hid (fun wx (ll : List MB) (hb : Two W q lb1 p ll wx) => (send_two hb other 1 ⟨#[121]⟩ (by decide) HLB1.out).mono fun e w' hh => And.intro hh.1 hh.2.swap)
        go_wp2_with fail
        refine (HSN.out w6 HT6.out).mono ?_
        rintro e w7 ⟨rfl, ht7⟩
        have HT7 := Lib.hid ht7
        clear ht7 HT6 HSN
        go_wp2_with fail
        refine (HSM.out w7 _ HT7.out).mono ?_
        rintro e w8 ⟨rfl, ht8⟩
        have HX := Lib.hid (HNX.out ⟨#[120]⟩ ⟨#[121]⟩ w8 ht8)
        clear ht8 HT7 HSM HNX HLA1 HLB1
        generalize addE la1 ((0, other), ⟨#[120]⟩) = y1
        generalize addE lb1 ((other, 1), ⟨#[121]⟩) = y2
        by_cases h64 : k < 64
        · have h64I : (k : Int) < 64 := by omega
          have HM2 := Lib.hid (show m + 1 = min (k + 1) 64 by have := HM.out; omega)
          have hmI : (m : Int) < 64 := by have := HM.out; omega
          obtain rfl : e1 = 0 := by have := HE1.out; rw [if_pos h64] at this; exact this
          rcases HFC.out with rfl | rfl
          · clear HE1 HF1 HFC h64
            go_wp2_with fail
            go_roundw
            case rel => exact ⟨m + 1, k + 1, _, _, by omega, by go_num, by go_num, HM2, HX⟩
            case measure => simp [intOf]; omega
          · have h00 : other = 0 := Classical.byContradiction fun hne => by have := HF1.out hne; rw [if_pos h64] at this; omega
            subst h00
            clear HE1 HF1 HFC h64
            go_wp2_with fail
            go_roundw
            case rel => exact ⟨m + 1, k + 1, _, _, by omega, by go_num, by go_num, HM2, HX⟩
            case measure => simp [intOf]; omega
        · have h64I : ¬ (k : Int) < 64 := by omega
          have HM2 := Lib.hid (show m = min (k + 1) 64 by have := HM.out; omega)
          obtain rfl : e1 = 6 := by have := HE1.out; rw [if_neg h64] at this; exact this
          clear HE1 HF1 HFC h64
          go_wp2_with fail
          go_roundw
          case rel => exact ⟨m, k + 1, _, _, by omega, by go_num, by go_num, HM2, HX⟩
          case measure => simp [intOf]; omega
    · obtain rfl : k = N := by omega
      have hkI : ¬ (k : Int) < (k : Int) := by omega
      by_cases h0 : other = 0
      · subst h0
        go_wp2_with fail
        refine (head_any wr).mono ?_
        rintro e w1 ⟨rfl, hb⟩
        have HB := Lib.hid (HE.out.two.since.trans (hb.mono HE.out.two.since.size))
        clear hb
        go_wp2
        go_ret
        exact ⟨rfl, HB.out⟩
      · have hb0 : (other == 0) = false := beq_eq_false_iff_ne.2 h0
        have HF := Lib.hid (show EndsB W p q L m 0 la lb wr from ⟨HE.out.two, by have := HE.out.na; omega, by have := HE.out.nb; omega, by rw [HE.out.qa, HM.out]; rfl, by rw [HE.out.qb h0, HM.out]; rfl⟩)
        have HMK := Lib.hid (show m ≤ k ∧ m ≤ 64 by have := HM.out; omega)
        clear HE HM h0
        go_wp2_with fail
        go_loopw [11] (fun x wr => ∃ (j : Nat) (la lb : List MB), j ≤ m ∧ x = .int .i64 (j : Int) ∧ Hid (EndsB W p q L m j la lb wr)) (fun x _ => m - (intOf x).toNat)
        case atStart => exact ⟨0, la, lb, Nat.zero_le _, rfl, HF⟩
        case round =>
          obtain ⟨j, la, lb, hj, rfl, HB⟩ := hrel
          clear HF
          by_cases hjm : j < m
          · have hjI : (j : Int) < (m : Int) := by omega
            have hmI : (m : Int) ≤ 64 := by have := HMK.out; omega
            have hjl : j < L.length := by rw [HL.out ()]; have := HMK.out; omega
            have hml : m ≤ L.length := by rw [HL.out ()]; exact HMK.out.1
            have hmN : (m : Int) ≤ (k : Int) := by have := HMK.out; omega
            obtain ⟨g, off, rfl, HC0⟩ := HS.out.at_ hjl
            obtain ⟨r, hrr⟩ : ∃ r, r = m - 1 - j := ⟨_, rfl⟩
            have hrl : r < L.length := by omega
            have hr : (m : Int) - 1 - (j : Int) = (r : Int) := by omega
            have hrI : (r : Int) < (k : Int) := by have := HMK.out; omega
            have hjN : (j : Int) < (k : Int) := by omega
            have HFR := Lib.hid (HB.out.front hjm hml)
            have HBK := Lib.hid (fun (l' : List MB) (w' : World) (ht : Two W p l' q lb w') => HB.out.back hjm hml ht r hrr hrl)
            have HC1 := Lib.hid (fun wx (hb : Below W.heap.size W wx) => And.intro (HC0.out j hjl wx hb) (HC0.out r hrl wx hb))
            obtain ⟨s, hs1⟩ : ∃ s, L[j] = s := ⟨_, rfl⟩
            obtain ⟨t, ht1⟩ : ∃ t, L[r] = t := ⟨_, rfl⟩
            simp only [hs1, ht1] at HFR HBK HC1
            clear HC0 hs1 ht1 hrr hrl hjl hml HB
            go_wp2_with fail
            refine HFR.out.mono ?_
            rintro e w5 ⟨rfl, l', n1, q1, t1⟩
            have HT1 := Lib.hid t1
            have HN1 := Lib.hid (And.intro n1 q1)
            have HBK1 := Lib.hid (HBK.out l' w5 t1)
            clear n1 q1 t1 HFR HBK
            go_wp2_with fail
            refine HBK1.out.mono ?_
            rintro e w6 ⟨rfl, m', n2, q2, t2⟩
            have HX := Lib.hid (show EndsB W p q L m (j + 1) l' m' w6 from ⟨t2, HN1.out.1, n2, HN1.out.2, q2⟩)
            obtain ⟨c5, c6⟩ := HC1.out w6 t2.since
            clear n2 q2 t2 HT1 HN1 HBK1 HC1
            go_wp2_with fail
            go_roundw
            case rel => exact ⟨j + 1, l', m', by omega, by go_num, HX⟩
            case measure => simp [intOf]; omega
          · obtain rfl : j = m := by omega
            have hjI : ¬ (j : Int) < (j : Int) := by omega
            obtain ⟨o, X, hX, hmk⟩ := zeros_text 262145 (by decide) 262145 rfl
            have hmk1 := fun wx => (hmk wx).1
            have hmk2 := fun wx => (hmk wx).2
            have qa0 : (qu la (0, 1)).length = 0 := by rw [HB.out.qa, List.drop_of_length_le (by rw [List.length_take]; omega)]; rfl
            have qb0 : (qu lb (0, 1)).length = 0 := by rw [HB.out.qb, Nat.sub_self]; rfl
            have HCA := Lib.hid (count_two HB.out.two 0 1 (by have := HB.out.na; omega))
            have HCB := Lib.hid (fun wx (ht : Two W p la q lb wx) => count_two ht.swap 0 1 (by have := HB.out.nb; omega))
            have HSL := Lib.hid (fun wx (ht : Two W p la q lb wx) => send_two_long ht 0 1 X (by omega))
            rw [qa0] at HCA
            simp only [qb0] at HCB
            clear hmk qa0 qb0 hX HB
            go_wp2_with fail
            refine HCA.out.mono ?_
            rintro e w5 ⟨rfl, t1⟩
            have HCB1 := Lib.hid (HCB.out w5 t1)
            clear t1 HCA HCB
            go_wp2_with fail
            refine HCB1.out.mono ?_
            rintro e w6 ⟨rfl, t2⟩
            have HT2 := Lib.hid (t2.swap.keeps ((Below.refl _ _).alloc (Nat.le_refl _) o))
            have HSL1 := Lib.hid (HSL.out _ HT2.out)
            clear t2 HCB1 HSL
            go_wp2_with fail
            refine HSL1.out.mono ?_
            rintro e w7 ⟨rfl, rfl⟩
            go_wp2_with fail
            refine (head_any _).mono ?_
            rintro e w8 ⟨rfl, hb⟩
            have HE := Lib.hid (HT2.out.since.trans (hb.mono HT2.out.since.size))
            clear hb
            go_wp2
            go_ret
            exact ⟨rfl, HE.out⟩
end Go.Proofs.Ytamanckcnhhaiaa
