/-
  The walk over package lsns: Get.
-/
import Derived.Test.YtpjgmblhlhnniaaLsnsCodeC
import Derived.Test.YtpjgmblhlhnniaaLsnsGetMath
import Derived.Test.YtpjgmblhlhnniaaLsnsCodeP
namespace Go.Proofs.Ytpjgmblhlhnniaa
open Go.RowKit

/-- A call's answer: a set in memory of its own, how many bytes it has, and an error's number. -/
def GotG (w : World) (y : LS) (k e : Nat) (r : Ending) (wr : World) : Prop :=
  ∃ Y : LV, r = .returned (.tuple #[.agg #[.int .u64 (Y.low : Int), .slice Y.A Y.n Y.c], .int .i64 (k : Int), .int .i64 (e : Int)]) ∧ Y.s = y ∧ Y.In wr ∧ Below w.heap.size w wr

theorem Rdr.apart {w w' : World} {g : Nat} {r : Option Nat} (hb : w.grownBy w' r) (hr : ∀ k, r = some k → ∃ cs m, Row w k 22 cs m) : ∀ {st : Option (List UInt8)}, Rdr w g st → Rdr w' g st
  | none, ⟨v, h⟩ => ⟨v, h.grown hb (fun e => by
      obtain ⟨cs, m, hk⟩ := hr g e.symm
      exact Row.ne_ h hk (by decide) rfl)⟩
  | some _, ⟨h, off, c, h1, h2, h3, h4⟩ => ⟨h, off, c, h1, h2, h3.grown hb (fun e => by
      obtain ⟨cs, m, hk⟩ := hr g e.symm
      exact Row.ne_ h3 hk (by decide) rfl), h4.grown hb (fun k t cs m hk e => by
      obtain ⟨cs', m', hk'⟩ := hr k e
      intro ht
      exact absurd rfl (Row.ne_ hk hk' (by rw [ht]; decide)))⟩

/-- In the midst of Get: the result's cells, the reader, and the numbers so far. -/
structure MidG (w : World) (g : Nat) (st : Option (List UInt8)) (l : List Nat) (v : Value) (wr : World) : Prop where
  made : Made w l v wr
  res : Row wr w.heap.size 25 [.int .u64 0, .slice none 0 0] (0, 0)
  rd : Rdr wr g st
  up : w.heap.size ≤ g

section
variable {w wr w' : World} {g m : Nat} {st st' : Option (List UInt8)} {l l' : List Nat} {v v' : Value}
theorem MidG.r0 (h : MidG w g st l v wr) : wr.cell? ⟨w.heap.size, 0, none⟩ = some (.int .u64 0) := by rw [h.res.cell]; rfl
theorem MidG.r1 (h : MidG w g st l v wr) : wr.cell? ⟨w.heap.size, 1, none⟩ = some (.slice none 0 0) := by rw [h.res.cell]; rfl
theorem MidG.f0 (h : MidG w g st l v wr) : wr.frozen? ⟨w.heap.size, 0, none⟩ = false := h.res.loose 0
theorem MidG.f1 (h : MidG w g st l v wr) : wr.frozen? ⟨w.heap.size, 1, none⟩ = false := h.res.loose 1
theorem MidG.now (h : MidG w g st l v wr) (hn : Now wr g st' w') : MidG w g st' l v w' := by
  obtain ⟨cs, mk, hg⟩ := h.rd.row
  refine ⟨⟨⟨h.made.1.1, ?_⟩, h.made.2.grown hn.1 h.made.2.size (fun k hk => by injection hk with hk; have := h.up; omega)⟩, h.res.grown hn.1 (fun e => by injection e with e; exact Row.ne_ h.res hg (by decide) e), hn.2, h.up⟩
  rcases h.made.1.2 with h0 | ⟨k, cap, cur, rfl, h1, hk, rest⟩
  · exact .inl h0
  · exact .inr ⟨k, cap, cur, rfl, h1, Row.grown (cs := cur.toList) hk hn.1 (fun e => by injection e with e; exact Row.ne_ (cs := cur.toList) hk hg (by decide) e), rest⟩
theorem MidG.alloc (h : MidG w g st l v wr) (o : Obj) : MidG w g st l v (wr.alloc o) := ⟨h.made.keepRow o, h.res.alloc o, h.rd.box o, h.up⟩
theorem MidG.keeps (h : MidG w g st l v wr) (hb : Below wr.heap.size wr w') : MidG w g st l v w' := ⟨h.made.keep hb, h.res.below hb h.res.lt, h.rd.below hb, h.up⟩
theorem MidG.more (h : MidG w g st l v wr) (hm : l'.length = m) (h1 : w'.ownsRow w.heap.size 22 1 v' (l.length + m) (nv l ++ nv l')) (hg : wr.grownBy w' v.ownBlock) : MidG w g st (l ++ l') v' w' :=
  ⟨h.made.more hm h1 hg, h.res.grown hg (own_ne h.made.1 h.res (by decide)), h.rd.apart hg (fun k hk => by
    rcases h.made.1.2 with ⟨rfl, _⟩ | ⟨k2, cap, cur, rfl, _, hk2, _⟩
    · cases hk
    · obtain rfl : k2 = k := by simpa [Value.ownBlock] using hk
      exact ⟨cur.toList, (0, 0), hk2⟩), h.up⟩
theorem MidG.zero (h : MidG w g st l v wr) (e : Nat) : Row ((wr.setCell ⟨w.heap.size, 0, none⟩ (.int .u64 0)).setCell ⟨w.heap.size, 1, none⟩ (.slice none 0 0)) w.heap.size 25 [.int .u64 0, .slice none 0 0] (0, 0) ∧
    GotG w LS.zero 0 e (.returned (.tuple #[.agg #[.int .u64 0, .slice none 0 0], .int .i64 0, .int .i64 (e : Int)])) ((wr.setCell ⟨w.heap.size, 0, none⟩ (.int .u64 0)).setCell ⟨w.heap.size, 1, none⟩ (.slice none 0 0)) :=
  ⟨(h.res.put 0 _).put 1 _, ⟨0, none, 0, 0, []⟩, rfl, rfl, ⟨rfl, Nat.le_refl _, fun _ => rfl, by decide, (fun k hk => by cases hk), RN.nil⟩, (h.made.2.setCell (Nat.le_refl _) _).setCell (Nat.le_refl _) _⟩
end

theorem slice_head {P : Program} {t : TypeId} (ht : P.underlying t = some (.slice (P.elem t))) (hs : ∀ w, (sizeOf (P.elem t)).run P w = .ok 1 w) (A : Option Addr) (n c : Nat) (i : Int) (k : Nat) (hi : i = (k : Int)) (hk : k ≤ c) (w : World) :
    (Instr.slice t (.slice A n c) none (some (.int .i64 i)) none).run P w = .ok (.slice A k c) w := by
  subst hi
  rw [run_slice_h (w := w) t A n c ht .i64 (k : Int) (by omega) (by omega), hs]
  simp only [Result.andThen, sliced, Nat.zero_mul, Int.toNat_natCast, Nat.sub_zero]
  congr 2
  split
  · rfl
  · cases A with
    | none => rfl
    | some a => exact congrArg some (by cases a; simp [Addr.add])

/-- A set out of numbers of the call's own. -/
theorem Made.isIn {w wr : World} {A : Option Addr} {n c lo : Nat} {l : List Nat} (h : Made w l (.slice A n c) wr) (hn : l.length = n) (hlo : lo < 18446744073709551616) (hf : ∀ x ∈ l, x < 18446744073709551616) : LV.In wr ⟨lo, A, n, c, l⟩ := by
  obtain ⟨A', c', hv, hc, hnil, ho, _⟩ := h.own
  simp only [Value.slice.injEq] at hv
  obtain ⟨rfl, rfl, rfl⟩ := hv
  exact ⟨rfl, hc, hnil, hlo, hf, ho.reads⟩

/-- Behind the opening. -/
def OpenedG (w : World) (cut : List UInt8) (s5 : Value) (wx : World) : Prop :=
  ∃ g, s5 = .pointer (some ⟨g, 0, none⟩) ∧ MidG w g (some cut) [] (.slice none 0 0) wx

set_option maxRecDepth 100000 in
set_option maxHeartbeats 4000000 in
theorem get_any {T : TypeId} (A : Option Addr) (b : List UInt8) (c : Nat) (w : World) (hr : Reads T w A b) (hbc : b.length ≤ c) (hb : b.length ≤ 100000) :
    Calls Try.prog 29 #[.slice A b.length c] w (GotG w (getS b).1 (getS b).2.1 (getS b).2.2) := by
  obtain ⟨i0, hi0, hz0, hz1, hz2⟩ := Try.info64
  have HSZ := Lib.hid (fun w => show Calls Try.prog 40 #[.int .i64 1000] w fun e w' => e = .returned (.int .i64 8010) ∧ w = w' from size_any 1000 (by omega) w)
  have HG := Lib.hid (codeG_eq b)
  obtain ⟨G, hG⟩ : ∃ G, getS b = G := ⟨_, rfl⟩
  rw [hG] at HG ⊢
  clear hG
  obtain ⟨cut, hcut⟩ : ∃ cut, b.take 8010 = cut := ⟨_, rfl⟩
  have hcl : cut.length = min 8010 b.length := by rw [← hcut, List.length_take]
  rw [hcut] at HG
  have HRC := Lib.hid (show Reads T (w.alloc (.cells #[.int .u64 0, .slice none 0 0] 25)) A cut from by rw [← hcut]; exact (hr.take 8010).below ((Below.refl _ _).alloc (Nat.le_refl _) _) (Nat.le_refl _))
  clear hcut hr
  have HO := Lib.hid (open_any A cut c (w.alloc (.cells #[.int .u64 0, .slice none 0 0] 25)) HRC.out (by omega))
  have HM0 := Lib.hid (fun (w1 : World) (g : Nat) (hg : w.heap.size + 1 ≤ g) (hrd : Rdr w1 g (some cut)) (hb1 : Below (w.alloc (.cells #[.int .u64 0, .slice none 0 0] 25)).heap.size (w.alloc (.cells #[.int .u64 0, .slice none 0 0] 25)) w1) =>
    show MidG w g (some cut) [] (.slice none 0 0) w1 from
      ⟨Made.nil _ _ ((below_new w _).trans (hb1.mono (by rw [size_new]; omega))), (Row.new w 25 [.int .u64 0, .slice none 0 0] (0, 0)).below hb1 (by rw [size_new]; omega), hrd, by omega⟩)
  go_enter Try.func29, Try.ntmps29
  go_upto_region 1 with fail
  go_cut [5] (fun s5 wx => OpenedG w cut s5 wx)
  case first =>
    by_cases hlong : 8010 < b.length
    · have hl2 : (8010 : Int) < (b.length : Int) := by omega
      have hc8 : cut.length = 8010 := by omega
      have hsl := slice_head (P := Try.prog) (t := 44) Try.underlying44 (fun w => by kernel_rfl) A b.length c 8010 8010 rfl (by omega)
      rw [hc8] at HO
      clear hcl hc8
      go_wp2_with (go_at_call 40; refine (HSZ.out _).mono ?_; rintro e w' ⟨rfl, rfl⟩)
      refine HO.out.mono ?_
      rintro e w1 ⟨g, rfl, hg, hrd, hb1⟩
      have HM := Lib.hid (HM0.out w1 g (by rw [size_new] at hg; exact hg) hrd hb1)
      clear hg hrd hb1
      go_wp2_with fail
      try go_frame
      go_meet
      exact ⟨g, rfl, HM.out⟩
    · have hl2 : ¬ ((8010 : Int) < (b.length : Int)) := by omega
      have hc8 : cut.length = b.length := by omega
      have hsl := slice_head (P := Try.prog) (t := 44) Try.underlying44 (fun w => by kernel_rfl) A b.length c (b.length : Int) b.length rfl hbc
      rw [hc8] at HO
      clear hcl hc8
      go_wp2_with (go_at_call 40; refine (HSZ.out _).mono ?_; rintro e w' ⟨rfl, rfl⟩)
      refine HO.out.mono ?_
      rintro e w1 ⟨g, rfl, hg, hrd, hb1⟩
      have HM := Lib.hid (HM0.out w1 g (by rw [size_new] at hg; exact hg) hrd hb1)
      clear hg hrd hb1
      go_wp2_with fail
      try go_frame
      go_meet
      exact ⟨g, rfl, HM.out⟩
  case rest =>
    obtain ⟨g, rfl, hm⟩ := hcut
    have HM1 := Lib.hid hm
    clear hm HO HM0 HRC hcl
    unfold codeG at HG
    have hlo := rnum_lt (some cut) 8
    have HN1 := Lib.hid (num_any g (some cut) 8 wc HM1.out.rd)
    obtain ⟨lo, hlo1⟩ : ∃ lo, (rnum (some cut) 8).1 = lo := ⟨_, rfl⟩
    obtain ⟨st1, hst1⟩ : ∃ st, (rnum (some cut) 8).2 = st := ⟨_, rfl⟩
    rw [hlo1, hst1] at HG HN1
    rw [hlo1] at hlo
    have HLO := Lib.hid hlo
    clear hlo1 hst1 hlo
    go_wp2_with fail
    refine HN1.out.mono ?_
    rintro e w1 ⟨rfl, hn1⟩
    have HM2 := Lib.hid (HM1.out.now hn1)
    clear hn1 HN1 HM1
    have HN2 := Lib.hid (num_any g st1 2 w1 HM2.out.rd)
    obtain ⟨K, hK⟩ : ∃ K, (rnum st1 2).1 = K := ⟨_, rfl⟩
    obtain ⟨st2, hst2⟩ : ∃ st, (rnum st1 2).2 = st := ⟨_, rfl⟩
    rw [hK, hst2] at HG HN2
    clear hK hst2
    go_wp2_with fail
    refine HN2.out.mono ?_
    rintro e w2 ⟨rfl, hn2⟩
    have HM3 := Lib.hid (HM2.out.now hn2)
    clear hn2 HN2 HM2
    by_cases hk : 1000 < K
    · have hg : G = (LS.zero, 0, 40) := by have := HG.out; rw [if_pos hk] at this; exact this.symm
      subst hg
      have r0 := HM3.out.r0
      have r1 := HM3.out.r1
      have f0 := HM3.out.f0
      have f1 := HM3.out.f1
      have hk2 : (1000 : Int) < (K : Int) := by omega
      clear HG
      go_wp2
      obtain ⟨hr, ht⟩ := HM3.out.zero 40
      have k0 := hr.cell 0
      have k1 := hr.cell 1
      simp at k0 k1
      refine bodyPost_ret (v := .tuple #[.agg #[.int .u64 0, .slice none 0 0], .int .i64 0, .int .i64 40]) ?_ rfl ht
      simp [results, Try.results29, go_sem, k0, k1]
    · have hk2 : ¬ ((1000 : Int) < (K : Int)) := by omega
      have HG2 := Lib.hid (show (if stN st2 K = none then (LS.zero, 0, 4) else if LS.right ⟨lo, numsN st2 K⟩ then (⟨lo, numsN st2 K⟩, 10 + 8 * K, 0) else (LS.zero, 0, 40)) = G by have := HG.out; rwa [if_neg hk] at this)
      clear HG
      go_wp2_with fail
      go_loopw [8, 25] (fun v i wr => ∃ k : Nat, k ≤ K ∧ i = .int .u64 k ∧ MidG w g (stN st2 k) (numsN st2 k) v wr) (fun _ i _ => K - (intOf i).toNat)
      case atStart => exact ⟨0, by omega, rfl, HM3.out⟩
      case round =>
        obtain ⟨k, hkK, rfl, hm⟩ := hrel
        have HMK := Lib.hid hm
        obtain ⟨A2, c2, hv, _⟩ := hm.made.own
        rw [numsN_length] at hv
        subst hv
        clear hm HM3
        by_cases hlt : k < K
        · have HN3 := Lib.hid (show Calls Try.prog 45 #[.pointer (some ⟨g, 0, none⟩), .int .i64 8] wr fun e w' => e = .returned (.int .u64 (numN st2 k : Int)) ∧ Now wr g (stN st2 (k + 1)) w' from num_any g (stN st2 k) 8 wr HMK.out.rd)
          have HNS := Lib.hid (numsN_succ st2 k)
          have HLN := Lib.hid (numsN_length st2 k)
          obtain ⟨y, hy⟩ : ∃ y, numN st2 k = y := ⟨_, rfl⟩
          rw [hy] at HN3 HNS
          clear hy
          go_wp2_with fail
          refine HN3.out.mono ?_
          rintro e w3 ⟨rfl, hn3⟩
          have HB := Lib.hid ((HMK.out.now hn3).alloc (.cells #[.int .u64 (y : Int)] 22))
          have HOW := Lib.hid (show (w3.alloc (.cells #[.int .u64 (y : Int)] 22)).ownsRow w.heap.size 22 1 (.slice A2 k c2) k (nv (numsN st2 k)) by have := HB.out.made.1; rwa [HLN.out] at this)
          have HSZ3 := Lib.hid HB.out.made.2.size
          clear hn3
          go_wp2_with (at_builtin; refine wpList_own_nums rfl (.tmp 27) (.tmp 30) 23 rfl w.heap.size 22 i0 Try.underlying23 hi0 hz0 hz1 hz2 (.slice A2 k c2) k _ rfl HOW.out _ [y] 1 1 rfl rfl (rn_one w3 y) (fun e => by cases e) (by omega) HSZ3.out ?_)
          intro v4 w4 hown hgr
          have HM4 := Lib.hid (show MidG w g (stN st2 (k + 1)) (numsN st2 (k + 1)) v4 w4 by
            rw [HNS.out]
            exact HB.out.more (l' := [y]) (m := 1) rfl (by rw [HLN.out]; exact hown) hgr)
          clear hown hgr
          go_wp2
          go_roundw
          case rel => exact ⟨k + 1, by omega, by go_num, HM4.out⟩
          case measure => simp [intOf]; omega
        · obtain rfl : k = K := by omega
          have hfits := numsN_fit st2 k
          have HLN := Lib.hid (numsN_length st2 k)
          have HFI := Lib.hid hfits
          clear hfits
          obtain ⟨F, hF⟩ : ∃ F, numsN st2 k = F := ⟨_, rfl⟩
          obtain ⟨s, hs⟩ : ∃ s, stN st2 k = s := ⟨_, rfl⟩
          rw [hF] at HMK HLN HFI HG2
          rw [hs] at HMK HG2
          clear hF hs
          cases s with
          | none =>
            obtain ⟨v, hrow⟩ := HMK.out.rd
            have HBD := Lib.hid (bad_any g false v wr hrow)
            clear hrow
            have hg : G = (LS.zero, 0, 4) := by have := HG2.out; rw [if_pos rfl] at this; exact this.symm
            subst hg
            clear HG2
            have r0 := HMK.out.r0
            have r1 := HMK.out.r1
            have f0 := HMK.out.f0
            have f1 := HMK.out.f1
            go_wp2_with (go_at_call 46; refine HBD.out.mono ?_; rintro e w' ⟨rfl, rfl⟩)
            obtain ⟨hr, ht⟩ := HMK.out.zero 4
            have k0 := hr.cell 0
            have k1 := hr.cell 1
            simp at k0 k1
            refine bodyPost_ret (v := .tuple #[.agg #[.int .u64 0, .slice none 0 0], .int .i64 0, .int .i64 4]) ?_ rfl ht
            simp [results, Try.results29, go_sem, k0, k1]
          | some rest =>
            obtain ⟨h, off, cc, _, _, hrow, _⟩ := HMK.out.rd
            have HBD := Lib.hid (bad_any g true _ wr hrow)
            clear hrow
            have HG3 := Lib.hid (show (if LS.right ⟨lo, F⟩ then (⟨lo, F⟩, 10 + 8 * k, 0) else (LS.zero, 0, 40)) = G by have := HG2.out; rwa [if_neg (by simp)] at this)
            clear HG2
            go_wp2_with (go_at_call 46; refine HBD.out.mono ?_; rintro e w' ⟨rfl, rfl⟩)
            have HX := Lib.hid (HMK.out.made.isIn HLN.out HLO.out HFI.out)
            have H5 := Lib.hid (AtS.new HX.out)
            have HM5 := Lib.hid (HMK.out.alloc (.cells #[.int .u64 (lo : Int), .slice A2 k c2] 25))
            have HRT := Lib.hid (right_any ⟨lo, A2, k, c2, F⟩ _ H5.out.isIn (by show k ≤ _; omega))
            have hup := HMK.out.res.lt
            simp only [LV.v, LV.s] at HRT H5
            obtain ⟨q, hq⟩ : ∃ q, LS.right ⟨lo, F⟩ = q := ⟨_, rfl⟩
            rw [hq] at HRT HG3
            clear hq
            go_wp2_with fail
            refine HRT.out.mono ?_
            rintro e w6 ⟨rfl, hb6⟩
            have HM6 := Lib.hid (HM5.out.keeps hb6)
            have HS6 := Lib.hid (H5.out.keeps hb6)
            clear hb6 HM5 H5 HRT HMK HBD
            obtain ⟨g5, hg5⟩ : ∃ g5, wr.heap.size = g5 := ⟨_, rfl⟩
            rw [hg5] at HS6 hup ⊢
            clear hg5
            cases q
            · have hg : G = (LS.zero, 0, 40) := HG3.out.symm
              subst hg
              clear HG3
              have r0 := HM6.out.r0
              have r1 := HM6.out.r1
              have f0 := HM6.out.f0
              have f1 := HM6.out.f1
              go_wp2
              obtain ⟨hr, ht⟩ := HM6.out.zero 40
              have k0 := hr.cell 0
              have k1 := hr.cell 1
              simp at k0 k1
              refine bodyPost_ret (v := .tuple #[.agg #[.int .u64 0, .slice none 0 0], .int .i64 0, .int .i64 40]) ?_ rfl ht
              simp [results, Try.results29, go_sem, k0, k1]
            · have hg : G = (⟨lo, F⟩, 10 + 8 * k, 0) := HG3.out.symm
              subst hg
              clear HG3
              have HSZ2 := Lib.hid (fun w => size_any k (by omega) w)
              obtain ⟨C, hC⟩ : ∃ C, 10 + k * 8 = C := ⟨_, rfl⟩
              rw [hC] at HSZ2
              have HC := Lib.hid (show 10 + 8 * k = C by omega)
              clear hC
              have s0 := HS6.out.c0
              have s1 := HS6.out.c1
              simp only at s0 s1
              have r0 := HM6.out.r0
              have r1 := HM6.out.r1
              have f0 := HM6.out.f0
              have f1 := HM6.out.f1
              have ne1 : ¬ (w.heap.size = g5) := by omega
              have ne2 : ¬ (g5 = w.heap.size) := by omega
              go_wp2_with fail
              go_region_held3 (fun wx => wx.cell? ⟨g5, 0, none⟩ = some (.int .u64 (lo : Int)) ∧ wx.cell? ⟨g5, 1, none⟩ = some (.slice A2 k c2)) (go_keep)
                ((go_at_call 40; refine (HSZ2.out _).mono ?_; rintro e w' ⟨rfl, rfl⟩))
              all_goals
                go_wp2
                obtain ⟨hr0, hm0⟩ := HM6.out.made.laid HM6.out.res (Nat.le_refl _) (.int .u64 (lo : Int)) (.slice A2 k c2)
                have hr := hr0.drew
                have hm := hm0.drew
                have y0 := hr.cell 0
                have y1 := hr.cell 1
                simp at y0 y1
                refine bodyPost_ret (v := .tuple #[.agg #[.int .u64 (lo : Int), .slice A2 k c2], .int .i64 (C : Int), .int .i64 0]) ?_ rfl ?_
                · simp [results, Try.results29, go_sem, y0, y1]
                · exact ⟨⟨lo, A2, k, c2, F⟩, by rw [HC.out]; rfl, rfl, hm.isIn HLN.out HLO.out HFI.out, hm.2⟩

end Go.Proofs.Ytpjgmblhlhnniaa
