/-
  The code's Put.
-/
import Derived.Test.YtbganaaiaokfmaaCelFind
namespace Go.Proofs.Ytbganaaiaokfmaa
open Go.RowKit

/-- Cells with one put among them, as they lie. -/
def putB (l : List CB) (x : CB) : List CB := l.take (belowN (cels l) x.1.toList) ++ x :: l.drop (uptoN (cels l) x.1.toList)
theorem putB_cels {l : List CB} (h : Srt (cels l)) (x : CB) : cels (putB l x) = putC (cels l) (cel x) := by
  rw [put_cut h]
  unfold putB cels cel
  simp [List.map_take, List.map_drop]
theorem putB_length (l : List CB) (x : CB) : (putB l x).length ≤ l.length + 1 + l.length := by
  unfold putB
  rw [List.length_append, List.length_cons, List.length_take, List.length_drop]
  omega
/-- What comes back: cells, or the error of cells. -/
def CelsO (w : World) (o : Option (List CB)) (e : Ending) (w' : World) : Prop := match o with
  | none => e = .returned (.tuple #[.slice none 0 0, .int .i64 100]) ∧ Below w.heap.size w w'
  | some m => ∃ A c, e = .returned (.tuple #[.slice A m.length c, .int .i64 0]) ∧ Cels w' A m ∧ m.length ≤ c ∧ (A = none → c = 0) ∧ Below w.heap.size w w'

theorem Cels.none_nil {w : World} {l : List CB} (h : Cels w none l) : l = [] := by
  cases l with
  | nil => rfl
  | cons a l => obtain ⟨g, off, e, _⟩ := h 0 (by simp); cases e

set_option maxRecDepth 100000 in
theorem cel_from (A : Option Addr) (n c k : Nat) (hk : k ≤ n) (w : World) :
    (Instr.slice 22 (.slice A n c) (some (.int .i64 (k : Int))) none none).run Try.prog w = .ok (.slice (if c = k then A else A.map (·.add (k * 2))) (n - k) (c - k)) w := by
  rw [run_slice_l (w := w) 22 A n c Try.underlying22 .i64 (k : Int) (by omega) (by omega), show (sizeOf (Try.prog.elem 22)).run Try.prog w = .ok 2 w by kernel_rfl]
  simp only [Result.andThen, sliced, Int.toNat_natCast]
set_option maxRecDepth 100000 in
theorem cel_upto (A : Option Addr) (n c k : Nat) (hk : k ≤ n) (hc : n ≤ c) (w : World) :
    (Instr.slice 22 (.slice A n c) none (some (.int .i64 (k : Int))) (some (.int .i64 (k : Int)))).run Try.prog w = .ok (.slice A k k) w := by
  rw [run_slice_hm (w := w) 22 A n c Try.underlying22 .i64 .i64 (k : Int) (k : Int) (by omega) (by omega) (by omega), show (sizeOf (Try.prog.elem 22)).run Try.prog w = .ok 2 w by kernel_rfl]
  simp only [Result.andThen, sliced, Nat.zero_mul, Int.toNat_natCast, Nat.sub_zero]
  congr 2
  split
  · rfl
  · cases A with
    | none => rfl
    | some a => exact congrArg some (by cases a; simp [Addr.add])

/-- One more onto others that lie anywhere and have no room: in memory of its own. -/
theorem run_put1 {w : World} {A : Option Addr} {l : List CB} {n : Nat} (x : CB) (hl : Cels w A l) (hn : l.length = n) (ad : Addr) (c : Nat) (hr : ∀ j u, (celC x)[j]? = some u → w.cell? (ad.add j) = some u) (ty : TypeId) (hle : n ≤ 1000000) :
    ∃ v' w', (Builtin.append_ #[22, 22] ty #[.slice A n n, .slice (some ad) 1 c]).run Try.prog w = .ok v' w' ∧ w'.ownsRow w.heap.size 38 2 v' (n + 1) (celr l ++ celC x) ∧ w.grownBy w' none := by
  obtain ⟨i0, hi0, hz0, hz1, hz2⟩ := info_parts Try.infoCel
  cases A with
  | none =>
    obtain rfl := hl.none_nil
    obtain rfl : n = 0 := by simpa using hn.symm
    obtain ⟨v', w', h1, h2, h3, _⟩ := run_append_own (P := Try.prog) w w.heap.size 22 ty 38 i0 _ 2 32 Try.underlying22 hi0 hz0 hz1 hz2 rfl (by decide) (.slice none 0 0) 0 [] (World.ownsRow_nil _ _ _ _) ad 1 c (celC x) rfl hr (celC_one x) (by unfold maxLen; omega) (by omega) (Nat.le_refl _)
    exact ⟨v', w', h1, h2, h3⟩
  | some b =>
    obtain ⟨v', w', h1, h2, h3⟩ := run_append_arg_grows (P := Try.prog) w 22 ty 38 i0 _ 2 32 Try.underlying22 hi0 hz0 hz1 hz2 rfl (by decide) b n n (celr l) (by rw [celr_length, hn]) (hl.news rfl) ad 1 c (celC x) rfl hr (by omega) (by unfold maxLen; omega) (by omega)
    exact ⟨v', w', h1, h2, h3⟩
theorem step_put1 {ops : Array Oper} {o : Oper} {a : Act} {K : Act → World → Prop} {Q : Exit → Act → World → Prop} {E : Prop} {w : World} {A : Option Addr} {l : List CB} {n : Nat} (x : CB) (hgd : o.guard = none) (s xo : Operand)
    (ho : o.op = .call { callee := .builtin .append, args := #[s, xo], argTypes := #[22, 22] }) (hs : a.eval s = .slice A n n) (hl : Cels w A l) (hn : l.length = n) (ad : Addr) (c : Nat) (hx : a.eval xo = .slice (some ad) 1 c) (hr : ∀ j u, (celC x)[j]? = some u → w.cell? (ad.add j) = some u) (hle : n ≤ 1000000)
    (h : ∀ v' w', GrC w (l ++ [x]) v' w' → K (a.put o.dst v') w') : if Region.wanted o (yielded ops a.tmps) = true then Oper.wp Try.prog o a w K Q else E := by
  have hw : Region.wanted o (yielded ops a.tmps) = true := by simp [Region.wanted, hgd]
  rw [if_pos hw]
  obtain ⟨v', w', hrn, h2, h3⟩ := run_put1 x hl hn ad c hr o.type hle
  unfold Oper.wp execOp
  simp only [ho, resolve, invoke, builtin, Sem.run_bind, Sem.run_pure, Result.andThen_ok, List.map_toArray, List.map_cons, List.map_nil, hs, hx, hrn]
  refine h v' w' ⟨?_, below_only h3⟩
  rw [celr_snoc, List.length_append, hn]
  exact h2

set_option maxRecDepth 100000 in
set_option maxHeartbeats 4000000 in
theorem kput_any (A : Option Addr) (n c : Nat) (l : List CB) (key val : ByteArray) (w : World) (hl : Cels w A l) (hn : l.length = n) (hnb : n ≤ 300000) (hnc : n ≤ c) (hnil : A = none → c = 0) :
    Calls Try.prog 22 #[.slice A n c, .agg #[.string key, .string val]] w (CelsO w (if rgtB (cels l) = true ∧ fitC (cel (key, val)) = true then some (putB l (key, val)) else none)) := by
  obtain ⟨o, ho⟩ : ∃ o, w.alloc (.cells #[.string key, .string val] 38) = o := ⟨_, rfl⟩
  have HBo := Lib.hid (show Below w.heap.size w o from ho ▸ (Below.refl _ w).alloc (Nat.le_refl _) _)
  have HLo := Lib.hid (show Cels o A l from ho ▸ hl.alloc _)
  obtain ⟨B, hB⟩ : ∃ B, w.heap.size = B := ⟨_, rfl⟩
  have HRo := Lib.hid (show Row o B 38 [.string key, .string val] (0, 0) from hB ▸ ho ▸ Row.new w 38 [.string key, .string val] (0, 0))
  have HOO := Lib.hid (fun (wx : World) (hb : Below o.heap.size o wx) => And.intro (show wx.cell? ⟨B, 0, none⟩ = some (.string key) by rw [(HRo.out.below hb HRo.out.lt).cell]; rfl) (show wx.cell? ⟨B, 1, none⟩ = some (.string val) by rw [(HRo.out.below hb HRo.out.lt).cell]; rfl))
  have HRT := Lib.hid (kright_any A n c l o HLo.out hn (by omega))
  have HSH := Lib.hid (fun wx => kshort_any key val wx)
  have HNONE := Lib.hid (fun (h : ¬ (rgtB (cels l) = true ∧ fitC (cel (key, val)) = true)) e w' (h2 : e = .returned (.tuple #[.slice none 0 0, .int .i64 100]) ∧ Below w.heap.size w w') => show CelsO w (if rgtB (cels l) = true ∧ fitC (cel (key, val)) = true then some (putB l (key, val)) else none) e w' by rw [if_neg h]; exact h2)
  have HSOME := Lib.hid (fun (h1 : rgtB (cels l) = true) (h : fitC (cel (key, val)) = true) w' v' (hg : GrC o (putB l (key, val)) v' w') => show ∃ A' c', v' = .slice A' (putB l (key, val)).length c' ∧ CelsO w (if rgtB (cels l) = true ∧ fitC (cel (key, val)) = true then some (putB l (key, val)) else none) (.returned (.tuple #[v', .int .i64 0])) w' by
    rw [if_pos ⟨h1, h⟩]
    obtain ⟨A', c', rfl, hc, hA⟩ := hg.slot
    exact ⟨A', c', rfl, A', c', rfl, hg.cels, hc, hA, HBo.out.trans (hg.2.mono HBo.out.size)⟩)
  obtain ⟨Q, hQ⟩ : ∃ Q, CelsO w (if rgtB (cels l) = true ∧ fitC (cel (key, val)) = true then some (putB l (key, val)) else none) = Q := ⟨_, rfl⟩
  rw [hQ] at HNONE HSOME
  rw [hQ]
  cases hr : rgtB (cels l) with
  | false =>
    rw [hr] at HRT
    have HN := Lib.hid (HNONE.out (by rw [hr]; rintro ⟨h, _⟩; cases h))
    clear hl hn hr HLo HRo HOO HSH HNONE HSOME hQ hnil
    go_enter Try.func22, Try.ntmps22
    go_wp2_with fail
    refine HRT.out.mono ?_
    rintro e w1 ⟨rfl, hb1⟩
    have HB1 := Lib.hid (HBo.out.trans (hb1.mono HBo.out.size))
    clear hb1
    go_wp2_with fail
    exact HN.out _ _ ⟨rfl, HB1.out⟩
  | true =>
    rw [hr] at HRT
    cases hf : fitC (cel (key, val)) with
    | false =>
      have HN := Lib.hid (HNONE.out (by rw [hf]; rintro ⟨_, h⟩; cases h))
      rw [hf] at HSH
      clear hl hn hr HLo HRo HNONE HSOME hQ hf hnil
      go_enter Try.func22, Try.ntmps22
      go_wp2_with fail
      refine HRT.out.mono ?_
      rintro e w1 ⟨rfl, hb1⟩
      have HB1 := Lib.hid (HBo.out.trans (hb1.mono HBo.out.size))
      obtain ⟨o0, o1⟩ := HOO.out w1 hb1
      clear hb1
      go_wp2_with fail
      refine (HSH.out w1).mono ?_
      rintro e w2 ⟨rfl, hb2⟩
      have HB2 := Lib.hid (HB1.out.trans (hb2.mono HB1.out.size))
      clear hb2 o0 o1
      go_wp2_with fail
      exact HN.out _ _ ⟨rfl, HB2.out⟩
    | true =>
      have hR : Rgt (cels l) := of_decide_eq_true hr
      have HS := Lib.hid (HSOME.out hr hf)
      rw [hf] at HSH
      have HLA := Lib.hid (fun wx (hb : Below o.heap.size o wx) => klast_any A n c l key wx (HLo.out.keeps hb) hn (by omega) hR.1)
      have hU : uptoN (cels l) key.toList ≤ n := by have := cnt_le (cels l) (fun x => ble x key.toList); rw [cels_length, hn] at this; exact this
      obtain ⟨ub1, ub2, ub3⟩ := upto_below hR.1 key.toList
      have HPB := Lib.hid (show ∀ F, F = belowN (cels l) key.toList → putB l (key, val) = l.take F ++ [(key, val)] ++ l.drop (uptoN (cels l) key.toList) from fun F hF => by
        subst hF
        unfold putB
        simp)
      have HEQ := Lib.hid (fun (q : Nat) (hq : q < l.length) (hqU : q + 1 = uptoN (cels l) key.toList) => show l[q].1.toList = key.toList ↔ belowN (cels l) key.toList = q by
        constructor
        · intro he
          have hx : ∃ (hi : belowN (cels l) key.toList < (cels l).length), ((cels l)[belowN (cels l) key.toList]).1 = key.toList := by
            refine Classical.byContradiction fun hno => ?_
            have h1 : uptoN (cels l) key.toList = belowN (cels l) key.toList := by
              have : ¬ uptoN (cels l) key.toList = belowN (cels l) key.toList + 1 := fun h => hno (ub3.1 h)
              omega
            have h2 := (cnt_iff (low_bl key.toList) hR.1 (i := q) (by rw [cels_length]; exact hq)).1 (show q < belowN (cels l) key.toList by omega)
            rw [cels_get l q hq] at h2
            have h3 : bl l[q].1.toList key.toList = true := h2
            rw [he, bl_irrefl] at h3
            cases h3
          have := ub3.2 hx
          omega
        · intro hb
          obtain ⟨hi, h1⟩ := ub3.1 (by omega)
          simp only [hb] at h1
          rw [cels_get l q hq] at h1
          exact h1)
      obtain ⟨U, hU2⟩ : ∃ U, uptoN (cels l) key.toList = U := ⟨_, rfl⟩
      obtain ⟨Bl, hBl⟩ : ∃ Bl, belowN (cels l) key.toList = Bl := ⟨_, rfl⟩
      rw [hU2] at HLA hU HPB HEQ ub1 ub2
      rw [hBl] at HPB HEQ ub1 ub2
      obtain ⟨P, hP⟩ : ∃ P, putB l (key, val) = P := ⟨_, rfl⟩
      rw [hP] at HPB HS
      have HFR := Lib.hid (fun wx => cel_from A n c U hU wx)
      have HCD := Lib.hid (fun wx (hb : Below o.heap.size o wx) => (HLo.out.keeps hb).drop U c (by omega))
      have hUI : (U : Int) ≤ (n : Int) := by omega
      have hwU : (U : Int) - 1 + 1 = (U : Int) := by omega
      have HHN := Lib.hid (fun _ : Unit => hn)
      have HBEH := Lib.hid (show ((if c = U then A else A.map (·.add (U * 2))) = none ∧ n - U = 0 ∧ c - U = 0) ∨ ∃ ad, (if c = U then A else A.map (·.add (U * 2))) = some ad by
        cases A with
        | none =>
          have h0 := hnil rfl
          exact .inl ⟨by split <;> rfl, by omega, by omega⟩
        | some ad => refine .inr ?_; split; exact ⟨_, rfl⟩; exact ⟨_, rfl⟩)
      clear hl hn hr hf hR HNONE HSOME hQ hU2 hP hBl ub3 HRo hnil
      obtain ⟨AB, hAB⟩ : ∃ AB, (if c = U then A else A.map (·.add (U * 2))) = AB := ⟨_, rfl⟩
      rw [hAB] at HBEH HFR HCD
      have HSL := Lib.hid (fun F (h : F ≤ n) wx => cel_upto A n c F h hnc wx)
      clear hAB
      have hfr := HFR.out
      clear HFR
      go_enter Try.func22, Try.ntmps22
      go_wp2_with fail
      refine HRT.out.mono ?_
      rintro e w1 ⟨rfl, hb1⟩
      have HK1 := Lib.hid hb1
      obtain ⟨o0, o1⟩ := HOO.out w1 hb1
      clear hb1 HRT
      go_wp2_with fail
      refine (HSH.out w1).mono ?_
      rintro e w2 ⟨rfl, hb2⟩
      have HK2 := Lib.hid (HK1.out.trans (hb2.mono HK1.out.size))
      have HL2 := Lib.hid (HLA.out w2 HK2.out)
      clear hb2 o0 o1 HSH HLA
      obtain ⟨o0, o1⟩ := HOO.out w2 HK2.out
      go_wp2_with fail
      refine HL2.out.mono ?_
      rintro e w3 ⟨rfl, hb3⟩
      have HK3 := Lib.hid (HK2.out.trans (hb3.mono HK2.out.size))
      clear hb3 o0 o1 HL2 HK1 HK2
      go_wp2_with fail
      obtain ⟨w3d, hw3d⟩ : ∃ w3d, w3.drew = w3d := ⟨_, rfl⟩
      have HK3d := Lib.hid (show Below o.heap.size o w3d from hw3d ▸ below_drew_c HK3.out)
      have hBOX := HOO.out w3d HK3d.out
      by_cases h0 : U = 0
      · have hkp : decide ((0 : Int) < (U : Int)) = false := decide_eq_false (by omega)
        have hkp2 : decide (0 < U) = false := decide_eq_false (by omega)
        have HBL := Lib.hid (show U = Bl by omega)
        have hHeld := hBOX
        clear hBOX h0
        refine wp_region_noPanic ?_
        refine wp_region_sch (fun wx => wx.cell? ⟨B, 0, none⟩ = some (.string key) ∧ wx.cell? ⟨B, 1, none⟩ = some (.string val)) (fun i => [].contains i)
          (.takes [0, 1, 2, 3, 4, 5, 6, 7, 8, 9, 10, 11, 12] .done) (by kernel_rfl) (fun _ _ _ _ _ h => h) (by kernel_rfl) ?_
        rw [hw3d]
        iterate 13 (
          refine sch_takes_cons ?_
          first
            | (refine sch_take (v := ?_) rfl (by assumption) (by rfl) ?_ ?_; rotate_left; (focus (intro wy hSy; (try dsimp only at hSy); go_simp; (try with_reducible rfl))))
            | (refine sch_pass rfl (by assumption) (by rfl) ?_)
          simp only [Act.put, List.setIfInBounds_toArray, List.set_cons_zero, List.set_cons_succ])
        refine sch_takes_nil ?_
        refine sch_done ?_
        refine NoPanic.normal ?_
        clear hHeld
        go_wp2_with fail
        obtain ⟨w4, hw4⟩ : ∃ w4, w3d.drew = w4 := ⟨_, rfl⟩
        have HK4 := Lib.hid (show Below o.heap.size o w4 from hw4 ▸ below_drew_c HK3d.out)
        have hHeld := HOO.out w4 HK4.out
        have hsl := HSL.out U hU
        refine wp_region_noPanic ?_
        refine wp_region_sch (fun wx => wx.cell? ⟨B, 0, none⟩ = some (.string key) ∧ wx.cell? ⟨B, 1, none⟩ = some (.string val)) (fun i => [5, 6].contains i)
          (.takes [0, 1, 2, 3, 4] (.run 5 (.run 6 (.takes [7] .done)))) (by kernel_rfl) (fun _ _ _ _ _ h => h) (by kernel_rfl) ?_
        rw [hw4]
        iterate 5 (
          refine sch_takes_cons ?_
          first
            | (refine sch_take (v := ?_) rfl (by assumption) (by rfl) ?_ ?_; rotate_left; (focus (intro wy hSy; (try dsimp only at hSy); go_simp; (try with_reducible rfl))))
            | (refine sch_pass rfl (by assumption) (by rfl) ?_)
          simp only [Act.put, List.setIfInBounds_toArray, List.set_cons_zero, List.set_cons_succ])
        refine sch_takes_nil ?_
        refine sch_run rfl (fun K hK => ?_)
        go_simp
        have HNEW := Lib.hid (new_cel w4 38 (key, val))
        obtain ⟨w5, hw5⟩ : ∃ w5, w4.alloc (.cells #[.string key, .string val] 38) = w5 := ⟨_, rfl⟩
        have HK5 := Lib.hid (show Below o.heap.size o w5 from hw5 ▸ HK4.out.alloc HK4.out.size _)
        have HN5 := Lib.hid (show ∀ j u, (celC (key, val))[j]? = some u → w5.cell? ((⟨w4.heap.size, 0, none⟩ : Addr).add j) = some u from hw5 ▸ HNEW.out)
        have HL5 := Lib.hid ((HLo.out.keeps HK5.out).take U)
        rw [hw5]
        clear hw5 HNEW
        have hHeld := HOO.out w5 HK5.out
        refine hK.out _ _ (fun _ => hHeld) ?_
        clear hK K
        try simp only [Act.put, List.setIfInBounds_toArray, List.set_cons_zero, List.set_cons_succ]
        refine sch_run rfl (fun K hK => ?_)
        refine step_put1 (key, val) rfl (.tmp 44) (.tmp 46) rfl (A := A) (l := l.take U) (n := U) rfl HL5.out (by rw [List.length_take]; have := HHN.out (); omega) ⟨w4.heap.size, 0, none⟩ 1 rfl HN5.out (by omega) ?_
        intro v6 w6 hg6
        have HG6 := Lib.hid (hg6.low HK5.out)
        have HK6 := Lib.hid (HK5.out.trans (hg6.2.mono HK5.out.size))
        clear hg6
        have hHeld := HOO.out w6 HK6.out
        refine hK.out _ _ (fun _ => hHeld) ?_
        clear hK K
        try simp only [Act.put, List.setIfInBounds_toArray, List.set_cons_zero, List.set_cons_succ]
        refine sch_takes_cons ?_
        first
          | (refine sch_take (v := ?_) rfl (by assumption) (by rfl) ?_ ?_; rotate_left; (focus (intro wy hSy; (try dsimp only at hSy); go_simp; (try with_reducible rfl))))
          | (refine sch_pass rfl (by assumption) (by rfl) ?_)
        simp only [Act.put, List.setIfInBounds_toArray, List.set_cons_zero, List.set_cons_succ]
        refine sch_takes_nil ?_
        refine sch_done ?_
        refine NoPanic.normal ?_
        clear hHeld
        obtain ⟨m6, hm6⟩ : ∃ m6, l.take U ++ [(key, val)] = m6 := ⟨_, rfl⟩
        have HP6 := Lib.hid (show P = m6 ++ l.drop U by rw [HPB.out U HBL.out, hm6])
        have HM6 := Lib.hid (show m6.length ≤ 1000000 by rw [← hm6, List.length_append, List.length_take, List.length_singleton]; omega)
        rw [hm6] at HG6
        clear hm6
        obtain ⟨A6, c6, rfl, -, -⟩ := HG6.out.slot
        have HC6 := Lib.hid (HCD.out w6 HK6.out)
        have HDL := Lib.hid (show (l.drop U).length = n - U by rw [List.length_drop]; have := HHN.out (); omega)
        obtain ⟨D, hD⟩ : ∃ D, l.drop U = D := ⟨_, rfl⟩
        rw [hD] at HP6 HC6 HDL
        clear hD
        rcases HBEH.out with ⟨rfl, e1, e2⟩ | ⟨ad, rfl⟩
        · rw [e1, e2]
          have HP := Lib.hid (show P = m6 by
            have h0 : D = [] := List.length_eq_zero_iff.1 (HDL.out.trans e1)
            rw [HP6.out, h0, List.append_nil])
          rw [HP.out] at HS
          clear e1 e2
          go_wp2_with (at_builtin; refine wpList_append_own_none rfl (.tmp 48) (.tmp 49) 22 rfl o.heap.size 38 _ 2 Try.underlying22 (info_parts Try.infoCel).choose_spec.1 _ _ _ rfl HG6.out.1 rfl ?_)
          obtain ⟨A', c', e3, hq⟩ := HS.out _ _ HG6.out
          have HQQ := Lib.hid hq
          clear hq e3
          go_wp2_with fail
          exact HQQ.out
        · obtain ⟨N, hN⟩ : ∃ N, n - U = N := ⟨_, rfl⟩
          obtain ⟨M, hM⟩ : ∃ M, c - U = M := ⟨_, rfl⟩
          rw [hN] at HDL
          have HNB := Lib.hid (show N ≤ 1000000 by omega)
          simp only [hN, hM]
          clear hN hM
          go_wp2_with (at_builtin; refine wpList_cels D rfl (.tmp 48) (.tmp 49) rfl rfl HG6.out ad N M rfl HDL.out HC6.out HM6.out HNB.out ?_)
          intro v7 w7 hg7 _
          rw [← HP6.out] at hg7
          obtain ⟨A', c', rfl, hq⟩ := HS.out _ _ hg7
          have HQQ := Lib.hid hq
          clear hq hg7
          go_wp2_with fail
          exact HQQ.out
      · obtain ⟨q, hq⟩ : ∃ q, q + 1 = U := ⟨U - 1, by omega⟩
        have hsub : (U : Int) - 1 = (q : Int) := by omega
        have hwq : IntKind.i64.wrap (q : Int) = (q : Int) := IntWalk.i64_in _ (by omega)
        have hkp : (0 : Int) < (U : Int) := by omega
        have hp0 : 0 < U := by omega
        have hqn : (q : Int) < (n : Int) := by omega
        have hqn2 : q ≤ n := by omega
        have hql : q < l.length := by have := HHN.out (); omega
        have heq := HEQ.out q hql hq
        obtain ⟨g, off, rfl, HC⟩ := HLo.out.at_ hql
        have hcq := (HC.out q hql w3d HK3d.out).1
        obtain ⟨ky, hky⟩ : ∃ ky, l[q].1 = ky := ⟨_, rfl⟩
        rw [hky] at hcq heq
        have hHeld := And.intro hBOX hcq
        have HQ := Lib.hid hq
        clear hBOX hcq HC hky hql h0 hq
        by_cases he : ky.toList = key.toList
        · have hcmp : (ky.toList == key.toList) = true := by rw [he]; exact beq_self_eq_true _
          have HBL := Lib.hid (show q = Bl from (heq.1 he).symm)
          clear heq he HEQ
          refine wp_region_noPanic ?_
          refine wp_region_sch (fun wx => (wx.cell? ⟨B, 0, none⟩ = some (.string key) ∧ wx.cell? ⟨B, 1, none⟩ = some (.string val)) ∧ wx.cell? ⟨g, off + q * 2, none⟩ = some (.string ky)) (fun i => [].contains i)
            (.takes [0, 1, 2, 3, 4, 5, 6, 7, 8, 9, 10, 11, 12] .done) (by kernel_rfl) (fun _ _ _ _ _ h => h) (by kernel_rfl) ?_
          rw [hw3d]
          iterate 13 (
            refine sch_takes_cons ?_
            first
              | (refine sch_take (v := ?_) rfl (by assumption) (by rfl) ?_ ?_; rotate_left; (focus (intro wy hSy; (try dsimp only at hSy); go_simp; (try with_reducible rfl))))
              | (refine sch_pass rfl (by assumption) (by rfl) ?_)
            simp only [Act.put, List.setIfInBounds_toArray, List.set_cons_zero, List.set_cons_succ])
          refine sch_takes_nil ?_
          refine sch_done ?_
          refine NoPanic.normal ?_
          clear hHeld
          go_wp2_with fail
          go_wp2_with fail
          obtain ⟨w4, hw4⟩ : ∃ w4, w3d.drew = w4 := ⟨_, rfl⟩
          have HK4 := Lib.hid (show Below o.heap.size o w4 from hw4 ▸ below_drew_c HK3d.out)
          have hHeld := HOO.out w4 HK4.out
          have hsl := HSL.out q hqn2
          refine wp_region_noPanic ?_
          refine wp_region_sch (fun wx => wx.cell? ⟨B, 0, none⟩ = some (.string key) ∧ wx.cell? ⟨B, 1, none⟩ = some (.string val)) (fun i => [5, 6].contains i)
            (.takes [0, 1, 2, 3, 4] (.run 5 (.run 6 (.takes [7] .done)))) (by kernel_rfl) (fun _ _ _ _ _ h => h) (by kernel_rfl) ?_
          rw [hw4]
          iterate 5 (
            refine sch_takes_cons ?_
            first
              | (refine sch_take (v := ?_) rfl (by assumption) (by rfl) ?_ ?_; rotate_left; (focus (intro wy hSy; (try dsimp only at hSy); go_simp; (try with_reducible rfl))))
              | (refine sch_pass rfl (by assumption) (by rfl) ?_)
            simp only [Act.put, List.setIfInBounds_toArray, List.set_cons_zero, List.set_cons_succ])
          refine sch_takes_nil ?_
          refine sch_run rfl (fun K hK => ?_)
          go_simp
          have HNEW := Lib.hid (new_cel w4 38 (key, val))
          obtain ⟨w5, hw5⟩ : ∃ w5, w4.alloc (.cells #[.string key, .string val] 38) = w5 := ⟨_, rfl⟩
          have HK5 := Lib.hid (show Below o.heap.size o w5 from hw5 ▸ HK4.out.alloc HK4.out.size _)
          have HN5 := Lib.hid (show ∀ j u, (celC (key, val))[j]? = some u → w5.cell? ((⟨w4.heap.size, 0, none⟩ : Addr).add j) = some u from hw5 ▸ HNEW.out)
          have HL5 := Lib.hid ((HLo.out.keeps HK5.out).take q)
          rw [hw5]
          clear hw5 HNEW
          have hHeld := HOO.out w5 HK5.out
          refine hK.out _ _ (fun _ => hHeld) ?_
          clear hK K
          try simp only [Act.put, List.setIfInBounds_toArray, List.set_cons_zero, List.set_cons_succ]
          refine sch_run rfl (fun K hK => ?_)
          refine step_put1 (key, val) rfl (.tmp 44) (.tmp 46) rfl (A := (some ⟨g, off, none⟩)) (l := l.take q) (n := q) rfl HL5.out (by rw [List.length_take]; have := HHN.out (); omega) ⟨w4.heap.size, 0, none⟩ 1 rfl HN5.out (by omega) ?_
          intro v6 w6 hg6
          have HG6 := Lib.hid (hg6.low HK5.out)
          have HK6 := Lib.hid (HK5.out.trans (hg6.2.mono HK5.out.size))
          clear hg6
          have hHeld := HOO.out w6 HK6.out
          refine hK.out _ _ (fun _ => hHeld) ?_
          clear hK K
          try simp only [Act.put, List.setIfInBounds_toArray, List.set_cons_zero, List.set_cons_succ]
          refine sch_takes_cons ?_
          first
            | (refine sch_take (v := ?_) rfl (by assumption) (by rfl) ?_ ?_; rotate_left; (focus (intro wy hSy; (try dsimp only at hSy); go_simp; (try with_reducible rfl))))
            | (refine sch_pass rfl (by assumption) (by rfl) ?_)
          simp only [Act.put, List.setIfInBounds_toArray, List.set_cons_zero, List.set_cons_succ]
          refine sch_takes_nil ?_
          refine sch_done ?_
          refine NoPanic.normal ?_
          clear hHeld
          obtain ⟨m6, hm6⟩ : ∃ m6, l.take q ++ [(key, val)] = m6 := ⟨_, rfl⟩
          have HP6 := Lib.hid (show P = m6 ++ l.drop U by rw [HPB.out q HBL.out, hm6])
          have HM6 := Lib.hid (show m6.length ≤ 1000000 by rw [← hm6, List.length_append, List.length_take, List.length_singleton]; omega)
          rw [hm6] at HG6
          clear hm6
          obtain ⟨A6, c6, rfl, -, -⟩ := HG6.out.slot
          have HC6 := Lib.hid (HCD.out w6 HK6.out)
          have HDL := Lib.hid (show (l.drop U).length = n - U by rw [List.length_drop]; have := HHN.out (); omega)
          obtain ⟨D, hD⟩ : ∃ D, l.drop U = D := ⟨_, rfl⟩
          rw [hD] at HP6 HC6 HDL
          clear hD
          rcases HBEH.out with ⟨rfl, e1, e2⟩ | ⟨ad, rfl⟩
          · rw [e1, e2]
            have HP := Lib.hid (show P = m6 by
              have h0 : D = [] := List.length_eq_zero_iff.1 (HDL.out.trans e1)
              rw [HP6.out, h0, List.append_nil])
            rw [HP.out] at HS
            clear e1 e2
            go_wp2_with (at_builtin; refine wpList_append_own_none rfl (.tmp 48) (.tmp 49) 22 rfl o.heap.size 38 _ 2 Try.underlying22 (info_parts Try.infoCel).choose_spec.1 _ _ _ rfl HG6.out.1 rfl ?_)
            obtain ⟨A', c', e3, hq⟩ := HS.out _ _ HG6.out
            have HQQ := Lib.hid hq
            clear hq e3
            go_wp2_with fail
            exact HQQ.out
          · obtain ⟨N, hN⟩ : ∃ N, n - U = N := ⟨_, rfl⟩
            obtain ⟨M, hM⟩ : ∃ M, c - U = M := ⟨_, rfl⟩
            rw [hN] at HDL
            have HNB := Lib.hid (show N ≤ 1000000 by omega)
            simp only [hN, hM]
            clear hN hM
            go_wp2_with (at_builtin; refine wpList_cels D rfl (.tmp 48) (.tmp 49) rfl rfl HG6.out ad N M rfl HDL.out HC6.out HM6.out HNB.out ?_)
            intro v7 w7 hg7 _
            rw [← HP6.out] at hg7
            obtain ⟨A', c', rfl, hq⟩ := HS.out _ _ hg7
            have HQQ := Lib.hid hq
            clear hq hg7
            go_wp2_with fail
            exact HQQ.out
        · have hcmp : (ky.toList == key.toList) = false := beq_eq_false_iff_ne.2 he
          have HBL := Lib.hid (show U = Bl by have : Bl ≠ q := fun h => he (heq.2 h); have := HQ.out; omega)
          clear heq he HEQ
          refine wp_region_noPanic ?_
          refine wp_region_sch (fun wx => (wx.cell? ⟨B, 0, none⟩ = some (.string key) ∧ wx.cell? ⟨B, 1, none⟩ = some (.string val)) ∧ wx.cell? ⟨g, off + q * 2, none⟩ = some (.string ky)) (fun i => [].contains i)
            (.takes [0, 1, 2, 3, 4, 5, 6, 7, 8, 9, 10, 11, 12] .done) (by kernel_rfl) (fun _ _ _ _ _ h => h) (by kernel_rfl) ?_
          rw [hw3d]
          iterate 13 (
            refine sch_takes_cons ?_
            first
              | (refine sch_take (v := ?_) rfl (by assumption) (by rfl) ?_ ?_; rotate_left; (focus (intro wy hSy; (try dsimp only at hSy); go_simp; (try with_reducible rfl))))
              | (refine sch_pass rfl (by assumption) (by rfl) ?_)
            simp only [Act.put, List.setIfInBounds_toArray, List.set_cons_zero, List.set_cons_succ])
          refine sch_takes_nil ?_
          refine sch_done ?_
          refine NoPanic.normal ?_
          clear hHeld
          go_wp2_with fail
          obtain ⟨w4, hw4⟩ : ∃ w4, w3d.drew = w4 := ⟨_, rfl⟩
          have HK4 := Lib.hid (show Below o.heap.size o w4 from hw4 ▸ below_drew_c HK3d.out)
          have hHeld := HOO.out w4 HK4.out
          have hsl := HSL.out U hU
          refine wp_region_noPanic ?_
          refine wp_region_sch (fun wx => wx.cell? ⟨B, 0, none⟩ = some (.string key) ∧ wx.cell? ⟨B, 1, none⟩ = some (.string val)) (fun i => [5, 6].contains i)
            (.takes [0, 1, 2, 3, 4] (.run 5 (.run 6 (.takes [7] .done)))) (by kernel_rfl) (fun _ _ _ _ _ h => h) (by kernel_rfl) ?_
          rw [hw4]
          iterate 5 (
            refine sch_takes_cons ?_
            first
              | (refine sch_take (v := ?_) rfl (by assumption) (by rfl) ?_ ?_; rotate_left; (focus (intro wy hSy; (try dsimp only at hSy); go_simp; (try with_reducible rfl))))
              | (refine sch_pass rfl (by assumption) (by rfl) ?_)
            simp only [Act.put, List.setIfInBounds_toArray, List.set_cons_zero, List.set_cons_succ])
          refine sch_takes_nil ?_
          refine sch_run rfl (fun K hK => ?_)
          go_simp
          have HNEW := Lib.hid (new_cel w4 38 (key, val))
          obtain ⟨w5, hw5⟩ : ∃ w5, w4.alloc (.cells #[.string key, .string val] 38) = w5 := ⟨_, rfl⟩
          have HK5 := Lib.hid (show Below o.heap.size o w5 from hw5 ▸ HK4.out.alloc HK4.out.size _)
          have HN5 := Lib.hid (show ∀ j u, (celC (key, val))[j]? = some u → w5.cell? ((⟨w4.heap.size, 0, none⟩ : Addr).add j) = some u from hw5 ▸ HNEW.out)
          have HL5 := Lib.hid ((HLo.out.keeps HK5.out).take U)
          rw [hw5]
          clear hw5 HNEW
          have hHeld := HOO.out w5 HK5.out
          refine hK.out _ _ (fun _ => hHeld) ?_
          clear hK K
          try simp only [Act.put, List.setIfInBounds_toArray, List.set_cons_zero, List.set_cons_succ]
          refine sch_run rfl (fun K hK => ?_)
          refine step_put1 (key, val) rfl (.tmp 44) (.tmp 46) rfl (A := (some ⟨g, off, none⟩)) (l := l.take U) (n := U) rfl HL5.out (by rw [List.length_take]; have := HHN.out (); omega) ⟨w4.heap.size, 0, none⟩ 1 rfl HN5.out (by omega) ?_
          intro v6 w6 hg6
          have HG6 := Lib.hid (hg6.low HK5.out)
          have HK6 := Lib.hid (HK5.out.trans (hg6.2.mono HK5.out.size))
          clear hg6
          have hHeld := HOO.out w6 HK6.out
          refine hK.out _ _ (fun _ => hHeld) ?_
          clear hK K
          try simp only [Act.put, List.setIfInBounds_toArray, List.set_cons_zero, List.set_cons_succ]
          refine sch_takes_cons ?_
          first
            | (refine sch_take (v := ?_) rfl (by assumption) (by rfl) ?_ ?_; rotate_left; (focus (intro wy hSy; (try dsimp only at hSy); go_simp; (try with_reducible rfl))))
            | (refine sch_pass rfl (by assumption) (by rfl) ?_)
          simp only [Act.put, List.setIfInBounds_toArray, List.set_cons_zero, List.set_cons_succ]
          refine sch_takes_nil ?_
          refine sch_done ?_
          refine NoPanic.normal ?_
          clear hHeld
          obtain ⟨m6, hm6⟩ : ∃ m6, l.take U ++ [(key, val)] = m6 := ⟨_, rfl⟩
          have HP6 := Lib.hid (show P = m6 ++ l.drop U by rw [HPB.out U HBL.out, hm6])
          have HM6 := Lib.hid (show m6.length ≤ 1000000 by rw [← hm6, List.length_append, List.length_take, List.length_singleton]; omega)
          rw [hm6] at HG6
          clear hm6
          obtain ⟨A6, c6, rfl, -, -⟩ := HG6.out.slot
          have HC6 := Lib.hid (HCD.out w6 HK6.out)
          have HDL := Lib.hid (show (l.drop U).length = n - U by rw [List.length_drop]; have := HHN.out (); omega)
          obtain ⟨D, hD⟩ : ∃ D, l.drop U = D := ⟨_, rfl⟩
          rw [hD] at HP6 HC6 HDL
          clear hD
          rcases HBEH.out with ⟨rfl, e1, e2⟩ | ⟨ad, rfl⟩
          · rw [e1, e2]
            have HP := Lib.hid (show P = m6 by
              have h0 : D = [] := List.length_eq_zero_iff.1 (HDL.out.trans e1)
              rw [HP6.out, h0, List.append_nil])
            rw [HP.out] at HS
            clear e1 e2
            go_wp2_with (at_builtin; refine wpList_append_own_none rfl (.tmp 48) (.tmp 49) 22 rfl o.heap.size 38 _ 2 Try.underlying22 (info_parts Try.infoCel).choose_spec.1 _ _ _ rfl HG6.out.1 rfl ?_)
            obtain ⟨A', c', e3, hq⟩ := HS.out _ _ HG6.out
            have HQQ := Lib.hid hq
            clear hq e3
            go_wp2_with fail
            exact HQQ.out
          · obtain ⟨N, hN⟩ : ∃ N, n - U = N := ⟨_, rfl⟩
            obtain ⟨M, hM⟩ : ∃ M, c - U = M := ⟨_, rfl⟩
            rw [hN] at HDL
            have HNB := Lib.hid (show N ≤ 1000000 by omega)
            simp only [hN, hM]
            clear hN hM
            go_wp2_with (at_builtin; refine wpList_cels D rfl (.tmp 48) (.tmp 49) rfl rfl HG6.out ad N M rfl HDL.out HC6.out HM6.out HNB.out ?_)
            intro v7 w7 hg7 _
            rw [← HP6.out] at hg7
            obtain ⟨A', c', rfl, hq⟩ := HS.out _ _ hg7
            have HQQ := Lib.hid hq
            clear hq hg7
            go_wp2_with fail
            exact HQQ.out
end Go.Proofs.Ytbganaaiaokfmaa
