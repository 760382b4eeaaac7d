/-
  WaitsMore: the order of the edges, and how often they stand, does not matter; one more takes no ring away, and makes it no longer.
-/
import Derived.Test.YtbkhojopiimbdaaWaiLaw
import Derived.Test.YtbkhojopiimbdaaDraw
import Derived.Laws.AppendOwnNone
namespace Go.Proofs.Ytbkhojopiimbdaa
open Go.RowKit

/-- Append of edges onto a row of the call's own, of none and of nil ones too, at a step of a region that draws. -/
theorem step_edges {ops : Array Oper} {o : Oper} {a : Act} {w : World} {K : Act → World → Prop} {Q : Exit → Act → World → Prop} {E : Prop} (hgd : o.guard = none) (s x : Operand)
    (ho : o.op = .call { callee := .builtin .append, args := #[s, x], argTypes := #[22, 22] })
    (base : Nat) (v : Value) (n : Nat) (xs : List Value) (hs : a.eval s = v) (hown : w.ownsRow base 31 2 v n xs)
    (A : Option Addr) (l : List Edge) (m c : Nat) (hx : a.eval x = .slice A m c) (hm : l.length = m) (hr : Lie w A (ev l)) (hA : A = none → c = 0) (hn : n + m ≤ 1000000) (hbase : base ≤ w.heap.size)
    (h : ∀ v' w', w'.ownsRow base 31 2 v' (n + m) (xs ++ ev l) → w.grownBy w' v.ownBlock → K (a.put o.dst v') w') :
    if Region.wanted o (yielded ops a.tmps) = true then Oper.wp Try.prog o a w K Q else E := by
  have hw : Region.wanted o (yielded ops a.tmps) = true := by simp [Region.wanted, hgd]
  rw [if_pos hw]
  obtain ⟨i, hi, hz, hs2, hby⟩ := info_parts Try.infoEdge
  have hrun : ∃ v' w', (Builtin.append_ #[22, 22] o.type #[v, .slice A m c]).run Try.prog w = .ok v' w' ∧ w'.ownsRow base 31 2 v' (n + m) (xs ++ ev l) ∧ w.grownBy w' v.ownBlock := by
    subst hm
    rcases Nat.eq_zero_or_pos l.length with h0 | h0
    · obtain rfl := List.eq_nil_of_length_eq_zero h0
      cases A with
      | none =>
        obtain rfl := hA rfl
        have hrun := run_append_owned_none (P := Try.prog) (w := w) base 22 o.type 31 i 2 Try.underlying22 hi v n xs hown
        exact ⟨v, w, hrun, by simpa [ev] using hown, only_refl w _⟩
      | some ad =>
        obtain ⟨v', w', hrun, h2, h3, _, _⟩ := run_append_own_at (P := Try.prog) (w := w) base 22 o.type 31 i _ 2 16 Try.underlying22 hi hz hs2 hby rfl (by decide) v n xs hown ad ([] : List Edge).length c (ev []) rfl (fun j u hj => by simp [ev] at hj) (ev_one []) (by simp; unfold maxLen; omega) (by simp; omega) hbase
        exact ⟨v', w', hrun, h2, h3⟩
    · obtain ⟨g, off, rfl, hc⟩ := hr.cells (by rw [ev_length]; omega)
      obtain ⟨v', w', hrun, h2, h3, _, _⟩ := run_append_own_at (P := Try.prog) (w := w) base 22 o.type 31 i _ 2 16 Try.underlying22 hi hz hs2 hby rfl (by decide) v n xs hown ⟨g, off, none⟩ l.length c (ev l) (ev_length l) (fun j u hj => by rw [Addr.add_lit]; exact hc j u hj) (ev_one l) (by unfold maxLen; omega) (by omega) hbase
      exact ⟨v', w', hrun, h2, h3⟩
  obtain ⟨v', w', hr2, h2, h3⟩ := hrun
  unfold Oper.wp execOp
  simp only [ho, resolve, invoke, builtin, Sem.run_bind, Sem.run_pure, Result.andThen_ok, List.map_toArray, List.map_cons, List.map_nil, hs, hx, hr2]
  exact h v' w' h2 h3

set_option maxRecDepth 100000 in
set_option maxHeartbeats 4000000 in
theorem more_any (C : RingC) (l : List Edge) (A : Option Addr) (c m1 m2 tx : Nat) (w : World) (h : Lie w A (ev l)) (hc : l.length ≤ c) (hcm : c ≤ 9223372036854775807) (hA : A = none → c = 0) (ht : tx < 18446744073709551616)
    (he : ∀ e ∈ l, e.1 < 18446744073709551616 ∧ e.2 < 18446744073709551616) (h1 : m1 < 18446744073709551616) (h2 : m2 < 18446744073709551616) :
    Calls Try.prog 5 #[.slice A l.length c, .agg #[.int .u64 (m1 : Int), .int .u64 (m2 : Int)], .int .u64 (tx : Int)] w fun e w' => e = .returned (.bool true) ∧ Below w.heap.size w w' := by
  have HD := Lib.hid (fun wx (hk : Keep w wx) => (head_any C wx).mono fun e w' (h : e = .returned (.bool true) ∧ Below wx.heap.size wx w') => (⟨h.1, hk.then h.2⟩ : e = .returned (.bool true) ∧ Below w.heap.size w w'))
  obtain ⟨POST, hPO⟩ : ∃ POST : Ending → World → Prop, (fun e w' => e = .returned (.bool true) ∧ Below w.heap.size w w') = POST := ⟨_, rfl⟩
  have HFIN := Lib.hid (show ∀ w', Below w.heap.size w w' → POST (.returned (.bool true)) w' from fun w' hb => by rw [← hPO]; exact ⟨rfl, hb⟩)
  rw [hPO]
  clear hPO
  have HLW := Lib.hid h
  have HK0 := Lib.hid (show Keep w (w.alloc (.cells #[.int .u64 (m1 : Int), .int .u64 (m2 : Int)] 31)) from (Keep.refl w).alloc _)
  have HBX := Lib.hid (show ∀ wx, Keep (w.alloc (.cells #[.int .u64 (m1 : Int), .int .u64 (m2 : Int)] 31)) wx → wx.cell? ⟨w.heap.size, 0, none⟩ = some (.int .u64 (m1 : Int)) ∧ wx.cell? ⟨w.heap.size, 1, none⟩ = some (.int .u64 (m2 : Int)) from fun wx hk => by
    have hr : Row (w.alloc (.cells #[.int .u64 (m1 : Int), .int .u64 (m2 : Int)] 31)) w.heap.size 31 [.int .u64 (m1 : Int), .int .u64 (m2 : Int)] (0, 0) := Row.new w 31 _ (0, 0)
    exact ⟨(hr.below hk hr.lt).cell 0, (hr.below hk hr.lt).cell 1⟩)
  obtain ⟨wb, hwb⟩ : ∃ wb, w.alloc (.cells #[.int .u64 (m1 : Int), .int .u64 (m2 : Int)] 31) = wb := ⟨_, rfl⟩
  rw [hwb] at HK0 HBX
  by_cases hn : l.length ≤ 60
  · have hI : ¬ (60 : Int) < (l.length : Int) := by omega
    have hI2 : (l.length : Int) ≤ 60 := by omega
    have HC := Lib.hid (C l A c tx wb (h.keep HK0.out) hc hcm hA (by omega) ht he)
    clear h
    go_enter Try.func5, Try.ntmps5
    go_wp2_with fail
    generalize hbh : w.heap.size = bx at *
    refine HC.out.mono ?_
    rintro e w1 ⟨A1, n1, c1, r1, rfl, hq1, hqc, _, hl1, hr1, hb1⟩
    have HL1 := Lib.hid hl1
    have HR1 := Lib.hid hr1
    have HB1 := Lib.hid (show Keep wb w1 from hb1)
    have HQ1 := Lib.hid hq1
    have hlen : n1 ≤ 60 := by
      have := nodup_le (a := r1) (b := l.map (·.1)) hr1.nodup fun x hx => by
        obtain ⟨i, hi, rfl⟩ := List.getElem_of_mem hx
        exact List.mem_map.2 ⟨_, hr1.edges i hi, rfl⟩
      rw [List.length_map] at this
      omega
    clear hl1 hr1 hb1 HC hq1
    have hwl : IntKind.i64.wrap ((l.length : Int) - 1) = (l.length : Int) - 1 := IntWalk.i64_in _ (by omega)
    go_wp2_with fail
    go_loopw [8, 9] (fun v i wr => ∃ (j : Nat) (T : List Edge), j ≤ l.length ∧ i = .int .i64 ((j : Int) - 1) ∧ Hid (∀ e, e ∈ T ↔ e ∈ l.drop j) ∧ Hid (T.length = 2 * (l.length - j)) ∧ Hid (wr.ownsRow w1.heap.size 31 2 v T.length (ev T) ∧ Keep w1 wr)) (fun _ i _ => (intOf i + 1).toNat)
    case atStart => exact ⟨l.length, [], Nat.le_refl _, rfl, Lib.hid (by simp), Lib.hid (by simp), Lib.hid ⟨World.ownsRow_nil _ _ _ _, Keep.refl w1⟩⟩
    case round =>
      obtain ⟨j, T, hj, rfl, HT, HTL, HO⟩ := hrel
      by_cases hj0 : j = 0
      · subst hj0
        obtain ⟨A2, c2, rfl, hc2, hc20, hl2⟩ := ownsRow_lit HO.out.1
        have hTl2 : T.length ≤ 120 := by have := HTL.out; omega
        have HC2 := Lib.hid (C T A2 c2 tx wr hl2 hc2 (ownsRow_cap HO.out.1) hc20 (by omega) ht (fun e hm => he e (by have := (HT.out e).1 hm; rwa [List.drop_zero] at this)))
        have HTS := Lib.hid (show ∀ e, e ∈ T ↔ e ∈ l from fun e => by have := HT.out e; rwa [List.drop_zero] at this)
        have HKR := Lib.hid (show Keep wb wr from HB1.out.trans HO.out.2)
        have HL1 := Lib.hid (HL1.out.keep HO.out.2)
        clear HO hl2 HT
        go_wp2_with fail
        refine HC2.out.mono ?_
        rintro e w2 ⟨A3, n3, c3, r3, rfl, rfl, _, _, hl3, hr3, hb3⟩
        obtain rfl := (hr3.same HTS.out).uniq HR1.out
        have HS := Lib.hid (show Calls Try.prog 7 #[.slice A3 n1 c3, .slice A1 n1 c1] w2 fun e w' => e = .returned (.bool true) ∧ Below w2.heap.size w2 w' by
          have := sameIds_yes r3 A3 A1 c3 c1 w2 hl3 (HL1.out.keeps hb3) (by rw [HQ1.out]; omega)
          rw [HQ1.out] at this
          exact this)
        have HKR2 := Lib.hid (HKR.out.then hb3)
        rw [HQ1.out]
        clear hb3 hl3 HC2 HL1 hr3
        go_wp2_with fail
        refine HS.out.mono ?_
        rintro e w3 ⟨rfl, hb4⟩
        have HK3 := Lib.hid (HKR2.out.then hb4)
        clear hb4 HS HKR HKR2
        obtain ⟨wd, hwd⟩ : ∃ wd, w3.drew = wd := ⟨_, rfl⟩
        have HKd := Lib.hid (show Keep wb wd by rw [← hwd]; exact HK3.out.drew)
        have hHeld : Keep wd wd ∧ wd.cell? ⟨bx, 0, none⟩ = some (.int .u64 (m1 : Int)) ∧ wd.cell? ⟨bx, 1, none⟩ = some (.int .u64 (m2 : Int)) := ⟨Keep.refl wd, HBX.out wd HKd.out⟩
        have HLd := Lib.hid (HLW.out.keep (HK0.out.trans HKd.out))
        clear HK3 HTS
        have HMR := Lib.hid (show ∀ d, RingOf (l ++ [(m1, m2)]) tx d → n1 = 0 ∨ (d.length ≠ 0 ∧ d.length ≤ n1) from fun d hd => by
          rcases HR1.out.more (fun e hm => List.mem_append_left _ hm) hd with h | ⟨h, h'⟩
          · left; rw [← HQ1.out, h]; rfl
          · right; rw [← HQ1.out]; exact ⟨fun h0 => h (List.eq_nil_of_length_eq_zero h0), h'⟩)
        have HC3 := Lib.hid (fun (A' : Option Addr) (c' : Nat) (wx : World) (hl : Lie wx A' (ev (l ++ [(m1, m2)]))) (h1' : (l ++ [(m1, m2)]).length ≤ c') (h2' : c' ≤ 9223372036854775807) (h3' : A' = none → c' = 0) => C (l ++ [(m1, m2)]) A' c' tx wx hl h1' h2' h3' (by simp; omega) ht (fun e hm => by
          rcases List.mem_append.1 hm with hm | hm
          · exact he e hm
          · rw [List.mem_singleton.1 hm]; exact ⟨h1, h2⟩))
        clear C he HR1
        obtain ⟨D, hD⟩ : ∃ D, wd.heap.size = D := ⟨_, rfl⟩
        have HDs := Lib.hid (fun _ : Unit => hD)
        clear hD
        go_wp2_with fail
        refine wp_region_noPanic ?_
        refine wp_region_sch (fun wx => Keep wd wx ∧ wx.cell? ⟨bx, 0, none⟩ = some (.int .u64 (m1 : Int)) ∧ wx.cell? ⟨bx, 1, none⟩ = some (.int .u64 (m2 : Int))) (fun i => [0, 2, 4, 5, 7].contains i)
          (.takes [1, 3, 6] (.fork [0, 4] (fun k => if k = 0 then (.fork [2, 4] (fun k => if k = 2 then (.run 4 (.run 5 (.run 7 (.takes [8] .done)))) else (.run 2 (.run 5 (.run 7 (.takes [8] .done)))))) else (.run 0 (.run 2 (.run 5 (.run 7 (.takes [8] .done)))))))) (by kernel_rfl) (fun _ _ _ _ _ h => h) (by kernel_rfl) ?_
        rw [hwd]
        clear hwd
        iterate 3 (
          refine sch_takes_cons ?_
          first
            | (refine sch_take (v := ?_) rfl (by assumption) (by rfl) ?_ ?_; rotate_left; (focus (intro wy hSy; (try dsimp only at hSy); go_simp; (try with_reducible rfl))))
            | (refine sch_pass rfl (by assumption) (by rfl) ?_)
          simp only [Act.put, List.setIfInBounds_toArray, List.set_cons_zero, List.set_cons_succ])
        refine sch_takes_nil ?_
        refine sch_fork rfl (fun K hK => ?_) (sch_fork rfl (fun K hK => ?_) sch_fork_nil)
        · go_simp
          have HKx1 := Lib.hid (show Keep wd (wd.alloc (.cells #[] 31)) from (Keep.refl wd).alloc _)
          have HSz1 := Lib.hid (show wd.heap.size < (wd.alloc (.cells #[] 31)).heap.size by simp)
          have HOx1 := Lib.hid (show (wd.alloc (.cells #[] 31)).ownsRow D 31 2 (.slice (some ⟨wd.heap.size, 0, none⟩) 0 0) 0 [] from World.ownsRow_made wd #[] 0 (by have := Below.size (Keep.refl wd); have := HDs.out (); omega) (by decide) rfl)
          obtain ⟨x1, hx1⟩ : ∃ x, wd.alloc (.cells #[] 31) = x := ⟨_, rfl⟩
          rw [hx1] at HKx1 HSz1 HOx1 ⊢
          clear hx1
          generalize hx1z : wd.heap.size = h0 at *
          have hHeld : Keep wd x1 ∧ x1.cell? ⟨bx, 0, none⟩ = some (.int .u64 (m1 : Int)) ∧ x1.cell? ⟨bx, 1, none⟩ = some (.int .u64 (m2 : Int)) := ⟨HKx1.out, HBX.out x1 (HKd.out.trans HKx1.out)⟩
          refine hK.out _ _ (fun _ => hHeld) ?_
          clear hK K
          change wpSch _ _ _ _ _ _ (.fork [2, 4] (fun k => if k = 2 then (.run 4 (.run 5 (.run 7 (.takes [8] .done)))) else (.run 2 (.run 5 (.run 7 (.takes [8] .done)))))) _ _
          try simp only [Act.put, List.setIfInBounds_toArray, List.set_cons_zero, List.set_cons_succ]
          refine sch_fork rfl (fun K hK => ?_) (sch_fork rfl (fun K hK => ?_) sch_fork_nil)
          · refine step_edges rfl (.tmp 42) (.tmp 43) rfl D _ 0 [] rfl HOx1.out A l l.length c rfl rfl (HLd.out.keep HKx1.out) hA (by omega) (by have := Below.size HKx1.out; have := HDs.out (); omega) ?_
            intro v2 x2 ho2 hg2
            have HKx2 := Lib.hid (show Keep wd x2 from Below.grown HKx1.out hg2 HKx1.out.size (fun g hg2 => by have := (World.ownsRow.lt HOx1.out g hg2).1; have := HDs.out (); omega))
            have HOx2 := Lib.hid (show x2.ownsRow D 31 2 v2 l.length (ev l) by simpa using ho2)
            clear ho2 hg2
            have hHeld : Keep wd x2 ∧ x2.cell? ⟨bx, 0, none⟩ = some (.int .u64 (m1 : Int)) ∧ x2.cell? ⟨bx, 1, none⟩ = some (.int .u64 (m2 : Int)) := ⟨HKx2.out, HBX.out x2 (HKd.out.trans HKx2.out)⟩
            refine hK.out _ _ (fun _ => hHeld) ?_
            clear hK K
            change wpSch _ _ _ _ _ _ (.run 4 (.run 5 (.run 7 (.takes [8] .done)))) _ _
            try simp only [Act.put, List.setIfInBounds_toArray, List.set_cons_zero, List.set_cons_succ]
            refine sch_run rfl (fun K hK => ?_)
            go_simp
            have HKx3 := Lib.hid (show Keep wd (x2.alloc (.cells #[.int .u64 (m1 : Int), .int .u64 (m2 : Int)] 31)) from HKx2.out.alloc _)
            have HSz3 := Lib.hid (show x2.heap.size < (x2.alloc (.cells #[.int .u64 (m1 : Int), .int .u64 (m2 : Int)] 31)).heap.size by simp)
            have HOx3 := Lib.hid (World.ownsRow.alloc HOx2.out (.cells #[.int .u64 (m1 : Int), .int .u64 (m2 : Int)] 31))
            have HMx3 := Lib.hid (show Row (x2.alloc (.cells #[.int .u64 (m1 : Int), .int .u64 (m2 : Int)] 31)) x2.heap.size 31 [.int .u64 (m1 : Int), .int .u64 (m2 : Int)] (0, 0) from Row.new x2 31 _ (0, 0))
            obtain ⟨x3, hx3⟩ : ∃ x, x2.alloc (.cells #[.int .u64 (m1 : Int), .int .u64 (m2 : Int)] 31) = x := ⟨_, rfl⟩
            rw [hx3] at HKx3 HSz3 HOx3 HMx3 ⊢
            clear hx3
            generalize hx3z : x2.heap.size = hM at *
            have hHeld : Keep wd x3 ∧ x3.cell? ⟨bx, 0, none⟩ = some (.int .u64 (m1 : Int)) ∧ x3.cell? ⟨bx, 1, none⟩ = some (.int .u64 (m2 : Int)) := ⟨HKx3.out, HBX.out x3 (HKd.out.trans HKx3.out)⟩
            refine hK.out _ _ (fun _ => hHeld) ?_
            clear hK K
            try simp only [Act.put, List.setIfInBounds_toArray, List.set_cons_zero, List.set_cons_succ]
            refine sch_run rfl (fun K hK => ?_)
            refine step_edges rfl (.tmp 44) (.tmp 46) rfl D _ l.length (ev l) rfl HOx3.out (some ⟨hM, 0, none⟩) [(m1, m2)] 1 1 rfl rfl (fun _ => ⟨_, hM, 0, _, (0, 0), rfl, HMx3.out, fun j _ => by rw [Nat.zero_add]; rfl⟩) (fun h => by cases h) (by omega) (by have := Below.size HKx3.out; have := HDs.out (); omega) ?_
            intro v4 x4 ho4 hg4
            have HKx4 := Lib.hid (show Keep wd x4 from Below.grown HKx3.out hg4 HKx3.out.size (fun g hg2 => by have := (World.ownsRow.lt HOx3.out g hg2).1; have := HDs.out (); omega))
            rw [← ev_append] at ho4
            obtain ⟨A9, c9, rfl, hc9, hc90, hl9⟩ := ownsRow_lit ho4
            have HC9 := Lib.hid (HC3.out A9 c9 x4 hl9 (by simp; omega) (ownsRow_cap ho4) hc90)
            rw [List.length_append, List.length_singleton] at HC9
            clear ho4 hg4 hl9 hc90
            have hHeld : Keep wd x4 ∧ x4.cell? ⟨bx, 0, none⟩ = some (.int .u64 (m1 : Int)) ∧ x4.cell? ⟨bx, 1, none⟩ = some (.int .u64 (m2 : Int)) := ⟨HKx4.out, HBX.out x4 (HKd.out.trans HKx4.out)⟩
            refine hK.out _ _ (fun _ => hHeld) ?_
            clear hK K
            try simp only [Act.put, List.setIfInBounds_toArray, List.set_cons_zero, List.set_cons_succ]
            refine sch_run rfl (fun K hK => ?_)
            go_simp
            with_reducible refine HC9.out.mono ?_
            rintro e x5 ⟨A8, n8, c8, r8, rfl, rfl, _, _, _, hr8, hb8⟩
            have HKx5 := Lib.hid (show Keep wd x5 from Keep.then HKx4.out hb8)
            have HM8 := Lib.hid (HMR.out r8 hr8)
            clear hr8 hb8 HC9
            have hHeld : Keep wd x5 ∧ x5.cell? ⟨bx, 0, none⟩ = some (.int .u64 (m1 : Int)) ∧ x5.cell? ⟨bx, 1, none⟩ = some (.int .u64 (m2 : Int)) := ⟨HKx5.out, HBX.out x5 (HKd.out.trans HKx5.out)⟩
            refine hK.out _ _ (fun _ => hHeld) ?_
            clear hK K
            try simp only [Act.put, List.setIfInBounds_toArray, List.set_cons_zero, List.set_cons_succ]
            refine sch_takes_cons ?_
            first
              | (refine sch_take (v := ?_) rfl (by assumption) (by rfl) ?_ ?_; rotate_left; (focus (intro wy hSy; (try dsimp only at hSy); go_simp; (try with_reducible rfl))))
              | (refine sch_pass rfl (by assumption) (by rfl) ?_)
            simp only [Act.put, List.setIfInBounds_toArray, List.set_cons_zero, List.set_cons_succ]
            refine sch_takes_nil ?_
            refine sch_done ?_
            refine NoPanic.normal ?_
            have HD8 := Lib.hid (HD.out x5 (HK0.out.trans (HKd.out.trans HKx5.out)))
            clear hHeld HBX HLd HKd HC3 HMR
            generalize r8.length = q8 at *
            rcases HM8.out with h | ⟨h, h'⟩
            · have b1 : (n1 : Int) = 0 := by omega
              subst h
              clear HM8
              go_wp2_with fail
              refine HD8.out.mono ?_
              rintro e w9 ⟨rfl, hb9⟩
              have HF := Lib.hid (HFIN.out _ (by first | exact hb9 | (rw [← hbh] at hb9; exact hb9)))
              clear hb9 HD8 HD
              go_wp2_with fail
              exact HF.out
            · have b2 : (0 : Int) < (q8 : Int) := by omega
              have b3 : (q8 : Int) ≤ (n1 : Int) := by omega
              have b4 : ¬ n1 = 0 := by omega
              have b5 : 0 < q8 := by omega
              clear HM8 h
              go_wp2_with fail
              refine HD8.out.mono ?_
              rintro e w9 ⟨rfl, hb9⟩
              have HF := Lib.hid (HFIN.out _ (by first | exact hb9 | (rw [← hbh] at hb9; exact hb9)))
              clear hb9 HD8 HD
              go_wp2_with fail
              exact HF.out
          · go_simp
            have HKx2 := Lib.hid (show Keep wd (x1.alloc (.cells #[.int .u64 (m1 : Int), .int .u64 (m2 : Int)] 31)) from HKx1.out.alloc _)
            have HSz2 := Lib.hid (show x1.heap.size < (x1.alloc (.cells #[.int .u64 (m1 : Int), .int .u64 (m2 : Int)] 31)).heap.size by simp)
            have HOx2 := Lib.hid (World.ownsRow.alloc HOx1.out (.cells #[.int .u64 (m1 : Int), .int .u64 (m2 : Int)] 31))
            have HMx2 := Lib.hid (show Row (x1.alloc (.cells #[.int .u64 (m1 : Int), .int .u64 (m2 : Int)] 31)) x1.heap.size 31 [.int .u64 (m1 : Int), .int .u64 (m2 : Int)] (0, 0) from Row.new x1 31 _ (0, 0))
            have HNE := Lib.hid (show x1.heap.size ≠ h0 from fun e => by have := (World.ownsRow.lt HOx1.out h0 rfl).2; omega)
            obtain ⟨x2, hx2⟩ : ∃ x, x1.alloc (.cells #[.int .u64 (m1 : Int), .int .u64 (m2 : Int)] 31) = x := ⟨_, rfl⟩
            rw [hx2] at HKx2 HSz2 HOx2 HMx2 ⊢
            clear hx2
            generalize hx2z : x1.heap.size = hM at *
            have hHeld : Keep wd x2 ∧ x2.cell? ⟨bx, 0, none⟩ = some (.int .u64 (m1 : Int)) ∧ x2.cell? ⟨bx, 1, none⟩ = some (.int .u64 (m2 : Int)) := ⟨HKx2.out, HBX.out x2 (HKd.out.trans HKx2.out)⟩
            refine hK.out _ _ (fun _ => hHeld) ?_
            clear hK K
            change wpSch _ _ _ _ _ _ (.run 2 (.run 5 (.run 7 (.takes [8] .done)))) _ _
            try simp only [Act.put, List.setIfInBounds_toArray, List.set_cons_zero, List.set_cons_succ]
            refine sch_run rfl (fun K hK => ?_)
            refine step_edges rfl (.tmp 42) (.tmp 43) rfl D _ 0 [] rfl HOx2.out A l l.length c rfl rfl (HLd.out.keep HKx2.out) hA (by omega) (by have := Below.size HKx2.out; have := HDs.out (); omega) ?_
            intro v3 x3 ho3 hg3
            have HKx3 := Lib.hid (show Keep wd x3 from Below.grown HKx2.out hg3 HKx2.out.size (fun g hg2 => by have := (World.ownsRow.lt HOx2.out g hg2).1; have := HDs.out (); omega))
            have HMx3 := Lib.hid (show Row x3 hM 31 [.int .u64 (m1 : Int), .int .u64 (m2 : Int)] (0, 0) from (hg3.block hM (Row.lt HMx2.out) (fun e => by injection e with e; exact HNE.out e)).trans HMx2.out)
            have HOx3 := Lib.hid (show x3.ownsRow D 31 2 v3 l.length (ev l) by simpa using ho3)
            clear ho3 hg3
            have hHeld : Keep wd x3 ∧ x3.cell? ⟨bx, 0, none⟩ = some (.int .u64 (m1 : Int)) ∧ x3.cell? ⟨bx, 1, none⟩ = some (.int .u64 (m2 : Int)) := ⟨HKx3.out, HBX.out x3 (HKd.out.trans HKx3.out)⟩
            refine hK.out _ _ (fun _ => hHeld) ?_
            clear hK K
            try simp only [Act.put, List.setIfInBounds_toArray, List.set_cons_zero, List.set_cons_succ]
            refine sch_run rfl (fun K hK => ?_)
            refine step_edges rfl (.tmp 44) (.tmp 46) rfl D _ l.length (ev l) rfl HOx3.out (some ⟨hM, 0, none⟩) [(m1, m2)] 1 1 rfl rfl (fun _ => ⟨_, hM, 0, _, (0, 0), rfl, HMx3.out, fun j _ => by rw [Nat.zero_add]; rfl⟩) (fun h => by cases h) (by omega) (by have := Below.size HKx3.out; have := HDs.out (); omega) ?_
            intro v4 x4 ho4 hg4
            have HKx4 := Lib.hid (show Keep wd x4 from Below.grown HKx3.out hg4 HKx3.out.size (fun g hg2 => by have := (World.ownsRow.lt HOx3.out g hg2).1; have := HDs.out (); omega))
            rw [← ev_append] at ho4
            obtain ⟨A9, c9, rfl, hc9, hc90, hl9⟩ := ownsRow_lit ho4
            have HC9 := Lib.hid (HC3.out A9 c9 x4 hl9 (by simp; omega) (ownsRow_cap ho4) hc90)
            rw [List.length_append, List.length_singleton] at HC9
            clear ho4 hg4 hl9 hc90
            have hHeld : Keep wd x4 ∧ x4.cell? ⟨bx, 0, none⟩ = some (.int .u64 (m1 : Int)) ∧ x4.cell? ⟨bx, 1, none⟩ = some (.int .u64 (m2 : Int)) := ⟨HKx4.out, HBX.out x4 (HKd.out.trans HKx4.out)⟩
            refine hK.out _ _ (fun _ => hHeld) ?_
            clear hK K
            try simp only [Act.put, List.setIfInBounds_toArray, List.set_cons_zero, List.set_cons_succ]
            refine sch_run rfl (fun K hK => ?_)
            go_simp
            with_reducible refine HC9.out.mono ?_
            rintro e x5 ⟨A8, n8, c8, r8, rfl, rfl, _, _, _, hr8, hb8⟩
            have HKx5 := Lib.hid (show Keep wd x5 from Keep.then HKx4.out hb8)
            have HM8 := Lib.hid (HMR.out r8 hr8)
            clear hr8 hb8 HC9
            have hHeld : Keep wd x5 ∧ x5.cell? ⟨bx, 0, none⟩ = some (.int .u64 (m1 : Int)) ∧ x5.cell? ⟨bx, 1, none⟩ = some (.int .u64 (m2 : Int)) := ⟨HKx5.out, HBX.out x5 (HKd.out.trans HKx5.out)⟩
            refine hK.out _ _ (fun _ => hHeld) ?_
            clear hK K
            try simp only [Act.put, List.setIfInBounds_toArray, List.set_cons_zero, List.set_cons_succ]
            refine sch_takes_cons ?_
            first
              | (refine sch_take (v := ?_) rfl (by assumption) (by rfl) ?_ ?_; rotate_left; (focus (intro wy hSy; (try dsimp only at hSy); go_simp; (try with_reducible rfl))))
              | (refine sch_pass rfl (by assumption) (by rfl) ?_)
            simp only [Act.put, List.setIfInBounds_toArray, List.set_cons_zero, List.set_cons_succ]
            refine sch_takes_nil ?_
            refine sch_done ?_
            refine NoPanic.normal ?_
            have HD8 := Lib.hid (HD.out x5 (HK0.out.trans (HKd.out.trans HKx5.out)))
            clear hHeld HBX HLd HKd HC3 HMR
            generalize r8.length = q8 at *
            rcases HM8.out with h | ⟨h, h'⟩
            · have b1 : (n1 : Int) = 0 := by omega
              subst h
              clear HM8
              go_wp2_with fail
              refine HD8.out.mono ?_
              rintro e w9 ⟨rfl, hb9⟩
              have HF := Lib.hid (HFIN.out _ (by first | exact hb9 | (rw [← hbh] at hb9; exact hb9)))
              clear hb9 HD8 HD
              go_wp2_with fail
              exact HF.out
            · have b2 : (0 : Int) < (q8 : Int) := by omega
              have b3 : (q8 : Int) ≤ (n1 : Int) := by omega
              have b4 : ¬ n1 = 0 := by omega
              have b5 : 0 < q8 := by omega
              clear HM8 h
              go_wp2_with fail
              refine HD8.out.mono ?_
              rintro e w9 ⟨rfl, hb9⟩
              have HF := Lib.hid (HFIN.out _ (by first | exact hb9 | (rw [← hbh] at hb9; exact hb9)))
              clear hb9 HD8 HD
              go_wp2_with fail
              exact HF.out
        · go_simp
          have HKx1 := Lib.hid (show Keep wd (wd.alloc (.cells #[.int .u64 (m1 : Int), .int .u64 (m2 : Int)] 31)) from (Keep.refl wd).alloc _)
          have HSz1 := Lib.hid (show wd.heap.size < (wd.alloc (.cells #[.int .u64 (m1 : Int), .int .u64 (m2 : Int)] 31)).heap.size by simp)
          have HMx1 := Lib.hid (show Row (wd.alloc (.cells #[.int .u64 (m1 : Int), .int .u64 (m2 : Int)] 31)) wd.heap.size 31 [.int .u64 (m1 : Int), .int .u64 (m2 : Int)] (0, 0) from Row.new wd 31 _ (0, 0))
          obtain ⟨x1, hx1⟩ : ∃ x, wd.alloc (.cells #[.int .u64 (m1 : Int), .int .u64 (m2 : Int)] 31) = x := ⟨_, rfl⟩
          rw [hx1] at HKx1 HSz1 HMx1 ⊢
          clear hx1
          generalize hx1z : wd.heap.size = hM at *
          have hHeld : Keep wd x1 ∧ x1.cell? ⟨bx, 0, none⟩ = some (.int .u64 (m1 : Int)) ∧ x1.cell? ⟨bx, 1, none⟩ = some (.int .u64 (m2 : Int)) := ⟨HKx1.out, HBX.out x1 (HKd.out.trans HKx1.out)⟩
          refine hK.out _ _ (fun _ => hHeld) ?_
          clear hK K
          change wpSch _ _ _ _ _ _ (.run 0 (.run 2 (.run 5 (.run 7 (.takes [8] .done))))) _ _
          try simp only [Act.put, List.setIfInBounds_toArray, List.set_cons_zero, List.set_cons_succ]
          refine sch_run rfl (fun K hK => ?_)
          go_simp
          have HKx2 := Lib.hid (show Keep wd (x1.alloc (.cells #[] 31)) from HKx1.out.alloc _)
          have HSz2 := Lib.hid (show x1.heap.size < (x1.alloc (.cells #[] 31)).heap.size by simp)
          have HOx2 := Lib.hid (show (x1.alloc (.cells #[] 31)).ownsRow D 31 2 (.slice (some ⟨x1.heap.size, 0, none⟩) 0 0) 0 [] from World.ownsRow_made x1 #[] 0 (by have := Below.size HKx1.out; have := HDs.out (); omega) (by decide) rfl)
          have HMx2 := Lib.hid (Row.alloc HMx1.out (.cells #[] 31))
          have HNE := Lib.hid (show hM ≠ x1.heap.size from Nat.ne_of_lt (Row.lt HMx1.out))
          obtain ⟨x2, hx2⟩ : ∃ x, x1.alloc (.cells #[] 31) = x := ⟨_, rfl⟩
          rw [hx2] at HKx2 HSz2 HOx2 HMx2 ⊢
          clear hx2
          generalize hx2z : x1.heap.size = h0 at *
          have hHeld : Keep wd x2 ∧ x2.cell? ⟨bx, 0, none⟩ = some (.int .u64 (m1 : Int)) ∧ x2.cell? ⟨bx, 1, none⟩ = some (.int .u64 (m2 : Int)) := ⟨HKx2.out, HBX.out x2 (HKd.out.trans HKx2.out)⟩
          refine hK.out _ _ (fun _ => hHeld) ?_
          clear hK K
          try simp only [Act.put, List.setIfInBounds_toArray, List.set_cons_zero, List.set_cons_succ]
          refine sch_run rfl (fun K hK => ?_)
          refine step_edges rfl (.tmp 42) (.tmp 43) rfl D _ 0 [] rfl HOx2.out A l l.length c rfl rfl (HLd.out.keep HKx2.out) hA (by omega) (by have := Below.size HKx2.out; have := HDs.out (); omega) ?_
          intro v3 x3 ho3 hg3
          have HKx3 := Lib.hid (show Keep wd x3 from Below.grown HKx2.out hg3 HKx2.out.size (fun g hg2 => by have := (World.ownsRow.lt HOx2.out g hg2).1; have := HDs.out (); omega))
          have HMx3 := Lib.hid (show Row x3 hM 31 [.int .u64 (m1 : Int), .int .u64 (m2 : Int)] (0, 0) from (hg3.block hM (Row.lt HMx2.out) (fun e => by injection e with e; exact HNE.out e)).trans HMx2.out)
          have HOx3 := Lib.hid (show x3.ownsRow D 31 2 v3 l.length (ev l) by simpa using ho3)
          clear ho3 hg3
          have hHeld : Keep wd x3 ∧ x3.cell? ⟨bx, 0, none⟩ = some (.int .u64 (m1 : Int)) ∧ x3.cell? ⟨bx, 1, none⟩ = some (.int .u64 (m2 : Int)) := ⟨HKx3.out, HBX.out x3 (HKd.out.trans HKx3.out)⟩
          refine hK.out _ _ (fun _ => hHeld) ?_
          clear hK K
          try simp only [Act.put, List.setIfInBounds_toArray, List.set_cons_zero, List.set_cons_succ]
          refine sch_run rfl (fun K hK => ?_)
          refine step_edges rfl (.tmp 44) (.tmp 46) rfl D _ l.length (ev l) rfl HOx3.out (some ⟨hM, 0, none⟩) [(m1, m2)] 1 1 rfl rfl (fun _ => ⟨_, hM, 0, _, (0, 0), rfl, HMx3.out, fun j _ => by rw [Nat.zero_add]; rfl⟩) (fun h => by cases h) (by omega) (by have := Below.size HKx3.out; have := HDs.out (); omega) ?_
          intro v4 x4 ho4 hg4
          have HKx4 := Lib.hid (show Keep wd x4 from Below.grown HKx3.out hg4 HKx3.out.size (fun g hg2 => by have := (World.ownsRow.lt HOx3.out g hg2).1; have := HDs.out (); omega))
          rw [← ev_append] at ho4
          obtain ⟨A9, c9, rfl, hc9, hc90, hl9⟩ := ownsRow_lit ho4
          have HC9 := Lib.hid (HC3.out A9 c9 x4 hl9 (by simp; omega) (ownsRow_cap ho4) hc90)
          rw [List.length_append, List.length_singleton] at HC9
          clear ho4 hg4 hl9 hc90
          have hHeld : Keep wd x4 ∧ x4.cell? ⟨bx, 0, none⟩ = some (.int .u64 (m1 : Int)) ∧ x4.cell? ⟨bx, 1, none⟩ = some (.int .u64 (m2 : Int)) := ⟨HKx4.out, HBX.out x4 (HKd.out.trans HKx4.out)⟩
          refine hK.out _ _ (fun _ => hHeld) ?_
          clear hK K
          try simp only [Act.put, List.setIfInBounds_toArray, List.set_cons_zero, List.set_cons_succ]
          refine sch_run rfl (fun K hK => ?_)
          go_simp
          with_reducible refine HC9.out.mono ?_
          rintro e x5 ⟨A8, n8, c8, r8, rfl, rfl, _, _, _, hr8, hb8⟩
          have HKx5 := Lib.hid (show Keep wd x5 from Keep.then HKx4.out hb8)
          have HM8 := Lib.hid (HMR.out r8 hr8)
          clear hr8 hb8 HC9
          have hHeld : Keep wd x5 ∧ x5.cell? ⟨bx, 0, none⟩ = some (.int .u64 (m1 : Int)) ∧ x5.cell? ⟨bx, 1, none⟩ = some (.int .u64 (m2 : Int)) := ⟨HKx5.out, HBX.out x5 (HKd.out.trans HKx5.out)⟩
          refine hK.out _ _ (fun _ => hHeld) ?_
          clear hK K
          try simp only [Act.put, List.setIfInBounds_toArray, List.set_cons_zero, List.set_cons_succ]
          refine sch_takes_cons ?_
          first
            | (refine sch_take (v := ?_) rfl (by assumption) (by rfl) ?_ ?_; rotate_left; (focus (intro wy hSy; (try dsimp only at hSy); go_simp; (try with_reducible rfl))))
            | (refine sch_pass rfl (by assumption) (by rfl) ?_)
          simp only [Act.put, List.setIfInBounds_toArray, List.set_cons_zero, List.set_cons_succ]
          refine sch_takes_nil ?_
          refine sch_done ?_
          refine NoPanic.normal ?_
          have HD8 := Lib.hid (HD.out x5 (HK0.out.trans (HKd.out.trans HKx5.out)))
          clear hHeld HBX HLd HKd HC3 HMR
          generalize r8.length = q8 at *
          rcases HM8.out with h | ⟨h, h'⟩
          · have b1 : (n1 : Int) = 0 := by omega
            subst h
            clear HM8
            go_wp2_with fail
            refine HD8.out.mono ?_
            rintro e w9 ⟨rfl, hb9⟩
            have HF := Lib.hid (HFIN.out _ (by first | exact hb9 | (rw [← hbh] at hb9; exact hb9)))
            clear hb9 HD8 HD
            go_wp2_with fail
            exact HF.out
          · have b2 : (0 : Int) < (q8 : Int) := by omega
            have b3 : (q8 : Int) ≤ (n1 : Int) := by omega
            have b4 : ¬ n1 = 0 := by omega
            have b5 : 0 < q8 := by omega
            clear HM8 h
            go_wp2_with fail
            refine HD8.out.mono ?_
            rintro e w9 ⟨rfl, hb9⟩
            have HF := Lib.hid (HFIN.out _ (by first | exact hb9 | (rw [← hbh] at hb9; exact hb9)))
            clear hb9 HD8 HD
            go_wp2_with fail
            exact HF.out
      · obtain ⟨k, rfl⟩ : ∃ k, j = k + 1 := ⟨j - 1, by omega⟩
        have hji : ((k + 1 : Nat) : Int) - 1 = (k : Int) := by omega
        rw [hji]
        have hkl : (k : Int) < (l.length : Int) := by omega
        obtain ⟨g, off, rfl, hce⟩ := HLW.out.edges (by omega)
        have HCE := Lib.hid (fun wx (hk : Keep w1 wx) => hce wx (HK0.out.trans (HB1.out.trans hk)) k (by omega))
        obtain ⟨e2, he2⟩ : ∃ e2, l[k].2 = e2 := ⟨_, rfl⟩
        obtain ⟨e1, he1⟩ : ∃ e1, l[k].1 = e1 := ⟨_, rfl⟩
        have HTN := Lib.hid (show ∀ e, e ∈ T ++ [(e1, e2), (e1, e2)] ↔ e ∈ l.drop k from fun e => by
          have hd : l.drop k = (e1, e2) :: l.drop (k + 1) := by rw [List.drop_eq_getElem_cons (by omega : k < l.length), show l[k] = (e1, e2) by rw [← he1, ← he2]]
          rw [hd, List.mem_append]
          constructor
          · rintro (h | h)
            · exact List.mem_cons_of_mem _ ((HT.out e).1 h)
            · rw [show e = (e1, e2) by simpa using h]; exact List.mem_cons_self
          · intro h
            rcases List.mem_cons.1 h with h | h
            · exact Or.inr (by simp [h])
            · exact Or.inl ((HT.out e).2 h))
        simp only [he1, he2] at HCE
        have HT2 := Lib.hid (show (T ++ [(e1, e2), (e1, e2)]).length = 2 * (l.length - k) by have := HTL.out; simp only [List.length_append, List.length_cons, List.length_nil]; omega)
        have hTl2 : T.length ≤ 120 := by have := HTL.out; omega
        obtain ⟨wo, rfl⟩ : ∃ wo, wo = wr := ⟨wr, rfl⟩
        obtain ⟨wd, hwd⟩ : ∃ wd, wo.drew = wd := ⟨_, rfl⟩
        have HOd := Lib.hid (show ∀ v, wo.ownsRow w1.heap.size 31 2 v T.length (ev T) → wd.ownsRow w1.heap.size 31 2 v T.length (ev T) ∧ Keep w1 wd from fun v hv => hwd ▸ ⟨hv.keeps (Keep.refl wo).drew, HO.out.2.drew⟩)
        have HO2 := Lib.hid (HOd.out _ HO.out.1)
        have hHeld : wd.cell? ⟨g, off + k * 2, none⟩ = some (.int .u64 (e1 : Int)) ∧ wd.cell? ⟨g, off + k * 2 + 1, none⟩ = some (.int .u64 (e2 : Int)) := HCE.out wd HO2.out.2
        clear he1 he2 hce HT HO HOd
        go_wp2_with fail
        refine wp_region_noPanic ?_
        refine wp_region_sch (fun wx => wx.cell? ⟨g, off + k * 2, none⟩ = some (.int .u64 (e1 : Int)) ∧ wx.cell? ⟨g, off + k * 2 + 1, none⟩ = some (.int .u64 (e2 : Int))) (fun i => [9, 10].contains i)
          (.takes [0, 1, 2, 3, 4, 5, 6, 7, 8] (.run 9 (.run 10 (.takes [11] .done)))) (by kernel_rfl) (fun _ _ _ _ _ h => h) (by kernel_rfl) ?_
        rw [hwd]
        clear hwd
        iterate 9 (
          refine sch_takes_cons ?_
          first
            | (refine sch_take (v := ?_) rfl (by assumption) (by rfl) ?_ ?_; rotate_left; (focus (intro wy hSy; (try dsimp only at hSy); go_simp; (try with_reducible rfl))))
            | (refine sch_pass rfl (by assumption) (by rfl) ?_)
          simp only [Act.put, List.setIfInBounds_toArray, List.set_cons_zero, List.set_cons_succ])
        refine sch_takes_nil ?_
        refine sch_run rfl (fun K hK => ?_)
        go_simp
        have HNEW := Lib.hid (Lie.new wd 31 (ev [(e1, e2), (e1, e2)]))
        have HK5 := Lib.hid (show Keep wd (wd.alloc (.cells #[.int .u64 (e1 : Int), .int .u64 (e2 : Int), .int .u64 (e1 : Int), .int .u64 (e2 : Int)] 31)) from (Keep.refl wd).alloc _)
        obtain ⟨w5, hw5⟩ : ∃ w5, wd.alloc (.cells #[.int .u64 (e1 : Int), .int .u64 (e2 : Int), .int .u64 (e1 : Int), .int .u64 (e2 : Int)] 31) = w5 := ⟨_, rfl⟩
        have HN5 := Lib.hid (show Lie w5 (some ⟨wd.heap.size, 0, none⟩) (ev [(e1, e2), (e1, e2)]) from hw5 ▸ HNEW.out)
        rw [hw5] at HK5 ⊢
        clear hw5 HNEW
        have HO5 := Lib.hid (show w5.ownsRow w1.heap.size 31 2 _ T.length (ev T) ∧ Keep w1 w5 from ⟨HO2.out.1.keeps HK5.out, HO2.out.2.trans HK5.out⟩)
        have hHeld := HCE.out w5 HO5.out.2
        refine hK.out _ _ (fun _ => hHeld) ?_
        clear hK K
        try simp only [Act.put, List.setIfInBounds_toArray, List.set_cons_zero, List.set_cons_succ]
        refine sch_run rfl (fun K hK => ?_)
        refine step_edges rfl (.tmp 25) (.tmp 34) rfl w1.heap.size _ T.length (ev T) rfl HO5.out.1 (some ⟨wd.heap.size, 0, none⟩) [(e1, e2), (e1, e2)] 2 2 rfl rfl HN5.out (fun h => by cases h) (by omega) HO5.out.2.size ?_
        intro v6 w6 ho6 hg6
        have HN := Lib.hid (show w6.ownsRow w1.heap.size 31 2 v6 (T ++ [(e1, e2), (e1, e2)]).length (ev (T ++ [(e1, e2), (e1, e2)])) ∧ Keep w1 w6 from ⟨by rw [List.length_append, ev_append]; exact ho6, Below.grown HO5.out.2 hg6 HO5.out.2.size (fun g hg2 => (HO5.out.1.lt g hg2).1)⟩)
        clear ho6 hg6
        have hHeld := HCE.out w6 HN.out.2
        refine hK.out _ _ (fun _ => hHeld) ?_
        clear hK K
        try simp only [Act.put, List.setIfInBounds_toArray, List.set_cons_zero, List.set_cons_succ]
        refine sch_takes_cons ?_
        first
          | (refine sch_take (v := ?_) rfl (by assumption) (by rfl) ?_ ?_; rotate_left; (focus (intro wy hSy; (try dsimp only at hSy); go_simp; (try with_reducible rfl))))
          | (refine sch_pass rfl (by assumption) (by rfl) ?_)
        simp only [Act.put, List.setIfInBounds_toArray, List.set_cons_zero, List.set_cons_succ]
        refine sch_takes_nil ?_
        refine sch_done ?_
        refine NoPanic.normal ?_
        clear hHeld HO5 HO2 HN5 HK5
        go_wp2_with fail
        go_roundw
        case rel => exact ⟨k, T ++ [(e1, e2), (e1, e2)], by omega, by go_num, HTN, HT2, HN⟩
        case measure => first | (simp [intOf]; done) | (simp [intOf]; omega)
  · have hI : (60 : Int) < (l.length : Int) := by omega
    have HD := Lib.hid (HD.out wb HK0.out)
    clear C h
    go_enter Try.func5, Try.ntmps5
    go_wp2_with fail
    refine HD.out.mono ?_
    rintro e w1 ⟨rfl, hb1⟩
    have HF := Lib.hid (HFIN.out _ hb1)
    clear hb1 HD
    go_wp2
    exact HF.out
end Go.Proofs.Ytbkhojopiimbdaa
