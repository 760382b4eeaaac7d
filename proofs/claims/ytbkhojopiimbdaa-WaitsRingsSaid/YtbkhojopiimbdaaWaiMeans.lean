/-
  WaitsMeans: a ring goes along edges, has none twice, begins with its own; where there is none no way leads back.
-/
import Derived.Test.YtbkhojopiimbdaaWaiLaw
import Derived.Test.YtbkhojopiimbdaaDraw
namespace Go.Proofs.Ytbkhojopiimbdaa
open Go.RowKit

set_option maxRecDepth 100000 in
set_option maxHeartbeats 2000000 in
theorem has_yes (l : List Edge) (A : Option Addr) (c a b : Nat) (w : World) (h : Lie w A (ev l)) (hn : l.length ≤ 100000) (hm : (a, b) ∈ l) :
    Calls Try.prog 10 #[.slice A l.length c, .int .u64 (a : Int), .int .u64 (b : Int)] w fun e w' => e = .returned (.bool true) ∧ Below w.heap.size w w' := by
  have HM := Lib.hid hm
  obtain ⟨g, off, rfl, hcell⟩ := h.edges (List.length_pos_of_mem hm)
  have HC := Lib.hid hcell
  clear h hm hcell
  go_enter Try.func10, Try.ntmps10
  go_wp2
  go_loopw [7] (fun i wr => ∃ k : Nat, k ≤ l.length ∧ i = .int .i64 k ∧ Hid ((a, b) ∈ l.drop k) ∧ Hid (Keep w wr)) (fun i _ => l.length - (intOf i).toNat)
  case atStart => exact ⟨0, by omega, rfl, HM, Lib.hid (Keep.refl w)⟩
  case round =>
    obtain ⟨k, hk, rfl, HD, HK⟩ := hrel
    by_cases hlt : k < l.length
    · have hI : (k : Int) < (l.length : Int) := by omega
      obtain ⟨c0, c1⟩ := HC.out wr HK.out k hlt
      have hd : (a, b) = l[k] ∨ (a, b) ∈ l.drop (k + 1) := by
        have := HD.out
        rw [List.drop_eq_getElem_cons hlt] at this
        exact List.mem_cons.1 this
      obtain ⟨x, hx⟩ : ∃ x, l[k].1 = x := ⟨_, rfl⟩
      obtain ⟨y, hy⟩ : ∃ y, l[k].2 = y := ⟨_, rfl⟩
      have HE := Lib.hid (show (a = x ∧ b = y) ∨ (a, b) ∈ l.drop (k + 1) from hd.imp (fun e => by rw [← hx, ← hy, ← e]; exact ⟨rfl, rfl⟩) id)
      rw [hx] at c0
      rw [hy] at c1
      clear hx hy hd
      by_cases ea : x = a
      · by_cases eb : y = b
        · subst ea eb
          have b0 : ((x : Int) == (x : Int)) = true := beq_self_eq_true _
          have b1 : ((y : Int) == (y : Int)) = true := beq_self_eq_true _
          go_wp2
          try go_ret
          exact ⟨rfl, HK.out⟩
        · subst ea
          have HE2 := Lib.hid (HE.out.resolve_left fun h => eb h.2.symm)
          have b0 : ((x : Int) == (x : Int)) = true := beq_self_eq_true _
          have b1 : ((y : Int) == (b : Int)) = false := beq_false_of_ne (by omega)
          have b2 : ¬ (y : Int) = (b : Int) := by omega
          clear HE
          go_wp2
          go_roundw
          case rel => exact ⟨k + 1, by omega, by go_num, HE2, HK⟩
          case measure => simp [intOf]; omega
      · have HE2 := Lib.hid (HE.out.resolve_left fun h => ea h.1.symm)
        have b0 : ((x : Int) == (a : Int)) = false := beq_false_of_ne (by omega)
        have b2 : ¬ (x : Int) = (a : Int) := by omega
        clear HE
        go_wp2
        go_roundw
        case rel => exact ⟨k + 1, by omega, by go_num, HE2, HK⟩
        case measure => simp [intOf]; omega
    · have := HD.out
      rw [List.drop_of_length_le (by omega)] at this
      cases this

theorem contains_more (l : List Nat) (k m : Nat) (h : k < l.length) : (l.take (k + 1)).contains m = ((l.take k).contains m || l[k] == m) := by
  rw [List.take_succ_eq_append_getElem h, Bool.eq_iff_iff, Bool.or_eq_true, List.contains_iff_mem, List.contains_iff_mem, List.mem_append, List.mem_singleton, beq_iff_eq, eq_comm (a := m)]
/-- Whoever is reached so far: none twice, each one behind an edge, none with a way back. -/
structure RReach (l : List Edge) (tx : Nat) (R : List Nat) : Prop where
  nodup : R.Nodup
  sub : ∀ x ∈ R, x ∈ tx :: l.map (·.2)
  no : ∀ x ∈ R, ∀ s, ¬ Way l tx x s
section
variable {l : List Edge} {tx : Nat} {R : List Nat}
theorem RReach.start (h : ∀ r, ¬ Way l tx tx r) : RReach l tx [tx] := ⟨by simp, fun x hx => by simp at hx; simp [hx], fun x hx s hs => by
  rw [List.mem_singleton.1 hx] at hs
  exact h s hs⟩
theorem RReach.len (h : RReach l tx R) : R.length ≤ l.length + 1 := by
  have := nodup_le h.nodup h.sub
  simpa using this
theorem RReach.ne (h : RReach l tx R) {x y : Nat} (hx : x ∈ R) (he : (x, y) ∈ l) : y ≠ tx := fun e => h.no x hx [] (by rw [e] at he; exact he)
theorem RReach.more (h : RReach l tx R) {x y : Nat} (hx : x ∈ R) (he : (x, y) ∈ l) (hy : y ∉ R) : RReach l tx (R ++ [y]) := by
  refine ⟨?_, fun z hz => ?_, fun z hz s hs => ?_⟩
  · rw [List.nodup_append]
    refine ⟨h.nodup, by simp, fun a ha b hb => ?_⟩
    rw [List.mem_singleton.1 hb]
    exact fun e => hy (e ▸ ha)
  · rcases List.mem_append.1 hz with hz | hz
    · exact h.sub z hz
    · rw [List.mem_singleton.1 hz]
      exact List.mem_cons_of_mem _ (List.mem_map.2 ⟨_, he, rfl⟩)
  · rcases List.mem_append.1 hz with hz | hz
    · exact h.no z hz s hs
    · rw [List.mem_singleton.1 hz] at hs
      exact h.no x hx (y :: s) ⟨he, hs⟩
end

set_option maxRecDepth 100000 in
set_option maxHeartbeats 4000000 in
theorem means_any (C : RingC) (l : List Edge) (A : Option Addr) (c tx : Nat) (w : World) (h : Lie w A (ev l)) (hc : l.length ≤ c) (hcm : c ≤ 9223372036854775807) (hA : A = none → c = 0) (ht : tx < 18446744073709551616)
    (he : ∀ e ∈ l, e.1 < 18446744073709551616 ∧ e.2 < 18446744073709551616) :
    Calls Try.prog 4 #[.slice A l.length c, .int .u64 (tx : Int)] w fun e w' => e = .returned (.bool true) ∧ Below w.heap.size w w' := by
  have HD := Lib.hid (fun wx (hk : Keep w wx) => (head_any C wx).mono fun e w' (h : e = .returned (.bool true) ∧ Below wx.heap.size wx w') => (⟨h.1, hk.then h.2⟩ : e = .returned (.bool true) ∧ Below w.heap.size w w'))
  obtain ⟨POST, hPO⟩ : ∃ POST : Ending → World → Prop, (fun e w' => e = .returned (.bool true) ∧ Below w.heap.size w w') = POST := ⟨_, rfl⟩
  have HFIN := Lib.hid (show ∀ w', Below w.heap.size w w' → POST (.returned (.bool true)) w' from fun w' hb => by rw [← hPO]; exact ⟨rfl, hb⟩)
  rw [hPO]
  clear hPO
  by_cases hn : l.length ≤ 60
  · have hI : ¬ (60 : Int) < (l.length : Int) := by omega
    have HC := Lib.hid (C l A c tx w h hc hcm hA (by omega) ht he)
    have HHAS := Lib.hid (fun wx a b (hk : Keep w wx) (hm : (a, b) ∈ l) => has_yes l A c a b wx (h.keep hk) (by omega) hm)
    have HL := Lib.hid h
    clear C h hcm hA ht he
    go_enter Try.func4, Try.ntmps4
    go_wp2_with fail
    refine HC.out.mono ?_
    rintro e w1 ⟨A1, n1, c1, r1, rfl, rfl, h1, _, hl1, hr1, hb1⟩
    have HL1 := Lib.hid hl1
    have HR1 := Lib.hid hr1
    have HB1 := Lib.hid (show Keep w w1 from hb1)
    have hlen : r1.length ≤ 60 := by
      have := nodup_le (a := r1) (b := l.map (·.1)) hr1.nodup fun x hx => by
        obtain ⟨i, hi, rfl⟩ := List.getElem_of_mem hx
        exact List.mem_map.2 ⟨_, hr1.edges i hi, rfl⟩
      rw [List.length_map] at this
      omega
    clear hl1 hr1 hb1 HC
    obtain ⟨q, hq⟩ : ∃ q, r1.length = q := ⟨_, rfl⟩
    rw [hq] at hlen h1 ⊢
    have HQ := Lib.hid hq
    clear hq
    go_wp2_with fail
    go_loopw [6] (fun i wr => ∃ k : Nat, k ≤ q ∧ i = .int .i64 k ∧ Hid (Keep w1 wr)) (fun i _ => q - (intOf i).toNat)
    case atStart => exact ⟨0, by omega, rfl, Lib.hid (Keep.refl w1)⟩
    case round =>
      obtain ⟨k, hk, rfl, HK⟩ := hrel
      by_cases hlt : k < q
      · have hJ : (k : Int) < (q : Int) := by omega
        have hJ2 : (q : Int) ≤ 60 := by omega
        obtain ⟨g1, o1, rfl, hcl⟩ := (HL1.out.keep HK.out).cells (by rw [nv_length, HQ.out]; omega)
        obtain ⟨m, hm⟩ : ∃ m, (k + 1) % q = m := ⟨_, rfl⟩
        have hm1 : m < q := by rw [← hm]; exact Nat.mod_lt _ (by omega)
        have hm2 : (m : Int) < (q : Int) := by omega
        have hmI : ((k : Int) + 1).tmod (q : Int) = (m : Int) := by
          rw [Int.tmod_eq_emod_of_nonneg (by omega), ← hm]; simp
        have c0 := hcl k _ (nv_get r1 k (by rw [HQ.out]; exact hlt))
        have c1' := hcl m _ (nv_get r1 m (by rw [HQ.out]; exact hm1))
        have hed : (r1[k]'(by rw [HQ.out]; exact hlt), r1[m]'(by rw [HQ.out]; exact hm1)) ∈ l := by
          have := HR1.out.edges k (by rw [HQ.out]; exact hlt)
          simp only [HQ.out, hm] at this
          exact this
        have hnd := List.pairwise_iff_getElem.1 HR1.out.nodup
        have HND := Lib.hid (show ∀ j (hj : j < k), r1[j]'(by rw [HQ.out]; omega) ≠ r1[k]'(by rw [HQ.out]; exact hlt) from fun j hj => hnd j k (by rw [HQ.out]; omega) (by rw [HQ.out]; exact hlt) hj)
        obtain ⟨x, hx⟩ : ∃ x, r1[k]'(by rw [HQ.out]; exact hlt) = x := ⟨_, rfl⟩
        obtain ⟨y, hy⟩ : ∃ y, r1[m]'(by rw [HQ.out]; exact hm1) = y := ⟨_, rfl⟩
        have HX := Lib.hid hx
        simp only [hx] at c0 hed HND
        simp only [hy] at c1' hed
        have HHS := Lib.hid (fun wx (hkx : Keep wr wx) => hkx.calls (HHAS.out wx x y (HB1.out.trans (HK.out.trans hkx)) hed))
        have hw1 : IntKind.i64.wrap ((k : Int) + 1) = (k : Int) + 1 := IntWalk.i64_in _ (by omega)
        have HCJ := Lib.hid (show ∀ wx, Keep wr wx → ∀ j (hj : j < q), wx.cell? ⟨g1, o1 + j, none⟩ = some (.int .u64 ((r1[j]'(by rw [HQ.out]; exact hj) : Nat) : Int)) from fun wx hkx j hj => by
          have h1 := hcl j _ (nv_get r1 j (by rw [HQ.out]; exact hj))
          exact (World.cell?_of_block (hkx.block _ (World.block_lt_of_cell? _ _ h1))).trans h1)
        clear hm hx hy hcl hnd hed
        obtain ⟨wo, rfl⟩ : ∃ wo, wo = wr := ⟨wr, rfl⟩
        have HC0 := Lib.hid (fun wx (hk : Keep wo wx) => (World.cell?_of_block (hk.block _ (World.block_lt_of_cell? _ _ c0))).trans c0)
        have HC1 := Lib.hid (fun wx (hk : Keep wo wx) => (World.cell?_of_block (hk.block _ (World.block_lt_of_cell? _ _ c1'))).trans c1')
        clear c0 c1'
        have q0 : ¬ q = 0 := by omega
        have hwm : IntKind.i64.wrap (m : Int) = (m : Int) := IntWalk.i64_in _ (by omega)
        obtain ⟨wd, hwd⟩ : ∃ wd, wo.drew = wd := ⟨_, rfl⟩
        have hHeld : Keep wo wd ∧ wd.cell? ⟨g1, o1 + k, none⟩ = some (.int .u64 (x : Int)) ∧ wd.cell? ⟨g1, o1 + m, none⟩ = some (.int .u64 (y : Int)) := by
          rw [← hwd]
          exact ⟨(Keep.refl wo).drew, HC0.out _ (Keep.refl wo).drew, HC1.out _ (Keep.refl wo).drew⟩
        go_wp2_with fail
        refine wp_region_noPanic ?_
        refine wp_region_sch (fun wx => Keep wo wx ∧ wx.cell? ⟨g1, o1 + k, none⟩ = some (.int .u64 (x : Int)) ∧ wx.cell? ⟨g1, o1 + m, none⟩ = some (.int .u64 (y : Int))) (fun i => [13].contains i)
          (.takes [0, 1, 2, 3, 4, 5, 6, 7, 8, 9, 10, 11, 12] (.run 13 (.takes [14] .done))) (by kernel_rfl) (fun _ _ _ _ _ h => h) (by kernel_rfl) ?_
        rw [hwd]
        clear hwd
        iterate 13 (
          refine sch_takes_cons ?_
          first
            | (refine sch_take (v := ?_) rfl (by assumption) (by rfl) ?_ ?_; rotate_left; (focus (intro wy hSy; (try dsimp only at hSy); go_simp; (try with_reducible rfl))))
            | (refine sch_pass rfl (by assumption) (by rfl) ?_)
          simp only [Act.put, List.setIfInBounds_toArray, List.set_cons_zero, List.set_cons_succ])
        refine sch_takes_nil ?_
        refine sch_run rfl (fun K hK => ?_)
        go_simp
        with_reducible refine (HHS.out _ hHeld.1).mono ?_
        rintro e wa ⟨rfl, hka⟩
        have hHeld : Keep wo wa ∧ wa.cell? ⟨g1, o1 + k, none⟩ = some (.int .u64 (x : Int)) ∧ wa.cell? ⟨g1, o1 + m, none⟩ = some (.int .u64 (y : Int)) := ⟨hka, HC0.out _ hka, HC1.out _ hka⟩
        clear hka
        refine hK.out _ _ (fun _ => hHeld) ?_
        clear hK K
        try simp only [Act.put, List.setIfInBounds_toArray, List.set_cons_zero, List.set_cons_succ]
        refine sch_takes_cons ?_
        first
          | (refine sch_take (v := ?_) rfl (by assumption) (by rfl) ?_ ?_; rotate_left; (focus (intro wy hSy; (try dsimp only at hSy); go_simp; (try with_reducible rfl))))
          | (refine sch_pass rfl (by assumption) (by rfl) ?_)
        simp only [Act.put, List.setIfInBounds_toArray, List.set_cons_zero, List.set_cons_succ]
        refine sch_takes_nil ?_
        refine sch_done ?_
        refine NoPanic.normal ?_
        have HKA := Lib.hid hHeld.1
        clear hHeld HHS HC0 q0 hwm hmI hm1 hm2 hw1
        go_wp2_with fail
        go_loopw [7] (fun i wr => ∃ j : Nat, j ≤ k ∧ i = .int .i64 j ∧ Hid (Keep wo wr)) (fun i _ => k - (intOf i).toNat)
        case atStart => exact ⟨0, by omega, rfl, HKA⟩
        case round =>
          clear HKA
          obtain ⟨j, hj, rfl, HKJ⟩ := hrel
          by_cases hjk : j < k
          · have hJ3 : (j : Int) < (k : Int) := by omega
            have hJ4 : (j : Int) < (q : Int) := by omega
            have c0 := HCJ.out wr HKJ.out j (by omega)
            have c1' := HCJ.out wr HKJ.out k (by omega)
            have hne := HND.out j hjk
            have hx := HX.out
            simp only [hx] at c1'
            obtain ⟨z, hz⟩ : ∃ z, r1[j]'(by rw [HQ.out]; omega) = z := ⟨_, rfl⟩
            simp only [hz] at c0 hne
            clear hz hx
            have b1 : ¬ (z : Int) = (x : Int) := by omega
            have b2 : ((z : Int) == (x : Int)) = false := beq_false_of_ne b1
            clear hne
            go_wp2_with (go_quiet (fail))
            go_wp2_with fail
            exact ⟨⟨j + 1, by omega, by go_num, Lib.hid (HKJ.out.drewN _)⟩, by simp [intOf]; omega⟩
          · have hJ3 : ¬ (j : Int) < (k : Int) := by omega
            go_wp2_with fail
            go_roundw
            case rel => exact ⟨k + 1, by omega, by go_num, Lib.hid (HK.out.trans HKJ.out)⟩
            case measure => simp [intOf]; omega
      · have hJ : ¬ (k : Int) < (q : Int) := by omega
        obtain rfl : k = q := by omega
        by_cases h0 : k = 0
        · subst h0
          have HNO := Lib.hid (show ∀ r, ¬ Way l tx tx r by
            rcases HR1.out with ⟨_, hno⟩ | ⟨s, hs, _⟩
            · exact hno
            · have := HQ.out
              rw [hs] at this
              simp at this)
          clear HR1 HQ HL1
          obtain ⟨wb, rfl⟩ : ∃ wb, wb = wr := ⟨wr, rfl⟩
          have HWB := Lib.hid (show Keep w wb from HB1.out.trans HK.out)
          have HR0 := Lib.hid (show (wb.alloc (.cells #[.int .u64 (tx : Int)] 23)).ownsRow wb.heap.size 23 1 (.slice (some ⟨wb.heap.size, 0, none⟩) 1 1) 1 (nv [tx]) ∧ Keep wb (wb.alloc (.cells #[.int .u64 (tx : Int)] 23)) from
            ⟨World.ownsRow_lit wb #[.int .u64 (tx : Int)] 1 (Nat.le_refl _) (by decide) rfl, (Keep.refl wb).alloc _⟩)
          clear HB1 HK HHAS
          obtain ⟨iN, hiN, hzN, hsN, hbN⟩ := info_parts Try.infoU64
          go_wp2_with fail
          obtain ⟨W2, hW2⟩ : ∃ W2, wb.alloc (.cells #[.int .u64 (tx : Int)] 23) = W2 := ⟨_, rfl⟩
          rw [hW2] at HR0 ⊢
          clear hW2
          generalize hbh : wb.heap.size = bH at *
          go_loopw [8, 9] (fun v i wr => ∃ (R : List Nat) (k : Nat), k ≤ R.length ∧ i = .int .i64 k ∧ Hid (RReach l tx R) ∧ Hid (wr.ownsRow wb.heap.size 23 1 v R.length (nv R) ∧ Keep wb wr)) (fun _ i _ => l.length + 2 - (intOf i).toNat)
          case atStart => exact ⟨[tx], 0, by simp, rfl, Lib.hid (RReach.start HNO.out), Lib.hid ⟨by rw [hbh]; exact HR0.out.1, HR0.out.2⟩⟩
          case round =>
            clear HR0
            obtain ⟨R, k, hk, rfl, HRR, HRO⟩ := hrel
            obtain ⟨Ar, cr, rfl, hcr, hcr0, hlr⟩ := ownsRow_lit HRO.out.1
            have hRl := HRR.out.len
            by_cases hlt : k < R.length
            · have hJ1 : (k : Int) < (R.length : Int) := by omega
              obtain ⟨x, hx⟩ : ∃ x, R[k] = x := ⟨_, rfl⟩
              have HX0 := Lib.hid (show R[k]? = some x by rw [List.getElem?_eq_getElem hlt, hx])
              clear hx hlr
              go_wp2_with fail
              go_loopw [8, 10] (fun v i wr => ∃ (R : List Nat) (j : Nat), j ≤ l.length ∧ i = .int .i64 j ∧ Hid (RReach l tx R) ∧ Hid (R[k]? = some x) ∧ Hid (wr.ownsRow wb.heap.size 23 1 v R.length (nv R) ∧ Keep wb wr)) (fun _ i _ => l.length - (intOf i).toNat)
              case atStart => exact ⟨R, 0, by omega, rfl, HRR, HX0, HRO⟩
              case round =>
                clear HX0 HRR HRO
                obtain ⟨R2, j, hj, rfl, HRR, HX, HRO⟩ := hrel
                obtain ⟨A2, c2, rfl, hc2, hc20, hl2⟩ := ownsRow_lit HRO.out.1
                have hR2 := HRR.out.len
                have hk2 : k < R2.length := (List.getElem?_eq_some_iff.1 HX.out).1
                by_cases hjl : j < l.length
                · have hJ2 : (j : Int) < (l.length : Int) := by omega
                  obtain ⟨g, off, rfl, hce⟩ := HL.out.edges (by omega)
                  obtain ⟨g2, o2, rfl, hcl⟩ := hl2.cells (by rw [nv_length]; omega)
                  have HCE := Lib.hid (fun wx (hk : Keep wb wx) => hce wx (HWB.out.trans hk) j hjl)
                  have HCR := Lib.hid (show ∀ wx, Keep wr wx → ∀ i (hi : i < R2.length), wx.cell? ⟨g2, o2 + i, none⟩ = some (.int .u64 ((R2[i] : Nat) : Int)) from fun wx hkx i hi => by
                    have h1 := hcl i _ (nv_get R2 i hi)
                    exact (World.cell?_of_block (hkx.block _ (World.block_lt_of_cell? _ _ h1))).trans h1)
                  have hxx : R2[k] = x := by
                    have := HX.out
                    rw [List.getElem?_eq_getElem hk2] at this
                    exact Option.some.inj this
                  obtain ⟨e2, he2⟩ : ∃ e2, l[j].2 = e2 := ⟨_, rfl⟩
                  obtain ⟨e1, he1⟩ : ∃ e1, l[j].1 = e1 := ⟨_, rfl⟩
                  have HED := Lib.hid (show (e1, e2) ∈ l by rw [← he1, ← he2]; exact List.getElem_mem hjl)
                  simp only [he1, he2] at HCE
                  have cr := HCR.out wr (Keep.refl wr) k hk2
                  rw [hxx] at cr
                  have HXM := Lib.hid (show x ∈ R2 from hxx ▸ List.getElem_mem hk2)
                  obtain ⟨c0, c1'⟩ := HCE.out wr HRO.out.2
                  clear he1 he2 hxx hce hcl hl2
                  have hJ5 : (k : Int) < (R2.length : Int) := by omega
                  by_cases hx : e1 = x
                  · subst hx
                    have b1 : ((e1 : Int) == (e1 : Int)) = true := beq_self_eq_true _
                    have hne := HRR.out.ne HXM.out HED.out
                    have b2 : ((e2 : Int) == (tx : Int)) = false := beq_false_of_ne (by omega)
                    have b3 : ¬ (e2 : Int) = (tx : Int) := by omega
                    clear hne
                    obtain ⟨wo, rfl⟩ : ∃ wo, wo = wr := ⟨wr, rfl⟩
                    have hR63 : (R2.length : Int) ≤ 61 := by omega
                    go_wp2_with (go_quiet (fail))
                    go_wp2_with fail
                    go_loopw [11, 12] (fun t i wr => ∃ (m : Nat) (b : Bool), m ≤ R2.length ∧ i = .int .i64 m ∧ t = .bool b ∧ Hid (b = (R2.take m).contains e2) ∧ Hid (Keep wo wr)) (fun _ i _ => R2.length - (intOf i).toNat)
                    case atStart => exact ⟨0, false, by omega, rfl, rfl, Lib.hid (by simp), Lib.hid ((Keep.refl wo).drewN _)⟩
                    case round =>
                      obtain ⟨m, b, hm, rfl, rfl, HB, HK5⟩ := hrel
                      clear c0 c1' cr
                      by_cases hmr : m < R2.length
                      · have hJ6 : (m : Int) < (R2.length : Int) := by omega
                        have HBN := Lib.hid (show (R2.take (m + 1)).contains e2 = (b || R2[m] == e2) by rw [HB.out]; exact contains_more R2 m e2 hmr)
                        have cr := HCR.out wr HK5.out m hmr
                        obtain ⟨c0, c1'⟩ := HCE.out wr (HRO.out.2.trans HK5.out)
                        obtain ⟨z, hz⟩ : ∃ z, R2[m] = z := ⟨_, rfl⟩
                        rw [hz] at cr HBN
                        clear hz HB
                        cases b
                        · by_cases hze : z = e2
                          · subst hze
                            have b4 : ((z : Int) == (z : Int)) = true := beq_self_eq_true _
                            have HBN2 := Lib.hid (show true = (R2.take (m + 1)).contains z by rw [HBN.out]; simp)
                            clear HBN
                            go_wp2_with (go_quiet (fail))
                            go_wp2_with fail
                            exact ⟨⟨m + 1, true, by omega, by go_num, rfl, HBN2, Lib.hid (HK5.out.drewN _)⟩, by simp [intOf]; omega⟩
                          · have b4 : ((z : Int) == (e2 : Int)) = false := beq_false_of_ne (by omega)
                            have b5 : ¬ (z : Int) = (e2 : Int) := by omega
                            have HBN2 := Lib.hid (show false = (R2.take (m + 1)).contains e2 by rw [HBN.out, beq_false_of_ne hze]; rfl)
                            clear HBN
                            go_wp2_with (go_quiet (fail))
                            go_wp2_with fail
                            exact ⟨⟨m + 1, false, by omega, by go_num, rfl, HBN2, Lib.hid (HK5.out.drewN _)⟩, by simp [intOf]; omega⟩
                        · have HBN2 := Lib.hid (show true = (R2.take (m + 1)).contains e2 by rw [HBN.out]; rfl)
                          clear HBN
                          go_wp2_with (go_quiet (fail))
                          go_wp2_with fail
                          exact ⟨⟨m + 1, true, by omega, by go_num, rfl, HBN2, Lib.hid (HK5.out.drewN _)⟩, by simp [intOf]; omega⟩
                      · have hJ6 : ¬ (m : Int) < (R2.length : Int) := by omega
                        obtain rfl : m = R2.length := by omega
                        obtain ⟨c0, c1'⟩ := HCE.out wr (HRO.out.2.trans HK5.out)
                        have HB2 := Lib.hid (show b = R2.contains e2 by have := HB.out; rwa [List.take_length] at this)
                        have HRK := Lib.hid (show wr.ownsRow wb.heap.size 23 1 (.slice (some ⟨g2, o2, none⟩) R2.length c2) R2.length (nv R2) ∧ Keep wb wr from ⟨HRO.out.1.keeps HK5.out, HRO.out.2.trans HK5.out⟩)
                        clear HB HCE HCR
                        cases b
                        · have HN := Lib.hid (HRR.out.more HXM.out HED.out fun hm => by
                            have := HB2.out
                            rw [List.contains_iff_mem.2 hm] at this
                            cases this)
                          have HX2 := Lib.hid (show (R2 ++ [e2])[k]? = some e1 by rw [List.getElem?_append_left hk2]; exact HX.out)
                          clear HRR HX
                          go_wp2_with (at_builtin; refine wpList_append_lies _ rfl (.tmp 118) (.tmp 124) 26 (by rfl) wb.heap.size 23 iN _ 1 8 Try.underlying26 hiN hzN hsN hbN rfl (by decide) _ R2.length (nv R2) (by rfl) (World.ownsRow.alloc HRK.out.1 _) ⟨wr.heap.size, 0, none⟩ 1 1 [.int .u64 (e2 : Int)] (by rfl) rfl (new_one wr _ _) (nv_one [e2]) (by decide) (by unfold maxLen; omega) (by omega) (by have := HRK.out.2.size; simp; omega) _ rfl ?_)
                          intro g4 c4 w4 h5 h6 h7 h8
                          have HNX := Lib.hid (show w4.ownsRow wb.heap.size 23 1 (.slice (some ⟨g4, 0, none⟩) (R2.length + 1) c4) (R2 ++ [e2]).length (nv (R2 ++ [e2])) ∧ Keep wb w4 from
                            ⟨by rw [List.length_append, nv_append, hbh]; exact h5, Below.grown (HRK.out.2.alloc _) h6 (Nat.le_trans HRK.out.2.size (by simp)) (fun g hg2 => (HRK.out.1.lt g hg2).1)⟩)
                          clear h5 h6 h7 h8 HRK
                          go_wp2_with fail
                          go_roundw
                          case rel => exact ⟨R2 ++ [e2], j + 1, by omega, by go_num, HN, HX2, HNX⟩
                          case measure => simp [intOf]; omega
                        · go_wp2_with fail
                          go_roundw
                          case rel => exact ⟨R2, j + 1, by omega, by go_num, HRR, HX, HRK⟩
                          case measure => simp [intOf]; omega
                  · have b1 : ((e1 : Int) == (x : Int)) = false := beq_false_of_ne (by omega)
                    have b2 : ¬ (e1 : Int) = (x : Int) := by omega
                    go_wp2_with (go_quiet (fail))
                    go_wp2_with fail
                    exact ⟨⟨R2, j + 1, by omega, by go_num, HRR, HX, Lib.hid ⟨HRO.out.1.keeps ((Keep.refl wr).drewN _), HRO.out.2.drewN _⟩⟩, by simp [intOf]; omega⟩
                · have hJ2 : ¬ (j : Int) < (l.length : Int) := by omega
                  go_wp2_with fail
                  go_roundw
                  case rel => exact ⟨R2, k + 1, by omega, by go_num, HRR, HRO⟩
                  case measure => simp [intOf]; omega
            · have hJ1 : ¬ (k : Int) < (R.length : Int) := by omega
              have HD := Lib.hid (HD.out wr (HWB.out.trans HRO.out.2))
              clear HRR HRO hlr
              go_wp2_with fail
              refine HD.out.mono ?_
              rintro e w9 ⟨rfl, hb9⟩
              have HF := Lib.hid (HFIN.out _ (by first | exact hb9 | (rw [← hbh] at hb9; exact hb9)))
              clear hb9 HD
              go_wp2_with fail
              exact HF.out
        · obtain ⟨g1, o1, rfl, hcl⟩ := (HL1.out.keep HK.out).cells (by rw [nv_length, HQ.out]; omega)
          have hJ2 : (0 : Int) < (k : Int) := by omega
          have c0 : wr.cell? ⟨g1, o1, none⟩ = some (.int .u64 (tx : Int)) := by
            have h1 := hcl 0 _ (nv_get r1 0 (by rw [HQ.out]; omega))
            rw [HR1.out.head (by rw [HQ.out]; omega)] at h1
            exact h1
          have HD := Lib.hid (HD.out wr (HB1.out.trans HK.out))
          have b1 : ((tx : Int) == (tx : Int)) = true := beq_self_eq_true _
          clear hcl HR1 HL1 HQ
          go_wp2_with fail
          refine HD.out.mono ?_
          rintro e w9 ⟨rfl, hb9⟩
          have HF := Lib.hid (HFIN.out _ hb9)
          clear hb9 HD
          go_wp2_with fail
          exact HF.out
  · have hI : (60 : Int) < (l.length : Int) := by omega
    have HD := Lib.hid (HD.out w (Keep.refl w))
    clear C h
    go_enter Try.func4, Try.ntmps4
    go_wp2_with fail
    refine HD.out.mono ?_
    rintro e w1 ⟨rfl, hb1⟩
    have HF := Lib.hid (HFIN.out _ hb1)
    clear hb1 HD
    go_wp2
    exact HF.out
end Go.Proofs.Ytbkhojopiimbdaa
