/-
  The walks over package block: strings.Clone, Write, Sync.
-/
import Derived.Test.YtnmfgmlmjbfdcaaBlkC
import Derived.Lib.UnsafeStr
import Derived.Shelf.Abstract
import Derived.Maps.AppendAt
namespace Go.Proofs.Ytnmfgmlmjbfdcaa
open Go.RowKit

/-- A call of a Go function as a step of a region that draws its order. -/
theorem step_calls {P : Program} {ops : Array Oper} {o : Oper} {a : Act} {w : World} {K : Act → World → Prop} {Q : Exit → Act → World → Prop} {E : Prop} (hgd : o.guard = none) (f : FuncId) (args : Array Operand) (ts : Array TypeId)
    (ho : o.op = .call { callee := .value (.func f), args := args, argTypes := ts }) (vals : Array Value) (hv : args.map a.eval = vals) (he : Enters P f) {R : Ending → World → Prop} (hc : Calls P f vals w R)
    (h : ∀ e w', R e w' → ∃ v, e = .returned v ∧ K (a.put o.dst v) w') : if Region.wanted o (yielded ops a.tmps) = true then Oper.wp P o a w K Q else E := by
  have hw : Region.wanted o (yielded ops a.tmps) = true := by simp [Region.wanted, hgd]
  rw [if_pos hw]
  have hex : (execOp a.eval o).run P w = .ok (.enter f vals) w := by
    have e1 := he vals w
    have ef : a.eval (.func f) = .func (.func f) #[] #[] := rfl
    simp [execOp, ho, resolve, invoke, ef, hv, Deferred.ofValue, e1]
  unfold Oper.wp
  rw [hex, Oper.upon_enter]
  refine hc.mono fun e w' hr => ?_
  obtain ⟨v, rfl, hk⟩ := h e w' hr
  exact hk

set_option maxRecDepth 100000 in
theorem Try.u8cells : Try.prog.cellsOf 5 = 1 := by kernel_rfl

set_option maxRecDepth 100000 in
set_option maxHeartbeats 1000000 in
/-- The same text again. -/
theorem sclone_any (s : ByteArray) (w : World) (hs : s.size ≤ 281474976710656) : Calls Try.prog 73 #[.string s] w fun e w' => e = .returned (.string s) ∧ Below w.heap.size w w' := by
  rcases Nat.eq_zero_or_pos s.size with h0 | h0
  · have e : s = ⟨#[]⟩ := ByteArray.ext (Array.eq_empty_of_size_eq_zero h0)
    subst e
    go_enter Try.func73, Try.ntmps73
    go_wp2
    go_ret
    exact ⟨rfl, Below.refl _ _⟩
  · have hmk := makeZeros s.size hs (s.size : Int) rfl w
    have hr1 := Row.new w 5 (byt (List.replicate s.size 0)) (0, 0)
    have hb1 : Below w.heap.size w (w.alloc (.cells (byt (List.replicate s.size 0)).toArray 5)) := (Below.refl _ w).alloc (Nat.le_refl _) _
    obtain ⟨w1, hw1⟩ : ∃ w1, w.alloc (.cells (byt (List.replicate s.size 0)).toArray 5) = w1 := ⟨_, rfl⟩
    rw [hw1] at hmk hr1 hb1
    have hcp : ∀ ty, (Builtin.copy_ #[69, 9] ty #[.slice (some ⟨w.heap.size, 0, none⟩) s.size s.size, .string s]).run Try.prog w1 = _ := fun ty =>
      run_copy_str w1 69 9 ty 5 w.heap.size 0 s.size s.size s _ 5 Try.underlying69 Try.u8size hr1 (by simp [byt_length])
    have hsp : splice (byt (List.replicate s.size 0)) 0 (byt ((txt s).take s.size)) = byt (txt s) := by
      rw [List.take_of_length_le (by rw [txt_length]; exact Nat.le_refl _)]
      unfold splice
      rw [List.drop_of_length_le (by simp [byt_length])]
      simp
    rw [hsp, Nat.min_self] at hcp
    have hr2 := hr1.setRow_ (cs := byt (txt s))
    have hb2 : Below w.heap.size w (w1.setRow w.heap.size (byt (txt s)).toArray) := below_setRow hb1 (Nat.le_refl _) _
    obtain ⟨w2, hw2⟩ : ∃ w2, w1.setRow w.heap.size (byt (txt s)).toArray = w2 := ⟨_, rfl⟩
    rw [hw2] at hr2 hb2
    simp only [hw2] at hcp
    have hus : ∀ ty, (Builtin.unsafeString_ #[129, 3] ty #[.pointer (some ⟨w.heap.size, 0, none⟩), .int .i64 (s.size : Int)]).run Try.prog w2 = _ := fun ty =>
      Lib.run_unsafeString_row (P := Try.prog) w2 129 3 ty 5 Try.underlying129 Try.u8cells w.heap.size s.size (by unfold World.shape?; rw [show w2.heap[w.heap.size]? = _ from hr2]; simp [byt_length]) (txt s)
        (fun e => by have : (txt s).length = 0 := by { rw [e]; rfl }
                     rw [txt_length] at this; omega) (by rw [txt_length]; exact Nat.le_refl _) (by rw [txt_length]; omega)
        (fun j x hx => by
          rw [Addr.add_lit, hr2.cell, Nat.zero_add]
          unfold byt
          rw [List.getElem?_map, hx]; rfl)
    have hb3 := Lib.below_freeze hb2 (p := ⟨w.heap.size, 0, none⟩) (Nat.le_refl _) (txt s).length
    have es : (⟨(txt s).toArray⟩ : ByteArray) = s := by cases s; simp [txt]
    rw [es] at hus
    obtain ⟨w3, hw3⟩ : ∃ w3, w2.freeze ⟨w.heap.size, 0, none⟩ (txt s).length = w3 := ⟨_, rfl⟩
    rw [hw3] at hb3
    simp only [hw3] at hus
    have HB := Lib.hid hb3
    have hn : (s.size : Int) ≤ 281474976710656 := by omega
    clear hb1 hb2 hb3 hr1 hr2 hw1 hw2 hw3 hsp es hs
    go_enter Try.func73, Try.ntmps73
    go_wp2_with fail
    go_ret
    exact ⟨rfl, HB.out⟩

set_option maxRecDepth 100000 in
theorem clone_str (s : ByteArray) (w : World) (hs : s.size ≤ 281474976710656) : Calls Try.prog 58 #[.string s] w fun e w' => e = .returned (.string s) ∧ Below w.heap.size w w' := by
  have HS := Lib.hid (sclone_any s w hs)
  clear hs
  go_enter Try.func58, Try.ntmps58
  go_wp2_with fail
  refine HS.out.mono ?_
  rintro e w1 ⟨rfl, hb⟩
  have HB := Lib.hid hb
  clear hb
  go_wp2
  go_ret
  exact ⟨rfl, HB.out⟩

/-- A device behind a sync: all is sure. -/
def DV.synced (d : DV) : DV := { d with p := .slice none 0 0, pend := [], dur := d.vis }
theorem settle_all {d : DV} {w : World} (h : d.In w) : settle d.sz d.vis d.pend d.dur = d.vis := by
  have hp : ∀ q ∈ d.pend, q.1 < d.nb := fun q hq => (h.fits q hq).1
  refine eq_of_segs d.nb d.sz (settle_length d.sz d.nb d.vis h.lv _ d.dur h.ld hp) h.lv fun b hb => ?_
  rw [settle_seg d.sz d.nb d.vis h.lv d.pend d.dur h.ld hp b hb]
  split
  · rfl
  · rename_i hn
    exact (h.same b hb hn).symm
theorem In_cleaned {d : DV} {w w' : World} {v u : List UInt8} (h : d.In w) (hA : Row w' d.A 94 d.clean.cells (0, 0)) (hV : Row w' d.V 5 (byt v ++ d.X) (0, 0)) (hU : Row w' d.U 5 (byt u ++ d.Y) (0, 0)) (e : v = u) (hl : v.length = d.all) :
    ({ d with p := .slice none 0 0, pend := [], vis := v, dur := u } : DV).In w' := by
  subst e
  exact { dev := hA, own := World.ownsRow_nil _ _ _ _, cv := h.cv, cu := h.cu, cvm := h.cvm, cum := h.cum, nb1 := h.nb1, nb2 := h.nb2, ns1 := h.ns1, ns2 := h.ns2, fits := fun q hq => by simp at hq
          vis := hV, dur := hU, ne := h.ne, lv := hl, ld := hl, same := fun _ _ _ => rfl }

set_option maxRecDepth 100000 in
theorem sync_any (d : DV) (w : World) (h : d.In w) : Calls Try.prog 47 #[d.ptr] w fun e w' => e = .returned (.int .i64 0) ∧ d.synced.In w' ∧ Only d.mine w w' := by
  have HN := Lib.hid (isNone_any d w h.toTop)
  have HSE := Lib.hid (settle_any d d.U d.cu d.V d.cv d.dur d.vis d.Y d.X w.drew h.drew.toTop h.drew.dur h.drew.vis (Ne.symm h.ne) h.ld h.lv h.cu h.cv)
  have HF := Lib.hid (fun (w' : World) (hU : Row w' d.U 5 (byt (settle d.sz d.vis d.pend d.dur) ++ d.Y) (0, 0)) (hA : Row w' d.A 94 d.clean.cells (0, 0)) (ho : Only (fun k => k = d.U ∨ k = d.A) w.drew w') =>
    show d.synced.In w' ∧ Only d.mine w w' from by
      have ho' : Only (fun k => k = d.U ∨ k = d.A) w w' := ⟨ho.os, ho.tape, ho.output, ho.size, ho.block⟩
      rw [settle_all h] at hU
      refine ⟨In_cleaned h hA (h.vis.only ho' ?_) hU rfl h.lv, ho'.imp ?_⟩
      · rintro (e | e)
        · exact h.ne e
        · exact h.AB h.vis e.symm
      · rintro k _ (e | e)
        · exact .inr (.inr (.inl e))
        · exact .inl e)
  have c2 := h.drew.c2
  have c3 := h.drew.c3
  clear h
  unfold DV.ptr at HN HSE ⊢
  go_enter Try.func47, Try.ntmps47
  go_wp2_with fail
  refine HN.out.mono ?_
  rintro e w1 ⟨rfl, rfl⟩
  go_wp2_with fail
  go_still_tail 9, (by kernel_rfl)
  change wpList _ _ _ _ _ w.drew
  go_wp2_with fail
  refine HSE.out.mono ?_
  rintro e w1 ⟨rfl, hU, hA, ho⟩
  have HE := Lib.hid (HF.out w1 hU hA ho)
  clear hU hA ho
  go_wp2
  go_ret
  exact ⟨rfl, HE.out⟩

set_option maxRecDepth 100000 in
theorem enters_clone : Enters Try.prog 58 := enters_of Try.func58 (by kernel_rfl) rfl
set_option maxRecDepth 100000 in
theorem Try.infoWr : (Try.prog.info? 107).map (fun i => (i.zero, i.size, i.bytes)) = some (some (.agg #[.int .i64 0, .string ⟨#[]⟩]), 2, 24) := by kernel_rfl

/-- A write goes behind the pending ones. -/
theorem step_pend {ops : Array Oper} {o : Oper} {a : Act} {w : World} {K : Act → World → Prop} {Q : Exit → Act → World → Prop} {E : Prop} (hgd : o.guard = none) (s x : Operand)
    (ho : o.op = .call { callee := .builtin .append, args := #[s, x], argTypes := #[92, 92] }) (v : Value) (l : List (Nat × ByteArray)) (hs : a.eval s = v) (hown : w.ownsRow 0 107 2 v l.length (pvs l))
    (ad : Addr) (c : Nat) (q : Nat × ByteArray) (hx : a.eval x = .slice (some ad) 1 c) (hnews : ∀ j u, (pvs [q])[j]? = some u → w.cell? (ad.add j) = some u) (hle : l.length ≤ 1000000)
    (h : ∀ ad' c' w', w'.ownsRow 0 107 2 (.slice ad' (l ++ [q]).length c') (l ++ [q]).length (pvs (l ++ [q])) → w.grownBy w' v.ownBlock → (∀ k, (Value.slice ad' (l ++ [q]).length c').ownBlock = some k → v.ownBlock = some k ∨ w.heap.size ≤ k) → K (a.put o.dst (.slice ad' (l.length + 1) c')) w') :
    if Region.wanted o (yielded ops a.tmps) = true then Oper.wp Try.prog o a w K Q else E := by
  have hw : Region.wanted o (yielded ops a.tmps) = true := by simp [Region.wanted, hgd]
  rw [if_pos hw]
  obtain ⟨i0, hi0, hz0, hz1, hz2⟩ := info_parts Try.infoWr
  obtain ⟨v', w', hr, h2, h3, h4, h5⟩ := run_append_own_at (P := Try.prog) w 0 92 o.type 107 i0 _ 2 24 Try.underlying92 hi0 hz0 hz1 hz2 rfl (by decide) v l.length (pvs l) hown ad 1 c (pvs [q]) rfl hnews (pvs_one _) (by unfold maxLen; omega) (by omega) (Nat.zero_le _)
  have hv : v' ≠ .slice none 0 0 := fun e => by
    have := (h4.1 e).2
    cases this
  obtain ⟨g, cap, rfl⟩ : ∃ g cap, v' = .slice (some ⟨g, 0, none⟩) (l.length + 1) cap := by
    rcases h2.2 with ⟨h0, _⟩ | ⟨g, cap, cur, hv', _⟩
    · exact absurd h0 hv
    · exact ⟨g, cap, hv'⟩
  unfold Oper.wp execOp
  simp only [ho, resolve, invoke, builtin, Sem.run_bind, Sem.run_pure, Result.andThen_ok, List.map_toArray, List.map_cons, List.map_nil, hs, hx, hr]
  refine h (some ⟨g, 0, none⟩) cap w' ?_ h3 fun k hk => ?_
  · rw [pvs_append, List.length_append]
    exact h2
  · have hk2 : (Value.slice (some ⟨g, 0, none⟩) (l.length + 1) cap).ownBlock = some k := hk
    rcases h5 with h5 | h5
    · exact .inl (h5.symm.trans hk2)
    · rw [h5] at hk2
      injection hk2 with hk2
      exact .inr (by omega)

/-- Behind a write. -/
def DV.wrote (d : DV) (b : Nat) (s : ByteArray) (p : Value) : DV := { d with vis := splice d.vis (b * d.sz) (pad d.sz (txt s)), pend := d.pend ++ [(b, s)], p := p }
def WroteP (d : DV) (b : Nat) (s : ByteArray) (w : World) (e : Ending) (w' : World) : Prop :=
  ∃ p, e = .returned (.int .i64 0) ∧ (d.wrote b s p).In w' ∧ Only d.mine w w' ∧ ∀ k, p.ownBlock = some k → d.p.ownBlock = some k ∨ w.heap.size ≤ k

theorem wrote_in {d : DV} {b : Nat} {s : ByteArray} {w w1 wb w3 : World} {ad : Option Addr} {c : Nat} (h : d.In w) (hb : b < d.nb) (hs : s.size ≤ d.sz)
    (hr1 : Row w1 d.V 5 (splice (byt d.vis ++ d.X) (b * d.sz) (byt (pad d.sz (txt s)))) (0, 0)) (ho1 : Only (· = d.V) w w1) (hk : Below w1.heap.size w1 wb)
    (hown : w3.ownsRow 0 107 2 (.slice ad (d.pend ++ [(b, s)]).length c) (d.pend ++ [(b, s)]).length (pvs (d.pend ++ [(b, s)]))) (hg : wb.grownBy w3 d.p.ownBlock)
    (hblk : ∀ k, (Value.slice ad (d.pend ++ [(b, s)]).length c).ownBlock = some k → d.p.ownBlock = some k ∨ wb.heap.size ≤ k) :
    (∃ u, w3.cell? ⟨d.A, 4, none⟩ = some u) ∧ w3.frozen? ⟨d.A, 4, none⟩ = false ∧ WroteP d b s w (.returned (.int .i64 0)) (w3.setCell ⟨d.A, 4, none⟩ (.slice ad (d.pend ++ [(b, s)]).length c)) := by
  have hbl := block_in d.sz hb
  have hlen : (pad d.sz (txt s)).length = d.sz := pad_length _ _
  have hfit : b * d.sz + (pad d.sz (txt s)).length ≤ d.vis.length := by rw [hlen, h.lv]; exact hbl
  rw [byt_splice _ _ _ _ hfit] at hr1
  have hob : Only (· = d.V) w wb := ho1.trans (Only.below hk _)
  have ho3 : Only (fun k => k = d.V ∨ d.p.ownBlock = some k) w w3 :=
    (hob.imp fun _ _ e => .inl e).grown hg fun k e => .inr e
  have hAV : d.A ≠ d.V := h.AB h.vis
  have hA3 : Row w3 d.A 94 d.cells (0, 0) := h.dev.only ho3 (by rintro (e | e); exact hAV e; exact h.pA e)
  have hV3 : Row w3 d.V 5 (byt (splice d.vis (b * d.sz) (pad d.sz (txt s))) ++ d.X) (0, 0) :=
    (Row.below hr1 hk hr1.lt).only (F := fun k => d.p.ownBlock = some k) ⟨hg.os, hg.tape, hg.output, hg.size, fun k hk2 hn => hg.block k hk2 (fun e => hn e.symm)⟩ (h.toTop.pNe h.vis (by decide))
  have hU3 : Row w3 d.U 5 (byt d.dur ++ d.Y) (0, 0) := h.dur.only ho3 (by rintro (e | e); exact h.ne e.symm; exact h.toTop.pNe h.dur (by decide) e)
  have hpA : ∀ k, (Value.slice ad (d.pend ++ [(b, s)]).length c).ownBlock = some k → ¬ k = d.A := fun k hk2 e => by
    rcases hown.2 with ⟨e2, _⟩ | ⟨g, cap, cur, e2, _, hg2, _⟩
    · rw [e2] at hk2; cases hk2
    · rw [e2] at hk2
      injection hk2 with hk2
      subst hk2
      subst e
      have := hA3
      unfold Row at this
      rw [hg2] at this
      simp at this
  refine ⟨⟨d.p, hA3.cell 4⟩, hA3.loose 4, .slice ad (d.pend ++ [(b, s)]).length c, rfl, ?_, ?_, ?_⟩
  · exact
      { dev := hA3.put 4 _
        own := ownsRow_only hown ((Only.refl (· = d.A) w3).setCell rfl _) hpA
        cv := h.cv, cu := h.cu, cvm := h.cvm, cum := h.cum, nb1 := h.nb1, nb2 := h.nb2, ns1 := h.ns1, ns2 := h.ns2
        fits := fun q hq => by
          rcases List.mem_append.1 hq with hq | hq
          · exact h.fits q hq
          · rw [List.mem_singleton] at hq
            subst hq
            exact ⟨hb, hs⟩
        vis := Row.far hV3 (fun e => hAV e.symm) _
        dur := Row.far hU3 (fun e => h.AB h.dur e.symm) _
        ne := h.ne
        lv := by show (splice _ _ _).length = _; rw [splice_length _ _ _ hfit]; exact h.lv
        ld := h.ld
        same := fun k hk2 hn => by
          have hne : k ≠ b := fun e => hn (by show k ∈ (d.pend ++ [(b, s)]).map (·.1); simp [e])
          have hn2 : k ∉ d.pend.map (·.1) := fun e => hn (by show k ∈ (d.pend ++ [(b, s)]).map (·.1); rw [List.map_append]; exact List.mem_append_left _ e)
          show seg (splice _ _ _) _ _ = _
          rw [seg_splice_far _ _ _ hfit _ _ (by rw [hlen]; exact blocks_far d.sz hne)]
          exact h.same k hk2 hn2 }
  · refine (ho3.imp ?_).setCell (.inl rfl) _
    rintro k _ (e | e)
    · exact .inr (.inl e)
    · exact .inr (.inr (.inr e))
  · intro k hk2
    rcases hblk k hk2 with e | e
    · exact .inl e
    · exact .inr (Nat.le_trans hob.size e)

set_option maxRecDepth 100000 in
theorem write_bad (d : DV) (b : Int) (s : ByteArray) (w : World) (h : d.In w) (hb : ¬ (0 ≤ b ∧ b < d.nb)) : Calls Try.prog 28 #[d.ptr, .int .i64 b, .string s] w fun e w' => e = .returned (.int .i64 2) ∧ w = w' := by
  have HC := Lib.hid (check_any d b w h.toTop)
  have hchk : chk d b = 2 := if_neg hb
  rw [hchk] at HC
  clear h hb hchk
  unfold DV.ptr at HC ⊢
  go_enter Try.func28, Try.ntmps28
  go_wp2_with fail
  refine HC.out.mono ?_
  rintro e w1 ⟨rfl, rfl⟩
  go_wp2
  go_ret
  exact ⟨rfl, rfl⟩
set_option maxRecDepth 100000 in
theorem write_long (d : DV) (b : Nat) (s : ByteArray) (w : World) (h : d.In w) (hb : b < d.nb) (hs : d.sz < s.size) : Calls Try.prog 28 #[d.ptr, .int .i64 (b : Int), .string s] w fun e w' => e = .returned (.int .i64 3) ∧ w = w' := by
  have HC := Lib.hid (check_any d b w h.toTop)
  have hchk : chk d b = 0 := if_pos (by omega)
  rw [hchk] at HC
  have c1 : w.cell? ⟨d.A, 1, none⟩ = some (.int .i64 ((d.sz : Nat) : Int)) := h.c1
  have hs2 : (d.sz : Int) < s.size := by omega
  generalize d.sz = n at *
  clear h hb hchk hs
  unfold DV.ptr at HC ⊢
  go_enter Try.func28, Try.ntmps28
  go_wp2_with fail
  refine HC.out.mono ?_
  rintro e w1 ⟨rfl, rfl⟩
  go_wp2
  go_ret
  exact ⟨rfl, rfl⟩

theorem new_two (w : World) (b : Nat) (s : ByteArray) : ∀ j u, (pvs [(b, s)])[j]? = some u → (w.alloc (.cells #[.int .i64 (b : Int), .string s] 107)).cell? ((⟨w.heap.size, 0, none⟩ : Addr).add j) = some u := fun j u hj => by
  have hr : Row (w.alloc (.cells #[.int .i64 (b : Int), .string s] 107)) w.heap.size 107 (pvs [(b, s)]) (0, 0) := Row.new w 107 (pvs [(b, s)]) (0, 0)
  rw [Addr.add_lit, hr.cell, Nat.zero_add]
  exact hj

set_option maxRecDepth 100000 in
set_option maxHeartbeats 2000000 in
theorem write_good (d : DV) (b : Nat) (s : ByteArray) (w : World) (h : d.In w) (hb : b < d.nb) (hs : s.size ≤ d.sz) (hl : d.pend.length ≤ 1000000) : Calls Try.prog 28 #[d.ptr, .int .i64 (b : Int), .string s] w (WroteP d b s w) := by
  have HC := Lib.hid (check_any d b w h.toTop)
  have hchk : chk d b = 0 := if_pos (by omega)
  rw [hchk] at HC
  have c1 : w.cell? ⟨d.A, 1, none⟩ = some (.int .i64 ((d.sz : Nat) : Int)) := h.c1
  have c2 := h.c2
  have hs2 : (s.size : Int) ≤ (d.ns : Int) * 64 := by have : s.size ≤ d.ns * 64 := hs; omega
  have HP := Lib.hid (piece_any d d.V d.cv b w h.toTop hb h.cv)
  have hbl := block_in d.sz hb
  have HFI := Lib.hid (fun n => fill_any d.V (b * d.sz) d.sz (d.cv - b * d.sz) (byt d.vis ++ d.X) 5 s (w.drewN n) h.vis (by rw [List.length_append, byt_length, show d.vis.length = d.nb * d.sz from h.lv]; omega) (by have : d.nb * d.sz ≤ d.cv := h.cv; omega))
  have HCL := Lib.hid (fun wx => clone_str s wx (by have := h.szLe; omega))
  have HW := Lib.hid (fun (w1 wb w3 : World) (ad : Option Addr) (c : Nat) => wrote_in (d := d) (b := b) (s := s) (w := w) (w1 := w1) (wb := wb) (w3 := w3) (ad := ad) (c := c) h hb hs)
  have HPO := Lib.hid (fun (w1 : World) (ho : Only (· = d.V) w w1) => show w1.cell? ⟨d.A, 4, none⟩ = some d.p ∧ d.A < w1.heap.size ∧ w1.ownsRow 0 107 2 d.p d.pend.length (pvs d.pend) from by
    have ht := h.toTop.only ho (h.AB h.vis) (fun k hk e => h.toTop.pNe h.vis (by decide) (by rw [← e]; exact hk))
    exact ⟨ht.c4, ht.dev.lt, ht.own⟩)
  have HLE := Lib.hid hl
  obtain ⟨ad0, cap0, hp0, -⟩ := h.slot
  generalize hPOST : WroteP d b s w = POST at *
  clear h hb hchk hs hl hPOST hbl
  generalize hPL : d.pend = L at *
  generalize hPV : d.p = pv at *
  unfold DV.ptr at HC HP ⊢
  go_enter Try.func28, Try.ntmps28
  go_wp2_with fail
  refine HC.out.mono ?_
  rintro e w1 ⟨rfl, rfl⟩
  go_wp2_with fail
  refine HP.out.mono ?_
  rintro e w1 ⟨rfl, n, rfl⟩
  go_wp2_with fail
  refine (HFI.out n).mono ?_
  rintro e w1 ⟨rfl, hr1, ho1⟩
  have HR1 := Lib.hid hr1
  have HO1 := Lib.hid (show Only (· = d.V) w w1 from ⟨ho1.os, ho1.tape, ho1.output, ho1.size, ho1.block⟩)
  obtain ⟨c4, hA1, hown1⟩ := HPO.out w1 HO1.out
  have HOW := Lib.hid (fun wx (hk : Below w1.heap.size w1 wx) => show wx.ownsRow 0 107 2 pv L.length (pvs L) from ownsRow_only hown1 (Only.below hk fun _ => False) (fun _ _ hf => hf))
  have HC4 := Lib.hid (fun wx (hk : Below w1.heap.size w1 wx) => (hk.cell (p := ⟨d.A, 4, none⟩) hA1).trans c4)
  have HLT := Lib.hid (fun wx (hk : Below w1.heap.size w1 wx) => Nat.lt_of_lt_of_le hA1 hk.size)
  have HCB := Lib.hid (fun wx (hk : Below w1.heap.size w1 wx) => (HCL.out wx).mono fun e w' hh => show e = .returned (.string s) ∧ Below w1.heap.size w1 w' from ⟨hh.1, hk.trans (hh.2.mono hk.size)⟩)
  have hk0 : Below w1.heap.size w1 w1.drew := (Below.refl _ w1).drew
  clear hr1 ho1 hown1 c1 c2 hs2 HC HP HFI HCL HPO
  subst hp0
  go_wp2_with fail
  have hc4 := HC4.out _ hk0
  go_region_law (first
    | (refine step_calls rfl 58 #[.tmp 36] _ (by rfl) #[.string s] (by simp [Act.eval, Act.put]) enters_clone (HCB.out _ (by assumption)) ?_; rintro e wa ⟨rfl, hka⟩; have ha4 := HC4.out wa hka; have hal := HLT.out wa hka; refine ⟨_, rfl, ?_⟩)
    | (refine step_pend rfl (.tmp 34) (.tmp 39) (by rfl) (.slice ad0 L.length cap0) L (by rfl) (World.ownsRow.alloc (HOW.out wa hka) _) ⟨wa.heap.size, 0, none⟩ 1 (b, s) (by rfl) (new_two wa b s) HLE.out ?_; intro ad3 c3 w3 hown hgr hblk; obtain ⟨⟨u3, hu3⟩, hf3, hpost⟩ := HW.out w1 _ w3 ad3 c3 HR1.out HO1.out (Below.alloc hka hka.size _) hown hgr hblk; clear hown hgr hblk))
  all_goals
    rw [show (L ++ [(b, s)]).length = L.length + 1 by simp] at hpost
    have HPO := Lib.hid hpost
    clear hpost
    go_wp2
    exact HPO.out

end Go.Proofs.Ytnmfgmlmjbfdcaa
