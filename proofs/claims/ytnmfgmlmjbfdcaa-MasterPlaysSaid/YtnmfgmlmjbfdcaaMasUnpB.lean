/-
  The walks over package master, part F: Unpack.
-/
import Derived.Test.YtnmfgmlmjbfdcaaMasUnp
namespace Go.Proofs.Ytnmfgmlmjbfdcaa
open Go.RowKit

attribute [local go_sem] Oper.semAt_some

set_option maxRecDepth 100000 in
set_option maxHeartbeats 1000000 in
theorem unpack_bad (b : List UInt8) (w : World) (hb : b.length ≤ 100000000) (hsz : isSz (b.length : Int) = false) : Calls Try.prog 12 #[.string (tb b)] w fun e w' => e = .returned (unpV b) ∧ Below w.heap.size w w' := by
  have HI := Lib.hid (isSize_any (b.length : Int) w (by omega) (by omega))
  rw [hsz] at HI
  have hz : (tb b).size = b.length := tb_size b
  rw [unpV_none (unpack_noSz hsz)]
  go_enter Try.func12, Try.ntmps12
  go_wp2_with fail
  refine HI.out.mono ?_
  rintro e w1 ⟨rfl, rfl⟩
  go_wp2_with fail
  refine bodyPost_ret (v := .tuple #[.int .u64 0, .string ⟨#[]⟩, .bool false]) (by simp [results, Try.f12, go_sem]) rfl ?_
  exact ⟨rfl, Below.refl _ _⟩

/-- A text put behind bytes, inside a fence. -/
theorem wpListIn_bts {F : Fence} {n : Nat} {w : World} {ops : Array Oper} {rest : List Oper} {o : Oper} {a : Act} {Q : Exit → Act → World → Prop} (hg : o.guard = none) (s x : Operand)
    (hop : o.op = Op.call { callee := Callee.builtin Builtin.append, args := #[s, x], argTypes := #[69, 9] }) (v : Option Addr) (l : List UInt8) (c m : Nat) (hm : l.length = m) (hs : a.eval s = .slice v m c) (hb : Bts w v l c) (t : ByteArray) (hx : a.eval x = .string t) (hle : l.length + t.size ≤ 100000000)
    (h : ∀ v' c' w1, Bts w1 v' (l ++ txt t) c' → w.grownBy w1 (blk v) → (∀ k, blk v' = some k → blk v = some k ∨ w.heap.size ≤ k) → wpListIn F n Try.prog ops Q rest (a.put o.dst (.slice v' (m + t.size) c')) w1) : wpListIn F n Try.prog ops Q (o :: rest) a w := by
  subst hm
  refine wpListIn_plain hg fun K hK' => ?_
  obtain ⟨v', c', w1, hrun, r1, r2, r3⟩ := hb.append t o.type hle
  unfold Oper.wpIn
  refine ⟨?_, ?_⟩
  · simp [Oper.about, hop, resolve, Target.leads, Sem.run_pure]
  · rw [Oper.semAt_plain F _ _ (by rw [hop]; intro c hc'; cases hc')]
    simp [execOp, hop, resolve, invoke, builtin, hs, hx, hrun, Result.andThen]
    exact hK' _ _ (h v' c' w1 r1 r2 r3)

/-- A round's end. -/
theorem coll_step {w W W1 : World} {b l : List UInt8} {v v' : Option Addr} {c c' : Nat} {s : ByteArray} (h : Coll w b l W) (hbox : Row W w.heap.size 69 [.slice v l.length c] (0, 0)) (hv : Bts W v l c) (hvn : ∀ k, blk v = some k → w.heap.size ≤ k)
    (hB : Bts W1 v' (l ++ txt s) c') (hg : W.grownBy W1 (blk v)) (hn : ∀ k, blk v' = some k → blk v = some k ∨ W.heap.size ≤ k) :
    W1.cell? ⟨w.heap.size, 0, none⟩ = some (.slice v l.length c) ∧ W1.frozen? ⟨w.heap.size, 0, none⟩ = false ∧
    KeepsFrom (w.heap.size + 2) W (W1.setCell ⟨w.heap.size, 0, none⟩ (.slice v' (l.length + s.size) c')) ∧ KpB (w.heap.size + 1) W (W1.setCell ⟨w.heap.size, 0, none⟩ (.slice v' (l.length + s.size) c')) ∧ Coll w b (l ++ txt s) (W1.setCell ⟨w.heap.size, 0, none⟩ (.slice v' (l.length + s.size) c')) := by
  have hlen : (l ++ txt s).length = l.length + s.size := by rw [List.length_append, txt_length]
  have h1 : some w.heap.size ≠ blk v := fun e => by
    obtain ⟨cs, hr⟩ := hv.u8 e.symm
    exact hbox.ne_ hr (by decide) rfl
  have h2 : some (w.heap.size + 1) ≠ blk v := fun e => by
    obtain ⟨cs, hr⟩ := hv.u8 e.symm
    exact h.it.ne_ hr (by decide) rfl
  have b1 := hbox.grown hg h1
  have i1 := h.it.grown hg h2
  have ko : KeepsOthers W W1 := KeepsOthers.of_grownBy hg fun j o ej hj => by
    obtain ⟨cs, hr⟩ := hv.u8 ej
    unfold Row at hr
    rw [hr] at hj
    cases hj
    rfl
  refine ⟨b1.cell 0, b1.loose 0, (ko.trans (KeepsOthers.setCell _ _ _)).from _, ?_, ?_, ?_, ?_⟩
  · exact (Below.heap_setCell W1 ⟨w.heap.size, 0, none⟩ _ _ (by simp)).trans (hg.block _ h.it.lt h2)
  · refine ⟨v', c', ?_, ?_, fun k hk => ?_⟩
    · rw [hlen]; exact b1.put 0 _
    · refine hB.only (F := (· = w.heap.size)) ((Only.refl (· = w.heap.size) W1).setCell (p := ⟨w.heap.size, 0, none⟩) rfl _) fun k hk e => ?_
      obtain ⟨cs, hr⟩ := hB.u8 hk
      exact b1.ne_ hr (by decide) e.symm
    · rcases hn k hk with e | e
      · exact hvn k e
      · exact Nat.le_trans h.below.size e
  · exact i1.far (by simp) _
  · exact (h.below.grown hg h.below.size fun k e => hvn k e).setCell (p := ⟨w.heap.size, 0, none⟩) (Nat.le_refl _) _

set_option maxRecDepth 100000 in
set_option maxHeartbeats 4000000 in
theorem unpack_sz (b : List UInt8) (w : World) (K : Nat) (hb : b.length = K * 64) (h0 : 1 ≤ K) (h1 : K ≤ 256) : Calls Try.prog 12 #[.string (tb b)] w fun e w' => e = .returned (unpV b) ∧ Below w.heap.size w w' := by
  have HI := Lib.hid (isSize_any (b.length : Int) w (by omega) (by omega))
  rw [show isSz (b.length : Int) = true by rw [hb]; push_cast; exact isSz_of K h0 h1] at HI
  have hz : (tb b).size = b.length := tb_size b
  have hbI : (b.length : Int) ≤ 16384 := by omega
  have hK : b.length / 64 = K := by omega
  -- what is read, and what it says
  have HT := Lib.hid (fun (wx : World) => top_any b wx (by omega))
  obtain ⟨t, ht⟩ : ∃ t, topP b = t := ⟨_, rfl⟩
  obtain ⟨s, hs⟩ : ∃ s, readT b = s := ⟨_, rfl⟩
  have htl : t < 18446744073709551616 := ht ▸ topP_lt b
  have hsl : s.length ≤ b.length := by
    rw [← hs]
    unfold readT rtext
    simp only
    split
    · rw [List.length_take, List.length_drop, bodyL_length b _ (by omega)]; omega
    · exact Nat.zero_le _
  have HPK := Lib.hid (fun (wx : World) => pack_any t (tb s) (b.length : Int) wx htl (by rw [tb_size]; omega) (by omega) (by omega))
  rw [show txt (tb s) = s from tb_list s, tb_size] at HPK
  have HTX := Lib.hid (fun (g : Nat) (wx : World) (hr : Rdr wx g (some (bodyL b K))) => text_any g (some (bodyL b K)) 4 (b.length : Int) wx hr (by omega))
  rw [show (rtext (some (bodyL b K)) 4 (b.length : Int)).1 = s by rw [← hs, ← hK]; rfl, show (⟨s.toArray⟩ : ByteArray) = tb s from rfl] at HTX
  rw [ht] at HT
  have HOP := Lib.hid (fun (v : Option Addr) (c : Nat) (wx : World) (hr : Bts wx v (bodyL b K) c) => open_any v (bodyL b K) c wx hr.reads (by rw [bodyL_length b K (by omega)]; omega))
  have HGOOD := Lib.hid (show packE t s.length (b.length : Int) = 0 → packT t s (b.length : Int) = b → unpV b = .tuple #[.int .u64 (t : Int), .string (tb s), .bool true] from fun e1 e2 => unpV_some (by rw [← ht] at e1 e2 ⊢; exact unpack_of e1 e2))
  have HBAD := Lib.hid (show packE t s.length (b.length : Int) ≠ 0 ∨ packT t s (b.length : Int) ≠ b → unpV b = .tuple #[.int .u64 0, .string ⟨#[]⟩, .bool false] from fun e1 => unpV_none (unpack_none fun v' s' hu => by
    obtain ⟨q1, q2, q3, q4⟩ := unpack_reads hu
    rw [ht] at q1
    rw [hs] at q2
    subst q1 q2
    rcases e1 with e1 | e1
    · exact e1 q3
    · exact e1 q4))
  obtain ⟨V, hV⟩ : ∃ V, unpV b = V := ⟨_, rfl⟩
  rw [hV] at HGOOD HBAD ⊢
  have HHB := Lib.hid hb
  have HHK := Lib.hid hK
  have HHI := Lib.hid hbI
  clear hV hb hK ht hs htl hsl h0 h1 hbI
  refine (callsIn_wide (n := 9)).1 ?_
  refine callsIn_of_wp_marks Try.func12 rfl trivial ?_ rfl
  simp only [Try.ntmps12, List.size_toArray, List.length_cons, List.length_nil, Nat.reduceAdd, Nat.reduceSub, Array.replicate_succ, Array.replicate_zero, List.push_toArray, List.append_toArray, List.nil_append, List.cons_append]
  gi_wp2_with first
    | (refine ⟨trivial, ?_⟩; gi_at_call 34; refine (callsIn_wide.2 HI.out).mono ?_; rintro e w' ⟨rfl, rfl⟩)
    | (refine ⟨trivial, ?_⟩; gi_at_call 39; refine (callsIn_wide.2 (sectors_any _ _)).mono ?_; rintro e w' ⟨rfl, rfl⟩)
  clear HI
  have bX := Row.new w 69 [.slice none 0 0] (0, 0)
  obtain ⟨w1, hw1⟩ : ∃ w1, w.alloc (.cells #[.slice none 0 0] 69) = w1 := ⟨_, rfl⟩
  have hs1 : w1.heap.size = w.heap.size + 1 := by rw [← hw1]; simp
  have hb1 : Below w.heap.size w w1 := by rw [← hw1]; exact (Below.refl _ w).alloc (Nat.le_refl _) _
  rw [show ([.slice none 0 0] : List Value).toArray = #[.slice none 0 0] from rfl, hw1] at bX
  rw [hw1]
  have bB := Row.new w1 9 [.string (tb b)] (0, 0)
  have bX2 := bX.alloc (.cells #[.string (tb b)] 9)
  have hb2 : Below w.heap.size w (w1.alloc (.cells #[.string (tb b)] 9)) := hb1.alloc hb1.size _
  obtain ⟨w2, hw2⟩ : ∃ w2, w1.alloc (.cells #[.string (tb b)] 9) = w2 := ⟨_, rfl⟩
  have hs2 : w2.heap.size = w.heap.size + 2 := by rw [← hw2]; simp [hs1]
  rw [show ([.string (tb b)] : List Value).toArray = #[.string (tb b)] from rfl, hw2] at bB
  rw [hw2] at bX2 hb2 ⊢
  rw [hs1] at bB
  have hco : Coll w b (bodF b []) w2 := ⟨⟨none, 0, bX2, Bts.nil w2, fun k hk => by cases hk⟩, bB, hb2⟩
  refine wpIn_rangeFunc_ownG (by rfl) (by decide) (gf := 66) (lb := #[.pointer (some ⟨w.heap.size + 1, 0, none⟩)]) rfl trivial (enters_of Try.func66 (by kernel_rfl) rfl)
    (sectors_stops 8 (w.heap.size + 1) (by decide) b (by have := HHI.out; omega) w2 bB) kpB_t (fun W l o o' hl _ _ _ => World.putObj_heap_other (by omega)) (Below.refl _ _) (fun _ => rfl)
    (fun pre W => Coll w b (bodF b pre) W)
    (fun _ _ _ => False)
    (fun s A B row hs hg hr => hs.kept hg (fun r e => ⟨by have := (hr r e).1; omega, (hr r e).2⟩))
    (fun _ _ _ _ _ hs _ _ => hs)
    hco
    (fun i => { tmps := #[.string (tb b), undef, .int .u64 0, .string ⟨#[]⟩, .bool false, .pointer (some ⟨w.heap.size, 0, none⟩), undef, .string (tb (seg b (i * 64 + 8) 56)), undef, undef, .string (tb b), .int .i64 (b.length : Int), .bool true, .bool false, .string (tb b), .func (.func 66) #[] #[.pointer (some ⟨w.heap.size + 1, 0, none⟩)], .int .u64 (val (seg b (i * 64) 8) : Int), .string (tb (seg b (i * 64 + 8) 56)), undef, undef, undef, undef, undef, undef, undef, undef, undef, undef, undef, undef, undef, undef, undef, undef, undef, undef, undef, undef, undef, undef, undef, undef, undef, undef, undef], defers := [] }) ?assign ?body ?done ?stop
  case assign =>
    intro l x W K hK
    dsimp only [secEnc]
    gi_wp2
    exact hK
  case body =>
    rintro l pre x W hco hlen
    obtain ⟨v, c, hbx, hbt, hvn⟩ := hco.box
    have hc := hbx.cell 0
    have hle := bodF_le b pre
    have hbI := HHI.out
    have hpz : (tb (seg b (x * 64 + 8) 56)).size ≤ 56 := by rw [tb_size]; exact seg_le _ _ _
    obtain ⟨nl, hnl⟩ : ∃ nl, (bodF b pre).length = nl := ⟨_, rfl⟩
    rw [hnl] at hc
    have HBT := Lib.hid hbt
    have HLE := Lib.hid (show (bodF b pre).length + (tb (seg b (x * 64 + 8) 56)).size ≤ 100000000 by omega)
    have HNL := Lib.hid hnl
    have E := Lib.hid (fun (v' : Option Addr) (c' : Nat) (W1 : World) (hB1 : Bts W1 v' (bodF b pre ++ txt (tb (seg b (x * 64 + 8) 56))) c') (hg1 : W.grownBy W1 (blk v)) (hn1 : ∀ k, blk v' = some k → blk v = some k ∨ W.heap.size ≤ k) => coll_step hco hbx hbt hvn hB1 hg1 hn1)
    rw [hnl] at E
    clear hbx hbt hvn hco hle hpz hbI hlen hnl
    gi_wp2_with (gi_at_builtin; refine wpListIn_bts rfl (.tmp 18) (.tmp 19) (by rfl) v _ c nl HNL.out (by rfl) HBT.out _ (by rfl) HLE.out ?_; intro v' c' W1 hB1 hg1 hn1; obtain ⟨k1, k2, k3, k4, k5⟩ := E.out v' c' W1 hB1 hg1 hn1; rw [show txt (tb (seg b (x * 64 + 8) 56)) = seg b (x * 64 + 8) 56 from tb_list _, ← bodF_snoc] at k5; have EE := Lib.hid (And.intro k3 (And.intro k4 k5)); clear k3 k4 k5 hB1 hg1 hn1)
    rw [hs2]
    exact EE.out
  case done =>
    rintro D xs W hD rfl hco hK
    rw [bodF_range, HHK.out] at hco
    obtain ⟨v, c, hbx, hbt, -⟩ := hco.box
    have hb3 := hco.below
    have c5 := hbx.cell 0
    simp only [List.getElem?_cons_zero] at c5
    rw [bodyL_length b K (by rw [HHB.out]; exact Nat.le_refl _)] at c5
    have HBX := Lib.hid hbx
    have HBT := Lib.hid hbt
    have HB3 := Lib.hid hb3
    have HK := Lib.hid hK
    have HD := Lib.hid hD
    clear hco hbx hbt hb3 hK hD
    gi_step
    gi_step
    refine wpIn_wide.2 ?_
    obtain ⟨wd, hwd⟩ : ∃ wd, W.drew = wd := ⟨_, rfl⟩
    have HBXd := Lib.hid (show Row wd w.heap.size 69 [.slice v (bodyL b K).length c] (0, 0) from hwd ▸ HBX.out.drew)
    have HBTd := Lib.hid (show Bts wd v (bodyL b K) c from hwd ▸ HBT.out.below (Below.refl _ _).drew)
    have HB4 := Lib.hid (show Below w.heap.size w wd from hwd ▸ HB3.out.trans ((Below.refl _ _).drew.mono HB3.out.size))
    have HK4 := Lib.hid (show wd.heap[D]? = some (.deferred (some [])) from hwd ▸ HK.out)
    rw [bodyL_length b K (by rw [HHB.out]; exact Nat.le_refl _)] at HBXd
    have hHeld := HBXd.out.cell 0
    simp only [List.getElem?_cons_zero] at hHeld
    have HOPd := Lib.hid (fun wx (hx : Below wd.heap.size wd wx) => HOP.out v c wx (HBTd.out.below hx))
    rw [bodyL_length b K (by rw [HHB.out]; exact Nat.le_refl _)] at HOPd
    clear HBX HBT HB3 HK HOP c5 HBTd
    go_wp2_with fail
    refine wp_region_noPanic ?_
    refine wp_region_sch (fun wx => wx.cell? ⟨w.heap.size, 0, none⟩ = some (.slice v (K * 56) c)) (fun i => [1, 3, 6].contains i)
      (.takes [0, 2, 4, 5] (.run 1 (.run 3 (.run 6 (.takes [7, 8] .done))))) (by kernel_rfl) (fun _ _ _ _ _ h => h) (by kernel_rfl) ?_
    rw [hwd]
    clear hwd
    iterate 4 (
      refine sch_takes_cons ?_
      first
        | (refine sch_take (v := ?_) rfl (by assumption) (by rfl) ?_ ?_; rotate_left; (focus (intro wy hSy; (try dsimp only at hSy); go_simp; (try with_reducible rfl))))
        | (refine sch_pass rfl (by assumption) (by rfl) ?_)
      simp only [Act.put, List.setIfInBounds_toArray, List.set_cons_zero, List.set_cons_succ])
    refine sch_takes_nil ?_
    refine sch_run rfl (fun K hK => ?_)
    go_simp
    with_reducible refine (HT.out _).mono ?_
    rintro e w5 ⟨rfl, hb5⟩
    have HB5 := Lib.hid hb5
    have hHeld := (HBXd.out.below hb5 HBXd.out.lt).cell 0
    simp only [List.getElem?_cons_zero] at hHeld
    have HO5 := Lib.hid (HOPd.out w5 hb5)
    clear hb5 HT HOPd
    refine hK.out _ _ (fun _ => hHeld) ?_
    clear hK K
    try simp only [Act.put, List.setIfInBounds_toArray, List.set_cons_zero, List.set_cons_succ]
    refine sch_run rfl (fun K hK => ?_)
    go_simp
    with_reducible refine HO5.out.mono ?_
    rintro e w6 ⟨g, rfl, hg6, hrd6, hb6⟩
    have hHeld := ((HBXd.out.below HB5.out HBXd.out.lt).below hb6 (Nat.lt_of_lt_of_le HBXd.out.lt HB5.out.size)).cell 0
    simp only [List.getElem?_cons_zero] at hHeld
    have HB6 := Lib.hid (HB5.out.trans (hb6.mono HB5.out.size))
    have HG6 := Lib.hid (show wd.heap.size ≤ g from Nat.le_trans HB5.out.size hg6)
    have HX6 := Lib.hid (HTX.out g w6 hrd6)
    clear hg6 hrd6 hb6 HO5 HTX
    refine hK.out _ _ (fun _ => hHeld) ?_
    clear hK K
    try simp only [Act.put, List.setIfInBounds_toArray, List.set_cons_zero, List.set_cons_succ]
    refine sch_run rfl (fun K hK => ?_)
    go_simp
    with_reducible refine HX6.out.mono ?_
    rintro e w7 ⟨rfl, hn7, _⟩
    have HB7 := Lib.hid (HB6.out.grown hn7 HB6.out.size (fun k e => by cases e; exact HG6.out))
    have hHeld := (HBXd.out.below HB7.out HBXd.out.lt).cell 0
    simp only [List.getElem?_cons_zero] at hHeld
    clear hn7 HX6
    refine hK.out _ _ (fun _ => hHeld) ?_
    clear hK K
    try simp only [Act.put, List.setIfInBounds_toArray, List.set_cons_zero, List.set_cons_succ]
    iterate 2 (
      refine sch_takes_cons ?_
      first
        | (refine sch_take (v := ?_) rfl (by assumption) (by rfl) ?_ ?_; rotate_left; (focus (intro wy hSy; (try dsimp only at hSy); go_simp; (try with_reducible rfl))))
        | (refine sch_pass rfl (by assumption) (by rfl) ?_)
      simp only [Act.put, List.setIfInBounds_toArray, List.set_cons_zero, List.set_cons_succ])
    refine sch_takes_nil ?_
    refine sch_done ?_
    refine NoPanic.normal ?_
    have HK7 := Lib.hid ((HB7.out.block D (Array.getElem?_eq_some_iff.1 HK4.out).1).trans HK4.out)
    have HBW := Lib.hid (HB4.out.trans (HB7.out.mono HB4.out.size))
    have HP7 := Lib.hid (HPK.out w7)
    clear hHeld HBXd HB4 HB5 HB6 HB7 HG6 HK4 HPK
    have hend : ∀ (W' : World) (V' : Value) (fr : Array Value), Below w7.heap.size w7 W' → V' = V → (∀ wx, (results Try.f12 fr).run Try.prog wx = .ok V' wx) → bodyPostM Fence.wide 9 Try.prog Try.f12 (fun e w' => e = .returned V ∧ Below w.heap.size w w') .ret { tmps := fr, defers := [{ target := .collected D, args := #[] }] } W' := fun W' V' fr hb hv hr => by
      have hk' := (hb.block D (Array.getElem?_eq_some_iff.1 HK7.out).1).trans HK7.out
      refine ⟨by simp, .inl ⟨_, _, rfl, run_takeDeferred hk', ?_⟩⟩
      exact ⟨V', hr _, by rw [hv], (HBW.out.trans (hb.mono HBW.out.size)).trans (belowK_b (w := w) (Nat.le_refl _) W' D _ _ (by have := HD.out; omega) hk' rfl rfl)⟩
    have HEND := Lib.hid hend
    clear hend
    rcases packE_cases t s.length (b.length : Int) with e0 | e0 | e0
    · by_cases hT0 : packT t s (b.length : Int) = b
      · have HG := Lib.hid (HGOOD.out e0 hT0)
        have HP8 := Lib.hid HP7.out
        rw [e0, hT0] at HP8
        clear e0 hT0 HP7 HGOOD HBAD
        go_wp2_with fail
        refine HP8.out.mono ?_
        rintro e w8 ⟨rfl, hb8⟩
        have HB8 := Lib.hid hb8
        clear hb8
        go_wp2_with fail
        exact HEND.out w8 _ _ HB8.out HG.out.symm (fun wx => by simp [results, Try.f12, go_sem])
      · have HG := Lib.hid (HBAD.out (.inr hT0))
        have HP8 := Lib.hid HP7.out
        rw [e0] at HP8
        have hne : ((tb (packT t s (b.length : Int))).toList == (tb b).toList) = false := by rw [beq_eq_false_iff_ne, ByteArray.toList_eq, ByteArray.toList_eq, tb_list, tb_list]; exact hT0
        obtain ⟨X, hX⟩ : ∃ X, tb (packT t s (b.length : Int)) = X := ⟨_, rfl⟩
        rw [hX] at HP8 hne
        clear e0 hT0 HP7 HGOOD HBAD hX
        go_wp2_with fail
        refine HP8.out.mono ?_
        rintro e w8 ⟨rfl, hb8⟩
        have HB8 := Lib.hid hb8
        clear hb8
        go_wp2_with fail
        exact HEND.out w8 _ _ HB8.out HG.out.symm (fun wx => by simp [results, Try.f12, go_sem])
    · have HG := Lib.hid (HBAD.out (.inl (by rw [e0]; decide)))
      have HP8 := Lib.hid HP7.out
      rw [e0] at HP8
      clear e0 HP7 HGOOD HBAD
      go_wp2_with fail
      refine HP8.out.mono ?_
      rintro e w8 ⟨rfl, hb8⟩
      have HB8 := Lib.hid hb8
      clear hb8
      go_wp2_with fail
      exact HEND.out w8 _ _ HB8.out HG.out.symm (fun wx => by simp [results, Try.f12, go_sem])
    · have HG := Lib.hid (HBAD.out (.inl (by rw [e0]; decide)))
      have HP8 := Lib.hid HP7.out
      rw [e0] at HP8
      clear e0 HP7 HGOOD HBAD
      go_wp2_with fail
      refine HP8.out.mono ?_
      rintro e w8 ⟨rfl, hb8⟩
      have HB8 := Lib.hid hb8
      clear hb8
      go_wp2_with fail
      exact HEND.out w8 _ _ HB8.out HG.out.symm (fun wx => by simp [results, Try.f12, go_sem])
  case stop =>
    rintro D c pre W _ _ h _
    exact h.elim

theorem unpack_any (b : List UInt8) (w : World) (hb : b.length ≤ 100000000) : Calls Try.prog 12 #[.string (tb b)] w fun e w' => e = .returned (unpV b) ∧ Below w.heap.size w w' := by
  cases hsz : isSz (b.length : Int) with
  | false => exact unpack_bad b w hb hsz
  | true =>
    obtain ⟨k, h1, h2, h3⟩ := isSz_ok hsz
    exact unpack_sz b w k (by omega) h2 h3
end Go.Proofs.Ytnmfgmlmjbfdcaa
