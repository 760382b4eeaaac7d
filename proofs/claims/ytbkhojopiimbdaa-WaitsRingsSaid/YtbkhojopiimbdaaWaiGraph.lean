/-
  graphOf: a map from each transaction to those for which it waits, in ascending order.
-/
import Derived.Test.YtbkhojopiimbdaaWaiMap
import Derived.Test.YtbkhojopiimbdaaDraw
import Derived.Test.YtbkhojopiimbdaaWaiRefC
namespace Go.Proofs.Ytbkhojopiimbdaa
open Go.RowKit

/-- Those that one waits for, as the edges stand. -/
def outs (l : List Edge) (k : Nat) : List Nat := (l.filter fun e => e.1 == k).map (·.2)
theorem mem_outs {l : List Edge} {k z : Nat} : z ∈ outs l k ↔ (k, z) ∈ l := by
  simp only [outs, List.mem_map, List.mem_filter, beq_iff_eq]
  constructor
  · rintro ⟨⟨a, b⟩, ⟨h1, h2⟩, h3⟩
    simp only at h2 h3
    subst h2 h3
    exact h1
  · exact fun h => ⟨(k, z), ⟨h, rfl⟩, rfl⟩
theorem outs_length (l : List Edge) (k : Nat) : (outs l k).length ≤ l.length := by
  rw [outs, List.length_map]
  exact List.length_filter_le _ _
theorem outs_take (l : List Edge) (i : Nat) (h : i < l.length) : outs (l.take (i + 1)) = fun j => if j = l[i].1 then outs (l.take i) l[i].1 ++ [l[i].2] else outs (l.take i) j := by
  funext j
  rw [List.take_succ_eq_append_getElem h]
  simp only [outs, List.filter_append, List.map_append]
  by_cases e : j = l[i].1
  · subst e
    simp
  · rw [if_neg e]
    have : (l[i].1 == j) = false := by simpa using fun h => e h.symm
    simp [this]

theorem run_num (w : World) (base : Nat) (v : Value) (L : List Nat) (z g : Nat) (h : w.ownsRow base 23 1 v L.length (nv L)) (hc : w.cell? ⟨g, 0, none⟩ = some (.int .u64 (z : Int))) (hl : L.length ≤ 100000) (hb : base ≤ w.heap.size) (ty : TypeId) :
    ∃ v' w', (Builtin.append_ #[26, 26] ty #[v, .slice (some ⟨g, 0, none⟩) 1 1]).run Try.prog w = .ok v' w' ∧ w'.ownsRow base 23 1 v' (L.length + 1) (nv (L ++ [z])) ∧ w.grownBy w' v.ownBlock ∧ (v'.ownBlock = v.ownBlock ∨ v'.ownBlock = some w.heap.size) := by
  obtain ⟨i0, hi0, hz0, hz1, hz2⟩ := info_parts Try.infoU64
  obtain ⟨v', w', h1, h2, h3, _, h5⟩ := run_append_own_at (P := Try.prog) w base 26 ty 23 i0 _ 1 8 Try.underlying26 hi0 hz0 hz1 hz2 rfl (by decide) v L.length (nv L) h ⟨g, 0, none⟩ 1 1 (nv [z]) rfl (fun j u hj => by
    match j, hj with
    | 0, hj =>
      obtain rfl : Value.int .u64 (z : Int) = u := by simpa [nv] using hj
      exact hc) (nv_one _) (by unfold maxLen; omega) (by omega) hb
  exact ⟨v', w', h1, by rw [nv_append]; exact h2, h3, h5⟩
theorem step_num {ops : Array Oper} {o : Oper} {a : Act} {K : Act → World → Prop} {Q : Exit → Act → World → Prop} {E : Prop} {w : World} (hgd : o.guard = none) (s x : Operand)
    (ho : o.op = .call { callee := .builtin .append, args := #[s, x], argTypes := #[26, 26] }) (base : Nat) (v : Value) (L : List Nat) (z g : Nat) (h : w.ownsRow base 23 1 v L.length (nv L)) (hs : a.eval s = v) (hx : a.eval x = .slice (some ⟨g, 0, none⟩) 1 1)
    (hc : w.cell? ⟨g, 0, none⟩ = some (.int .u64 (z : Int))) (hl : L.length ≤ 100000) (hb : base ≤ w.heap.size)
    (hk : ∀ v' w', w'.ownsRow base 23 1 v' (L.length + 1) (nv (L ++ [z])) → w.grownBy w' v.ownBlock → (v'.ownBlock = v.ownBlock ∨ v'.ownBlock = some w.heap.size) → K (a.put o.dst v') w') : if Region.wanted o (yielded ops a.tmps) = true then Oper.wp Try.prog o a w K Q else E := by
  have hw : Region.wanted o (yielded ops a.tmps) = true := by simp [Region.wanted, hgd]
  rw [if_pos hw]
  obtain ⟨v', w', hrn, h2, h3, h4⟩ := run_num w base v L z g h hc hl hb o.type
  unfold Oper.wp execOp
  simp only [ho, resolve, invoke, builtin, Sem.run_bind, Sem.run_pure, Result.andThen_ok, List.map_toArray, List.map_cons, List.map_nil, hs, hx, hrn]
  exact hk v' w' h2 h3 h4
theorem step_map {ops : Array Oper} {o : Oper} {a : Act} {K : Act → World → Prop} {Q : Exit → Act → World → Prop} {E : Prop} {w : World} (hgd : o.guard = none) (m x y : Operand)
    (ho : o.op = .mapUpdate 34 m x y) (b n : Nat) (D : DataW Value) (k : Nat) (v : Value) (h : w.ownsMap Try.prog 23 tokR b n D) (hk64 : k < 18446744073709551616) (hm : a.eval m = .map (some b)) (hx : a.eval x = .int .u64 (k : Int)) (hy : a.eval y = v) (hn : n ≤ 100000)
    (hk : ∀ w', w'.ownsMap Try.prog 23 tokR b (n + 1) (D.put (kL k) (.held v)) → w.grownBy w' (some b) → K (a.put o.dst undef) w') : if Region.wanted o (yielded ops a.tmps) = true then Oper.wp Try.prog o a w K Q else E := by
  have hw : Region.wanted o (yielded ops a.tmps) = true := by simp [Region.wanted, hgd]
  rw [if_pos hw]
  obtain ⟨w', hrun, r1, r2⟩ := h.update law64 Try.underlying34 (by unfold maxLen; omega) (key64 hk64) (val := v) (d := .held v) (ps := []) rfl
  unfold Oper.wp
  simp only [execOp, ho, hm, hx, hy, Sem.run_bind, Sem.run_pure, hrun, Result.andThen_ok]
  exact hk w' r1 r2

theorem GM.kept {w w1 : World} {b base n : Nat} {D : DataW Value} {G : Nat → List Nat} {row : Option Nat} (h : GM w b base n D G) (hg : w.grownBy w1 row) (hb : some b ≠ row)
    (hv : ∀ k v, k < 18446744073709551616 → D.atKey (kL k) (.held nilS) = .held v → v.ownBlock = none ∨ v.ownBlock ≠ row) : GM w1 b base n D G :=
  ⟨h.map.kept hg hb, h.low, fun k hk => by
    obtain ⟨v, hat, ho⟩ := h.row k hk
    exact ⟨v, hat, ho.kept hg (hv k v hk hat)⟩, h.apart⟩
/-- Where the iterator is there lies no row. -/
theorem ranges_far {w : World} {P : Program} {k : TypeId} {R : Value → Option (DataW Value × List MemPlace)} {b r n cnt : Nat} {D : DataW Value} {left : Lit → Bool} (h : w.ranges P k R b r n D left cnt)
    {base m : Nat} {e : TypeId} {v : Value} {xs : List Value} (ho : w.ownsRow base e 1 v m xs) : v.ownBlock = none ∨ v.ownBlock ≠ some r := by
  obtain ⟨es, clock, since, seen, c0, _, _, _, _, hr, _⟩ := h
  rcases ho.2 with ⟨rfl, _⟩ | ⟨g, cap, cur, rfl, _, hg, _⟩
  · exact .inl rfl
  · refine .inr fun e1 => ?_
    injection e1 with e1
    subst e1
    rw [hr] at hg
    cases hg
theorem wpList_next_tok {ops : Array Oper} {rest : List Oper} {o : Oper} {a : Act} {Q : Exit → Act → World → Prop} (w : World) (hg : o.guard = none) (it : Operand) (hop : o.op = Op.next it false)
    (b r n : Nat) (D : DataW Value) (left : Lit → Bool) (cnt : Nat) (hit : a.eval it = .pointer (some ⟨r, 0, none⟩)) (h : w.ranges Try.prog 23 tokR b r n D left cnt)
    (hDone : cnt = 0 → (∀ kl, left kl = false) → wpList Try.prog ops Q rest (a.put o.dst (.tuple #[.bool false])) w)
    (hMore : ∀ (x : Nat) (v : Value) (w' : World) (cnt' : Nat), x < 18446744073709551616 → left (kL x) = true → D.atKey (kL x) (.held nilS) = .held v → w'.ranges Try.prog 23 tokR b r n D (fun z => left z && !z.sameKey (kL x)) cnt' → cnt' < cnt →
      w.grownBy w' (some r) → w'.heap.size = w.heap.size → (Instr.entry (.pointer (some ⟨r, 0, none⟩))).run Try.prog w' = .ok (.tuple #[.int .u64 (x : Int), v]) w' → wpList Try.prog ops Q rest (a.put o.dst (.tuple #[.bool true, .int .u64 (x : Int), v])) w') :
    wpList Try.prog ops Q (o :: rest) a w :=
  wpList_next_ranges (α := Int) (β := Value) w hg it hop 23 law64 tokR (Value.int .u64) (fun v => v) (fun key kl hkey => by obtain ⟨x, rfl, _⟩ := Go.Maps.keyOf_int_inv Try.underlying23 hkey; exact ⟨x, rfl⟩) (fun v y _ => ⟨v, rfl⟩)
    b r n D left cnt hit h hDone (fun x c kl y w' cnt' hkey hlk hv hat hrg hlt hgr hsz hen => by
      obtain ⟨x', ex, rfl, hwx⟩ := Go.Maps.keyOf_int_inv Try.underlying23 hkey
      cases ex
      have hwx2 : 0 ≤ x ∧ x < 18446744073709551616 := by
        have h2 := hwx
        simp only [Lit.wf, Bool.and_eq_true, decide_eq_true_eq] at h2
        have hm1 : IntKind.min .u64 = 0 := by decide
        have hm2 : IntKind.max .u64 = 18446744073709551615 := by decide
        omega
      obtain ⟨m, rfl⟩ : ∃ m : Nat, x = (m : Int) := ⟨x.toNat, by omega⟩
      have hy : y = (.held c, []) := by
        have : some (DataW.held c, ([] : List MemPlace)) = some y := hv
        injection this with this
        exact this.symm
      exact hMore m c w' cnt' (by omega) hlk (by rw [hat, hy]) hrg hlt hgr hsz hen)

/-- What graphOf hands back. -/
def GraphV (l : List Edge) (w : World) (e : Ending) (w' : World) : Prop :=
  ∃ b base n D G, e = .returned (.map (some b)) ∧ GM w' b base n D G ∧ (∀ k, k < 18446744073709551616 → (G k).Perm (outs l k) ∧ (G k).Pairwise (· ≤ ·)) ∧ Below w.heap.size w w'
/-- Somewhere within the sorting: what is still to come is as it was. -/
def MidG (l : List Edge) (w : World) (r n : Nat) (D : DataW Value) (cnt : Nat) (wr : World) : Prop :=
  ∃ left G, wr.ranges Try.prog 23 tokR w.heap.size r n D left cnt ∧ w.heap.size ≤ r ∧ GM wr w.heap.size (w.heap.size + 1) n D G ∧ Below w.heap.size w wr ∧
    ∀ k, k < 18446744073709551616 → if left (kL k) = true then G k = outs l k else (G k).Perm (outs l k) ∧ (G k).Pairwise (· ≤ ·)

set_option maxRecDepth 100000 in
set_option maxHeartbeats 4000000 in
theorem graph_any (l : List Edge) (A : Option Addr) (c : Nat) (w : World) (h : Lie w A (ev l)) (_hc : l.length ≤ c) (hn : l.length ≤ 200) (hu : ∀ e ∈ l, e.1 < 18446744073709551616 ∧ e.2 < 18446744073709551616) :
    Calls Try.prog 11 #[.slice A l.length c] w (GraphV l w) := by
  obtain ⟨POST, hPO⟩ : ∃ POST, GraphV l w = POST := ⟨_, rfl⟩
  have HFIN := Lib.hid (fun b base n D G w' (h1 : GM w' b base n D G) (h2 : ∀ k, k < 18446744073709551616 → (G k).Perm (outs l k) ∧ (G k).Pairwise (· ≤ ·)) (h3 : Below w.heap.size w w') => show POST (.returned (.map (some b))) w' from hPO ▸ ⟨b, base, n, D, G, rfl, h1, h2, h3⟩)
  rw [hPO]
  clear hPO
  have HL := Lib.hid h
  have HU := Lib.hid hu
  clear h hu
  have hmm := @run_makeMap Try.prog
  go_enter Try.func11, Try.ntmps11
  have H0 := Lib.hid (show GM (w.alloc (.map #[] 0)) w.heap.size (w.heap.size + 1) 0 (.map []) (outs (l.take 0)) ∧ Below w.heap.size w (w.alloc (.map #[] 0)) from ⟨GM.made w, below_new w _⟩)
  go_wp2_with fail
  go_loopw [11] (fun i wr => ∃ (k : Nat), k ≤ l.length ∧ i = .int .i64 k ∧ Hid (∃ D, GM wr w.heap.size (w.heap.size + 1) k D (outs (l.take k)) ∧ Below w.heap.size w wr)) (fun i _ => l.length - (intOf i).toNat)
  case atStart => exact ⟨0, by omega, by first | rfl | go_num, Lib.hid ⟨_, H0.out⟩⟩
  case round =>
    clear H0
    obtain ⟨k, hk, rfl, HG⟩ := hrel
    obtain ⟨D, hgm, hkeep⟩ := HG.out
    clear HG
    by_cases hkl : k < l.length
    · have hJ : (k : Int) < (l.length : Int) := by omega
      obtain ⟨g, off, rfl, hcell⟩ := HL.out.edges (by omega)
      obtain ⟨c0, c1⟩ := hcell wr hkeep k hkl
      clear hcell
      have HOT := Lib.hid (outs_take l k hkl)
      obtain ⟨u1, u2⟩ := HU.out _ (List.getElem_mem hkl)
      obtain ⟨e2, he2⟩ : ∃ e2, l[k].2 = e2 := ⟨_, rfl⟩
      obtain ⟨e1, he1⟩ : ∃ e1, l[k].1 = e1 := ⟨_, rfl⟩
      rw [he1] at c0 HOT u1
      rw [he2] at c1 HOT u2
      clear he1 he2
      have HE1 := Lib.hid u1
      obtain ⟨v, hv, hrow⟩ := hgm.row e1 u1
      have hlen : (outs (l.take k) e1).length ≤ 200 := by
        have := outs_length (l.take k) e1
        rw [List.length_take] at this
        omega
      have HBX := Lib.hid (Row.new wr 31 [.int .u64 (e1 : Int), .int .u64 (e2 : Int)] (0, 0))
      have HGX := Lib.hid (hgm.keeps (below_new wr (.cells #[.int .u64 (e1 : Int), .int .u64 (e2 : Int)] 31)))
      have HRX := Lib.hid (hrow.keeps (below_new wr (.cells #[.int .u64 (e1 : Int), .int .u64 (e2 : Int)] 31)))
      have HKX := Lib.hid (Below.alloc hkeep hkeep.size (.cells #[.int .u64 (e1 : Int), .int .u64 (e2 : Int)] 31))
      have HVX := Lib.hid (show v.ownBlock ≠ some wr.heap.size from fun e => by have := (hrow.lt _ e).2; omega)
      have HVB := Lib.hid (show v.ownBlock ≠ some w.heap.size from fun e => by have := ownsRow_ge hrow e; omega)
      have HBM := Lib.hid (show w.heap.size + 1 ≤ wr.heap.size from hgm.map.lt)
      have HLK := Lib.hid (show ∀ wx, wx.ownsMap Try.prog 23 tokR w.heap.size k D → (Instr.lookup 34 (.map (some w.heap.size)) (.int .u64 (e1 : Int)) false).run Try.prog wx = .ok v wx from fun wx hm => by
        obtain ⟨u, ps, hrun, hu⟩ := hm.lookup law64 Try.underlying34 (Try.zero_row wx) (zd := .held nilS) (zp := []) rfl (key64 HE1.out)
        rw [hv] at hu
        have : some (DataW.held u, ([] : List MemPlace)) = some (DataW.held v, ps) := hu
        injection this with this
        injection this with this _
        injection this with this
        rw [this] at hrun
        exact hrun)
      have HV := Lib.hid hv
      clear hgm hrow hkeep hv u1 u2
      go_upto_region 5 with fail
      obtain ⟨wd, hwd⟩ : ∃ x, (wr.alloc (.cells #[.int .u64 (e1 : Int), .int .u64 (e2 : Int)] 31)).drew = x := ⟨_, rfl⟩
      have HGd := Lib.hid (hwd ▸ HGX.out.keeps (Below.refl _ _).drew)
      have HRd := Lib.hid (hwd ▸ HRX.out.keeps (Below.refl _ _).drew)
      have HBd := Lib.hid (hwd ▸ Row.drew HBX.out)
      have HKd := Lib.hid (hwd ▸ Below.drew HKX.out)
      have hHeld : wd.cell? ⟨wr.heap.size, 0, none⟩ = some (.int .u64 (e1 : Int)) ∧ wd.cell? ⟨wr.heap.size, 1, none⟩ = some (.int .u64 (e2 : Int)) ∧ (Instr.lookup 34 (.map (some w.heap.size)) (.int .u64 (e1 : Int)) false).run Try.prog wd = .ok v wd := ⟨HBd.out.cell 0, HBd.out.cell 1, HLK.out wd HGd.out.map⟩
      clear HGX HRX HBX HKX c0 c1
      refine wp_region_noPanic ?_
      refine wp_region_sch (fun wx => wx.cell? ⟨wr.heap.size, 0, none⟩ = some (.int .u64 (e1 : Int)) ∧ wx.cell? ⟨wr.heap.size, 1, none⟩ = some (.int .u64 (e2 : Int)) ∧ (Instr.lookup 34 (.map (some w.heap.size)) (.int .u64 (e1 : Int)) false).run Try.prog wx = .ok v wx) (fun i => [9, 10, 11].contains i)
        (.takes [0, 1, 2, 3, 4, 5, 6, 7, 8] (.run 9 (.run 10 (.run 11 .done)))) (by kernel_rfl) (fun _ _ _ _ _ h => h) (by kernel_rfl) ?_
      rw [hwd]
      clear hwd
      iterate 9 (
        refine sch_takes_cons ?_
        first
          | (refine sch_take (v := ?_) rfl (by assumption) (by rfl) ?_ ?_; rotate_left; (focus (intro wy hSy; (try dsimp only at hSy); go_simp; (try with_reducible rfl))))
          | (refine sch_pass rfl (by assumption) (by rfl) ?_)
        simp only [Act.put, List.setIfInBounds_toArray, List.set_cons_zero, List.set_cons_succ])
      refine sch_takes_nil ?_
      refine sch_run rfl (fun K hK => ?_)
      go_simp
      have HGg := Lib.hid (HGd.out.keeps (below_new wd (.cells #[.int .u64 (e2 : Int)] 23)))
      have HRg := Lib.hid (HRd.out.keeps (below_new wd (.cells #[.int .u64 (e2 : Int)] 23)))
      have HBg := Lib.hid (Row.alloc HBd.out (.cells #[.int .u64 (e2 : Int)] 23))
      have HKg := Lib.hid (Below.alloc HKd.out HKd.out.size (.cells #[.int .u64 (e2 : Int)] 23))
      have HNg := Lib.hid (show (wd.alloc (.cells #[.int .u64 (e2 : Int)] 23)).cell? ⟨wd.heap.size, 0, none⟩ = some (.int .u64 (e2 : Int)) from new_one wd _ _ 0 _ rfl)
      have HOg := Lib.hid (World.grownBy_alloc wd (.cells #[.int .u64 (e2 : Int)] 23) v.ownBlock)
      obtain ⟨wg, hwg⟩ : ∃ x, wd.alloc (.cells #[.int .u64 (e2 : Int)] 23) = x := ⟨_, rfl⟩
      rw [hwg] at HGg HRg HBg HKg HNg HOg ⊢
      clear hwg
      have hHeld : wg.cell? ⟨wr.heap.size, 0, none⟩ = some (.int .u64 (e1 : Int)) ∧ wg.cell? ⟨wr.heap.size, 1, none⟩ = some (.int .u64 (e2 : Int)) ∧ (Instr.lookup 34 (.map (some w.heap.size)) (.int .u64 (e1 : Int)) false).run Try.prog wg = .ok v wg := ⟨HBg.out.cell 0, HBg.out.cell 1, HLK.out wg HGg.out.map⟩
      generalize wd.heap.size = sd at *
      refine hK.out _ _ (fun _ => hHeld) ?_
      clear hK K
      try simp only [Act.put, List.setIfInBounds_toArray, List.set_cons_zero, List.set_cons_succ]
      refine sch_run rfl (fun K hK => ?_)
      refine step_num rfl (.tmp 21) (.tmp 24) rfl _ _ _ _ _ HRg.out rfl rfl HNg.out (by omega) HGg.out.map.lt ?_
      intro v' wh ho hg hloc
      have HRh := Lib.hid ho
      have HGr := Lib.hid hg
      have HLC := Lib.hid hloc
      clear ho hg hloc
      have HMh := Lib.hid (HGg.out.map.kept HGr.out (fun e => HVB.out e.symm))
      have HBh := Lib.hid (Row.grown HBg.out HGr.out (fun e => HVX.out e.symm))
      have hHeld : wh.cell? ⟨wr.heap.size, 0, none⟩ = some (.int .u64 (e1 : Int)) ∧ wh.cell? ⟨wr.heap.size, 1, none⟩ = some (.int .u64 (e2 : Int)) ∧ (Instr.lookup 34 (.map (some w.heap.size)) (.int .u64 (e1 : Int)) false).run Try.prog wh = .ok v wh := ⟨HBh.out.cell 0, HBh.out.cell 1, HLK.out wh HMh.out⟩
      refine hK.out _ _ (fun _ => hHeld) ?_
      clear hK K
      try simp only [Act.put, List.setIfInBounds_toArray, List.set_cons_zero, List.set_cons_succ]
      refine sch_last rfl (by kernel_rfl) (fun K hK => ?_)
      refine step_map rfl (.tmp 15) (.tmp 17) (.tmp 25) rfl _ _ _ e1 v' HMh.out HE1.out rfl rfl rfl (by omega) ?_
      intro wi hm hg2
      have HNX := Lib.hid (show GM wi w.heap.size (w.heap.size + 1) (k + 1) (D.put (kL e1) (.held v')) (outs (l.take (k + 1))) ∧ Below w.heap.size w wi from by
        rw [HOT.out]
        exact ⟨HGg.out.push HE1.out HV.out HGr.out HRh.out (HLC.out.imp id fun h => ⟨_, h, Nat.le_refl _⟩) hm hg2,
          Below.grown (Below.grown HKg.out HGr.out HKg.out.size (fun g hg => by have := ownsRow_ge HRg.out hg; omega)) hg2 (Nat.le_trans HKg.out.size HGr.out.size) (fun g hg => by injection hg with hg; omega)⟩)
      clear hm hg2
      refine hK.out _ _ ?_
      clear hK K
      try simp only [Act.put]
      refine sch_done ?_
      refine NoPanic.normal ?_
      clear hHeld HRh HGr HLC HMh HBh HGg HRg HBg HKg HNg HOg HGd HRd HBd HKd HV HLK HBM HVB HVX HOT
      go_wp2_with fail
      first
        | exact ⟨⟨k + 1, by omega, by go_num, Lib.hid ⟨_, HNX.out⟩⟩, by simp [intOf]; omega⟩
        | (go_roundw
           case rel => exact ⟨k + 1, by omega, by go_num, Lib.hid ⟨_, HNX.out⟩⟩
           case measure => simp [intOf]; omega)
    · have hJ : ¬ (k : Int) < (l.length : Int) := by omega
      obtain rfl : k = l.length := by omega
      rw [List.take_length] at hgm
      have HGM := Lib.hid hgm
      have HKP := Lib.hid hkeep
      clear hgm hkeep
      go_wp2_with (first | (at_range; refine wpList_range_own _ rfl _ 34 rfl 23 26 law64 Try.underlying34 _ w.heap.size l.length D rfl HGM.out.map ?_; intro w0 hrg0 hg0 hs0) | fail)
      try go_frame
      have H0 := Lib.hid (show MidG l w wr.heap.size l.length D (Go.Maps.size D) w0 from ⟨_, _, hrg0, HKP.out.size, HGM.out.kept hg0 (by simp) (fun _ _ _ _ => by cases Value.ownBlock _ <;> simp), Below.grown HKP.out hg0 HKP.out.size (fun g hg => by cases hg), fun k hk => by
        by_cases hh : Go.Maps.has D (kL k) = true
        · rw [if_pos hh]
        · rw [if_neg hh, HGM.out.gone hk (by simpa using hh)]
          exact ⟨List.Perm.refl _, List.Pairwise.nil⟩⟩)
      obtain ⟨r, hr⟩ : ∃ x, wr.heap.size = x := ⟨_, rfl⟩
      rw [hr] at H0 ⊢
      clear hrg0 hg0 hs0 HGM HKP hr
      go_loopw [7] (fun _ wy => ∃ cnt, Hid (MidG l w r l.length D cnt wy)) (fun _ wy => wy.rangeLeft w.heap.size r)
      case atStart => exact ⟨_, H0⟩
      case round =>
        clear H0
        obtain ⟨cnt, HM⟩ := hrel
        obtain ⟨left, G, hrg, hrl, hgm, hkp, hall⟩ := HM.out
        have HLE := Lib.hid hrg.left_eq
        have HRL := Lib.hid hrl
        clear hrl
        have HG := Lib.hid hgm
        have HK := Lib.hid hkp
        have HA := Lib.hid hall
        clear HM hgm hkp hall
        go_wp2_with (first | (at_next; refine wpList_next_tok _ rfl _ rfl w.heap.size r l.length D left cnt rfl hrg ?_ ?_) | fail)
        · intro hc0 hl0
          have HF := Lib.hid (HFIN.out w.heap.size _ _ D G wr HG.out (fun k hk => by have := HA.out k hk; rw [hl0] at this; simpa using this) HK.out)
          clear hc0 hl0 HA HG HK hrg HLE HFIN
          go_wp2_with fail
          exact HF.out
        · intro x v w1 cnt1 hx hlx hat hrg1 hlt hg1 hs1 hen
          have HG1 := Lib.hid (HG.out.kept hg1 (fun e => hrg.ne (by injection e with e; exact e.symm)) (fun k u hk hu => by
            obtain ⟨u', hu', ho⟩ := HG.out.row k hk
            rw [hu] at hu'
            injection hu' with hu'
            subst hu'
            exact ranges_far hrg ho))
          have HK1 := Lib.hid (Below.grown HK.out hg1 HK.out.size (fun g hg => by injection hg with hg; have := HRL.out; omega))
          have HGX := Lib.hid (show G x = outs l x from by have := HA.out x hx; rwa [if_pos hlx] at this)
          have HS := Lib.hid (show w1.ownsRow (w.heap.size + 1) 23 1 v (G x).length (nv (G x)) ∧ Calls Try.prog 14 #[v] w1 _ from by
            obtain ⟨v', hv', hro⟩ := HG1.out.row x hx
            rw [hat] at hv'
            injection hv' with hv'
            subst hv'
            exact ⟨hro, sort_own w1 (w.heap.size + 1) v (G x) hro (by rw [HGX.out]; have := outs_length l x; omega)⟩)
          have HR1 := Lib.hid hrg1
          have HX := Lib.hid (⟨hx, hat, hlt⟩ : x < 18446744073709551616 ∧ D.atKey (kL x) (.held nilS) = .held v ∧ cnt1 < cnt)
          clear hx hlx hat hrg1 hlt hg1 hs1 hrg HG HK
          go_wp2_with fail
          refine HS.out.2.mono ?_
          rintro e w2 ⟨rfl, l', hp, hso, ho, hg⟩
          have HNX := Lib.hid (show MidG l w r l.length D cnt1 w2 from by
            have hfar := ranges_far HR1.out HS.out.1
            have hge : ∀ g, v.ownBlock = some g → w.heap.size + 1 ≤ g := fun g hg => ownsRow_ge ho hg
            refine ⟨_, _, HR1.out.kept hg (fun e => ?_) (fun e => ?_), HRL.out, HG1.out.turn HX.out.1 HX.out.2.1 hg ho, Below.grown HK1.out hg HK1.out.size (fun g hg => by have := hge g hg; omega), fun k hk => ?_⟩
            · have := hge _ e.symm
              omega
            · rcases hfar with h1 | h1
              · rw [h1] at e; cases e
              · exact h1 e.symm
            · by_cases hkx : k = x
              · subst hkx
                rw [kL_same hk]
                simp only [decide_true, Bool.not_true, Bool.and_false, if_pos]
                rw [if_neg (by decide), ← HGX.out]
                exact ⟨hp, hso⟩
              · rw [kL_same hk, decide_eq_false hkx, Bool.not_false, Bool.and_true]
                simp only [if_neg hkx]
                exact HA.out k hk)
          have HMS := Lib.hid (show w2.rangeLeft w.heap.size r < wr.rangeLeft w.heap.size r from by
            obtain ⟨left', G', h1, _⟩ := HNX.out
            rw [h1.left_eq, HLE.out]
            exact HX.out.2.2)
          clear HS HR1 HX HG1 HK1 HGX HA hen hp hso ho hg
          go_wp2_with fail
          go_roundw
          case rel => exact ⟨cnt1, HNX⟩
          case measure => exact HMS.out
end Go.Proofs.Ytbkhojopiimbdaa
