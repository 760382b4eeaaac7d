/-
  Append onto numbers of the call's own, of numbers that lie anywhere; and the document's Copy.
-/
import Derived.Test.YtkcjhkhdpafjhaaLsnsRef
import Derived.StillTailTactics
import Derived.Great.BuildSlice
namespace Go.Proofs.Ytkcjhkhdpafjhaa
open Go.RowKit

section
variable {P : Program} {w : World}

/-- Append onto a row of the call's own, nil or not, of any numbers, nil ones too. -/
theorem run_own_nums (t ty : TypeId) (base : Nat) (e : TypeId) (i : TypeInfo) (ht : P.underlying t = some (.slice e)) (hi : P.info? e = some i) (hz : i.zero = some (.int .u64 0))
    (hsize : i.size = 1) (hby : i.bytes = 8) (v : Value) (n : Nat) (xs : List Value) (hown : w.ownsRow base e 1 v n xs)
    (A : Option Addr) (l : List Nat) (m c : Nat) (hm : l.length = m) (hr : RN w A l) (hA : A = none → c = 0) (h63 : n + m ≤ 100000) (hbase : base ≤ w.heap.size) :
    ∃ v' w', (Builtin.append_ #[t, t] ty #[v, .slice A m c]).run P w = .ok v' w' ∧ w'.ownsRow base e 1 v' (n + m) (xs ++ nv l) ∧ w.grownBy w' v.ownBlock := by
  subst hm
  cases A with
  | none =>
    obtain rfl := hr.none_nil
    obtain rfl := hA rfl
    have hrun := run_append_owned_none (P := P) (w := w) base t ty e i 1 ht hi v n xs hown
    exact ⟨v, w, hrun, by simpa [nv] using hown, only_refl w _⟩
  | some ad =>
    obtain ⟨v', w', hrun, h2, h3, _, _⟩ := run_append_own_at (P := P) (w := w) base t ty e i (.int .u64 0) 1 8 ht hi hz hsize hby rfl (by decide) v n xs hown ad l.length c (nv l) (by rw [nv_length, Nat.mul_one]) hr.news (nv_one l) (by unfold maxLen; omega) (by omega) hbase
    exact ⟨v', w', hrun, h2, h3⟩

theorem wpList_own_nums {ops : Array Oper} {rest : List Oper} {o : Oper} {a : Act} {Q : Exit → Act → World → Prop} (hgd : o.guard = none) (s x : Operand) (t : TypeId)
    (ho : o.op = .call { callee := .builtin .append, args := #[s, x], argTypes := #[t, t] })
    (base : Nat) (e : TypeId) (i : TypeInfo) (ht : P.underlying t = some (.slice e)) (hi : P.info? e = some i) (hz : i.zero = some (.int .u64 0))
    (hsize : i.size = 1) (hby : i.bytes = 8) (v : Value) (n : Nat) (xs : List Value) (hs : a.eval s = v) (hown : w.ownsRow base e 1 v n xs)
    (A : Option Addr) (l : List Nat) (m c : Nat) (hx : a.eval x = .slice A m c) (hm : l.length = m) (hr : RN w A l) (hA : A = none → c = 0) (h63 : n + m ≤ 100000) (hbase : base ≤ w.heap.size)
    (h : ∀ v' w', w'.ownsRow base e 1 v' (n + m) (xs ++ nv l) → w.grownBy w' v.ownBlock → wpList P ops Q rest (a.put o.dst v') w') : wpList P ops Q (o :: rest) a w := by
  refine wpList_plain hgd fun K hK => ?_
  obtain ⟨v', w', hr, h2, h3⟩ := run_own_nums (P := P) (w := w) t o.type base e i ht hi hz hsize hby v n xs hown A l m c hm hr hA h63 hbase
  unfold Oper.wp execOp
  simp only [ho, resolve, invoke, builtin, Sem.run_bind, Sem.run_pure, Result.andThen_ok, List.map_toArray, List.map_cons, List.map_nil, hs, hx, hr]
  exact hK _ _ (h v' w' h2 h3)

/-- The same at a step of a region that draws its order. -/
theorem step_own_nums {ops : Array Oper} {o : Oper} {a : Act} {K : Act → World → Prop} {Q : Exit → Act → World → Prop} {E : Prop} (hgd : o.guard = none) (s x : Operand) (t : TypeId)
    (ho : o.op = .call { callee := .builtin .append, args := #[s, x], argTypes := #[t, t] })
    (base : Nat) (e : TypeId) (i : TypeInfo) (ht : P.underlying t = some (.slice e)) (hi : P.info? e = some i) (hz : i.zero = some (.int .u64 0))
    (hsize : i.size = 1) (hby : i.bytes = 8) (v : Value) (n : Nat) (xs : List Value) (hs : a.eval s = v) (hown : w.ownsRow base e 1 v n xs)
    (A : Option Addr) (l : List Nat) (m c : Nat) (hx : a.eval x = .slice A m c) (hm : l.length = m) (hr : RN w A l) (hA : A = none → c = 0) (h63 : n + m ≤ 100000) (hbase : base ≤ w.heap.size)
    (h : ∀ v' w', w'.ownsRow base e 1 v' (n + m) (xs ++ nv l) → w.grownBy w' v.ownBlock → K (a.put o.dst v') w') :
    if Region.wanted o (yielded ops a.tmps) = true then Oper.wp P o a w K Q else E := by
  have hw : Region.wanted o (yielded ops a.tmps) = true := by simp [Region.wanted, hgd]
  rw [if_pos hw]
  obtain ⟨v', w', hr, h2, h3⟩ := run_own_nums (P := P) (w := w) t o.type base e i ht hi hz hsize hby v n xs hown A l m c hm hr hA h63 hbase
  unfold Oper.wp execOp
  simp only [ho, resolve, invoke, builtin, Sem.run_bind, Sem.run_pure, Result.andThen_ok, List.map_toArray, List.map_cons, List.map_nil, hs, hx, hr]
  exact h v' w' h2 h3
end

theorem Try.info_u64 : (Try.prog.info? 22).map (fun i => (i.zero, i.size, i.bytes)) = some (some (.int .u64 0), 1, 8) := by kernel_rfl
theorem Try.info64 : ∃ i, Try.prog.info? 22 = some i ∧ i.zero = some (.int .u64 0) ∧ i.size = 1 ∧ i.bytes = 8 := info_parts Try.info_u64

/-- Numbers in memory of the call's own; nothing that was there ahead of it has turned. -/
def Made (w : World) (l : List Nat) (v : Value) (wr : World) : Prop := wr.ownsRow w.heap.size 22 1 v l.length (nv l) ∧ Below w.heap.size w wr

theorem Made.nil (w wr : World) (h : Below w.heap.size w wr) : Made w [] (.slice none 0 0) wr := ⟨⟨by simp [nv], .inl ⟨rfl, rfl⟩⟩, h⟩
theorem ownsRow_own {w : World} {base n : Nat} {v : Value} {l : List Nat} (h : w.ownsRow base 22 1 v n (nv l)) :
    l.length = n ∧ ∃ A c, v = .slice A n c ∧ n ≤ c ∧ (A = none → c = 0) ∧ Own base w A l := by
  obtain ⟨hl, hc⟩ := h
  have hl : l.length = n := by rw [nv_length, Nat.mul_one] at hl; exact hl
  refine ⟨hl, ?_⟩
  rcases hc with ⟨rfl, rfl⟩ | ⟨g, cap, cur, rfl, hb, hg, hc, _, _, ht⟩
  · exact ⟨none, 0, rfl, Nat.le_refl _, fun _ => rfl, fun h0 => by omega⟩
  · rw [Nat.mul_one] at ht
    refine ⟨some ⟨g, 0, none⟩, cap, rfl, hc, (fun e => by cases e), fun _ => ⟨22, g, 0, cur.toList, rfl, hb, hg, fun j hj => ?_⟩⟩
    rw [Nat.zero_add, ← ht, List.getElem?_take, if_pos (by omega)]
theorem Made.own {w wr : World} {l : List Nat} {v : Value} (h : Made w l v wr) : ∃ A c, v = .slice A l.length c ∧ l.length ≤ c ∧ (A = none → c = 0) ∧ Own w.heap.size wr A l ∧ Below w.heap.size w wr := by
  obtain ⟨_, A, c, hv, hc, hn, ho⟩ := ownsRow_own h.1
  exact ⟨A, c, hv, hc, hn, ho, h.2⟩
theorem ownBlock_ge {w : World} {base n : Nat} {e : TypeId} {v : Value} {xs : List Value} (h : w.ownsRow base e 1 v n xs) : ∀ k, v.ownBlock = some k → base ≤ k := by
  intro k hk
  rcases h.2 with ⟨rfl, _⟩ | ⟨g, cap, cur, rfl, hb, _⟩
  · cases hk
  · obtain rfl : g = k := by simpa [Value.ownBlock] using hk
    exact hb

theorem Made.more {w wr w' : World} {l l' : List Nat} {v v' : Value} {m : Nat} (h : Made w l v wr) (hm : l'.length = m) (h1 : w'.ownsRow w.heap.size 22 1 v' (l.length + m) (nv l ++ nv l')) (hg : wr.grownBy w' v.ownBlock) : Made w (l ++ l') v' w' := by
  subst hm
  refine ⟨by rw [List.length_append, nv_append]; exact h1, h.2.grown hg h.2.size (ownBlock_ge h.1)⟩
/-- What lies apart is not touched by one's own writes. -/
theorem Made.keepRow {w wr : World} {l : List Nat} {v : Value} (h : Made w l v wr) (o : Obj) : Made w l v (wr.alloc o) := by
  refine ⟨?_, h.2.alloc h.2.size o⟩
  obtain ⟨hl, hc⟩ := h.1
  refine ⟨hl, ?_⟩
  rcases hc with ⟨rfl, h0⟩ | ⟨g, cap, cur, rfl, hb, hg, rest⟩
  · exact .inl ⟨rfl, h0⟩
  · exact .inr ⟨g, cap, cur, rfl, hb, Row.alloc (cs := cur.toList) hg o, rest⟩
theorem Made.drewN {w wr : World} {l : List Nat} {v : Value} (h : Made w l v wr) (n : Nat) : Made w l v (wr.drewN n) := ⟨h.1, ⟨h.2.os, h.2.tape, h.2.output, h.2.size, h.2.block⟩⟩

theorem Made.drew {w wr : World} {l : List Nat} {v : Value} (h : Made w l v wr) : Made w l v wr.drew := ⟨h.1, ⟨h.2.os, h.2.tape, h.2.output, h.2.size, h.2.block⟩⟩
theorem Made.setRow {w wr : World} {l : List Nat} {v : Value} (h : Made w l v wr) {g : Nat} {old : List Value} {m : Nat × Nat} (hg : Row wr g 25 old m) (hw : w.heap.size ≤ g) (cs : Array Value) : Made w l v (wr.setRow g cs) := by
  refine ⟨⟨h.1.1, ?_⟩, below_setRow h.2 hw cs⟩
  rcases h.1.2 with ⟨rfl, h0⟩ | ⟨k, cap, cur, rfl, hb, hk, rest⟩
  · exact .inl ⟨rfl, h0⟩
  · have hne : k ≠ g := Row.ne_ (cs := cur.toList) hk hg (by decide)
    exact .inr ⟨k, cap, cur, rfl, hb, by rw [setRow_other wr g k cs hne]; exact hk, rest⟩
theorem Made.setCell {w wr : World} {l : List Nat} {v : Value} (h : Made w l v wr) {g : Nat} {old : List Value} {m : Nat × Nat} (hg : Row wr g 25 old m) (hw : w.heap.size ≤ g) (i : Nat) (u : Value) : Made w l v (wr.setCell ⟨g, i, none⟩ u) := by
  refine ⟨⟨h.1.1, ?_⟩, h.2.setCell hw u⟩
  rcases h.1.2 with ⟨rfl, h0⟩ | ⟨k, cap, cur, rfl, hb, hk, rest⟩
  · exact .inl ⟨rfl, h0⟩
  · have hne : k ≠ g := Row.ne_ (cs := cur.toList) hk hg (by decide)
    exact .inr ⟨k, cap, cur, rfl, hb, Row.far (cs := cur.toList) hk hne u, rest⟩
/-- A set has been laid into a block of the call's own. -/
theorem Made.laid {w wr : World} {l : List Nat} {v : Value} (h : Made w l v wr) {g : Nat} {u1 u2 : Value} (hg : Row wr g 25 [u1, u2] (0, 0)) (hw : w.heap.size ≤ g) (u u' : Value) :
    Row ((wr.setCell ⟨g, 0, none⟩ u).setCell ⟨g, 1, none⟩ u') g 25 [u, u'] (0, 0) ∧ Made w l v ((wr.setCell ⟨g, 0, none⟩ u).setCell ⟨g, 1, none⟩ u') :=
  ⟨(hg.put 0 u).put 1 u', (h.setCell hg hw 0 u).setCell (hg.put 0 u) hw 1 u'⟩
theorem Made.one {w wr : World} {l : List Nat} {v : Value} (h : Made w l v wr) : v.oneCell' = true := by
  obtain ⟨A, c, rfl, _⟩ := h.own
  rfl
theorem Row.setRow {w : World} {g : Nat} {t : TypeId} {old cs : List Value} {m : Nat × Nat} (h : Row w g t old m) : Row (w.setRow g cs.toArray) g t cs m := setRow_heap w g old.toArray cs.toArray t m h
theorem Row.setRowFar {w : World} {g k : Nat} {t : TypeId} {old : List Value} {m : Nat × Nat} (h : Row w k t old m) (hk : k ≠ g) (cs : Array Value) : Row (w.setRow g cs) k t old m := (setRow_other w g k cs hk).trans h

theorem Try.size_ls : (Try.prog.info? 25).map (·.size) = some 2 := by kernel_rfl

/-- A set is stored whole into a block that is one's own. -/
theorem wpList_store_ls {ops : Array Oper} {rest : List Oper} {o : Oper} {a : Act} {w : World} {Q : Exit → Act → World → Prop} (hgd : o.guard = none) (x y : Operand) (ho : o.op = .store 25 x y)
    (hd : o.dst = none) (g : Nat) (k : Int) (v : Value) (hx : a.eval x = .pointer (some ⟨g, 0, none⟩)) (hy : a.eval y = .agg #[.int .u64 k, v]) (hv : v.oneCell' = true)
    (u1 u2 : Value) (hg : Row w g 25 [u1, u2] (0, 0))
    (h : wpList Try.prog ops Q rest a (w.setRow g #[.int .u64 k, v])) : wpList Try.prog ops Q (o :: rest) a w :=
  wpList_store_rowTo hgd 25 x y ho hd g #[.int .u64 k, v] hx hy 25 #[u1, u2] hg Try.size_ls rfl (by
    rw [Array.all_eq_true_iff_forall_mem]
    intro u hu
    simp at hu
    rcases hu with rfl | rfl
    · rfl
    · exact hv) h

set_option maxRecDepth 100000 in
set_option maxHeartbeats 1000000 in
theorem rcopy_any (x : LV) (w : World) (h : x.In w) (hn : x.n ≤ 50000) :
    Calls Try.prog 20 #[x.v] w fun r w' => ∃ v, r = .returned (.agg #[.int .u64 (x.low : Int), v]) ∧ Made w x.l v w' := by
  obtain ⟨i0, hi0, hz0, hz1, hz2⟩ := Try.info64
  obtain ⟨low, A, n, c, l⟩ := x
  obtain ⟨hl, hc, hnil, HR⟩ := h.parts
  clear h
  simp only [LV.v] at hn ⊢
  subst hl
  have HN := Lib.hid ((below_new w (.cells #[.int .u64 (low : Int), .slice A l.length c] 25)).trans ((below_new _ (.cells #[.int .u64 0, .slice none 0 0] 25)).mono (by rw [size_new]; omega)))
  have HR := Lib.hid ((HR.out.alloc (.cells #[.int .u64 (low : Int), .slice A l.length c] 25)).alloc (.cells #[.int .u64 0, .slice none 0 0] 25))
  have HL := Lib.hid (Row.alloc (LiesS.new w low A l.length c) (.cells #[.int .u64 0, .slice none 0 0] 25))
  have HO := Lib.hid (Row.new (w.alloc (.cells #[.int .u64 (low : Int), .slice A l.length c] 25)) 25 [.int .u64 0, .slice none 0 0] (0, 0))
  rw [size_new] at HO
  have HA := Lib.hid hnil
  clear hnil
  obtain ⟨W, hW⟩ : ∃ W, (w.alloc (.cells #[.int .u64 (low : Int), .slice A l.length c] 25)).alloc (.cells #[.int .u64 0, .slice none 0 0] 25) = W := ⟨_, rfl⟩
  rw [hW] at HN HR HL
  have HO := Lib.hid (show Row W (w.heap.size + 1) 25 [.int .u64 0, .slice none 0 0] (0, 0) by rw [← hW]; exact HO.out)
  have c0 := LiesS.c0 HL.out
  have c1 := LiesS.c1 HL.out
  go_enter Try.func20, Try.ntmps20
  go_wp2_with fail
  clear hW
  have HG := Lib.hid (fun (v : Value) (w2 : World) (hown : w2.ownsRow w.heap.size 22 1 v (0 + l.length) ([] ++ nv l)) (hgr : W.drew.grownBy w2 none) =>
    show ∃ A2 c2, v = .slice A2 l.length c2 ∧ w2.cell? ⟨w.heap.size, 0, none⟩ = some (.int .u64 (low : Int)) ∧ w2.cell? ⟨w.heap.size + 1, 0, none⟩ = some (.int .u64 0) ∧ w2.cell? ⟨w.heap.size + 1, 1, none⟩ = some (.slice none 0 0) ∧ w2.frozen? ⟨w.heap.size + 1, 0, none⟩ = false ∧ w2.frozen? ⟨w.heap.size + 1, 1, none⟩ = false ∧ Made w l (.slice A2 l.length c2) w2 ∧ Row w2 (w.heap.size + 1) 25 [.int .u64 0, .slice none 0 0] (0, 0) from by
      have hM := Made.more (Made.nil w W HN.out).drew rfl (by simpa [nv] using hown) hgr
      rw [List.nil_append] at hM
      obtain ⟨A2, c2, hv, _⟩ := hM.own
      subst hv
      have k1 := Row.grown (w := W.drew) HO.out hgr (by simp)
      have k2 := Row.grown (w := W.drew) HL.out hgr (by simp)
      exact ⟨A2, c2, rfl, LiesS.c0 k2, by rw [k1.cell]; rfl, by rw [k1.cell]; rfl, k1.loose 0, k1.loose 1, hM, k1⟩)
  have HMN := Lib.hid (Made.nil w W HN.out).drew.1
  have HRD := Lib.hid (HR.out.keeps (w' := W.drew) ⟨rfl, rfl, rfl, Nat.le_refl _, fun _ _ => rfl⟩)
  have HSZ := Lib.hid HN.out.size
  go_region_law (refine step_own_nums rfl (.tmp 6) (.tmp 8) 23 rfl w.heap.size 22 i0 Try.underlying23 hi0 hz0 hz1 hz2 (.slice none 0 0) 0 [] (by simp [Act.eval]) HMN.out A l l.length c (by simp [Act.eval]) rfl HRD.out HA.out (by omega) HSZ.out ?_; intro v w2 hown hgr; obtain ⟨A2, c2, rfl, k0, z0, z1, f0, f1, HM, HO2⟩ := HG.out v w2 hown hgr; clear hown hgr)
  all_goals
    go_wp2
    obtain ⟨hr, hm⟩ := HM.laid HO2 (by omega) (.int .u64 (low : Int)) (.slice A2 l.length c2)
    exact bodyPost_ret (v := .agg #[.int .u64 (low : Int), .slice A2 l.length c2]) (results_cell_row (by rfl) _ _ (w.heap.size + 1) _ _ (0, 0) _ (by rfl) hr Try.underlying25 rfl Try.size_ls) rfl ⟨_, rfl, hm⟩

end Go.Proofs.Ytkcjhkhdpafjhaa
