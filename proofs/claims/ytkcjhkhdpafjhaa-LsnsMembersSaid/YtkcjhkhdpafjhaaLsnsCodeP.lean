/-
  The walks over package lsns: Put.
-/
import Derived.Test.YtkcjhkhdpafjhaaLsnsCodeA
import Derived.Test.YtkcjhkhdpafjhaaLsnsLaw
import Derived.Test.YtkcjhkhdpafjhaaLsnsOctA
import Derived.Shelf.Abstract
namespace Go.Proofs.Ytkcjhkhdpafjhaa
open Go.RowKit

/-- A call of a Go function as a step of a region that draws its order. -/
theorem step_call {P : Program} {ops : Array Oper} {o : Oper} {a : Act} {w : World} {K : Act → World → Prop} {Q : Exit → Act → World → Prop} {E : Prop} (hgd : o.guard = none) (f : FuncId) (args : Array Operand) (ts : Array TypeId)
    (ho : o.op = .call { callee := .value (.func f), args := args, argTypes := ts }) (vals : Array Value) (hv : args.map a.eval = vals) (he : Enters P f) {R : Ending → World → Prop} (hc : Calls P f vals w R)
    (h : ∀ e w', R e w' → ∃ v, e = .returned v ∧ K (a.put o.dst v) w') : if Region.wanted o (yielded ops a.tmps) = true then Oper.wp P o a w K Q else E := by
  have hw : Region.wanted o (yielded ops a.tmps) = true := by simp [Region.wanted, hgd]
  rw [if_pos hw]
  have hex : (execOp a.eval o).run P w = .ok (.enter f vals) w := by
    have e1 := he vals w
    have ef : a.eval (.func f) = .func (.func f) #[] #[] := rfl
    simp [execOp, ho, resolve, invoke, ef, hv, Deferred.ofValue, e1]
  unfold Oper.wp
  rw [hex, Oper.upon_enter]
  refine hc.mono fun e w' hr => ?_
  obtain ⟨v, rfl, hk⟩ := h e w' hr
  exact hk

theorem enters_put : Enters Try.prog 42 := enters_of Try.func42 (by kernel_rfl) rfl

/-- In the midst of Put: bytes of the call's own, told by a variable. -/
structure PutS (w0 : World) (g : Nat) (L : List UInt8) (b n c : Nat) (wr : World) : Prop where
  own : wr.ownsRow w0.heap.size 5 1 (.slice (some ⟨b, 0, none⟩) n c) n (byt L)
  var : Row wr g 44 [.slice (some ⟨b, 0, none⟩) n c] (0, 0)
  up : w0.heap.size ≤ g
  below : Below w0.heap.size w0 wr

theorem PutS.len {w0 wr : World} {g b n c : Nat} {L : List UInt8} (h : PutS w0 g L b n c wr) : L.length = n := by
  have := h.own.1
  rwa [byt_length, Nat.mul_one] at this
theorem ownsRow_far {t : TypeId} {base : Nat} {v : Value} {n : Nat} {xs : List Value} {w w' : World} {B : Nat} (h : w.ownsRow base t 1 v n xs) (hb : Below B w w') (hB : w.heap.size ≤ B) : w'.ownsRow base t 1 v n xs := by
  refine ⟨h.1, ?_⟩
  rcases h.2 with h0 | ⟨k, cap, cur, rfl, h1, hk, rest⟩
  · exact .inl h0
  · exact .inr ⟨k, cap, cur, rfl, h1, Row.below (cs := cur.toList) hk hb (Nat.lt_of_lt_of_le (Row.lt (cs := cur.toList) hk) hB), rest⟩
theorem PutS.keeps {w0 wr w' : World} {g b n c : Nat} {L : List UInt8} (h : PutS w0 g L b n c wr) (hb : Below wr.heap.size wr w') : PutS w0 g L b n c w' :=
  ⟨ownsRow_far h.own hb (Nat.le_refl _), h.var.below hb h.var.lt, h.up, h.below.trans (hb.mono h.below.size)⟩
theorem PutS.ne {w0 wr : World} {g b n c : Nat} {L : List UInt8} (h : PutS w0 g L b n c wr) : some g ≠ some b := by
  rcases h.own.2 with ⟨e, _⟩ | ⟨k, cap, cur, e, _, hk, _⟩
  · cases e
  · simp only [Value.slice.injEq, Option.some.injEq, Addr.mk.injEq] at e
    obtain ⟨⟨rfl, _⟩, _⟩ := e
    intro e2
    injection e2 with e2
    exact Row.ne_ (cs' := cur.toList) h.var hk (by decide) e2

/-- Cells to be appended, out of bytes that lie anywhere. -/
theorem reads_news {T : TypeId} {w : World} {ad : Addr} {l : List UInt8} (h : Reads T w (some ad) l) : ∀ j u, (byt l)[j]? = some u → w.cell? (ad.add j) = some u := by
  intro j u hu
  have hj : j < l.length := by
    have := (List.getElem?_eq_some_iff.1 hu).1
    rwa [byt_length] at this
  obtain ⟨g, off, cs, m, hA, hrow, hc⟩ := h (by omega)
  obtain rfl := Option.some.inj hA
  rw [Addr.add_lit, hrow.cell, hc j hj, hu]

section
variable {P : Program} {w : World}

/-- Append onto a row of the call's own that is not nil: the row, or a new one. -/
theorem run_own (t ty : TypeId) (base : Nat) (e : TypeId) (i : TypeInfo) (z : Value) (ht : P.underlying t = some (.slice e)) (hi : P.info? e = some i) (hz : i.zero = some z)
    (hsize : i.size = 1) (hby : i.bytes = 1) (hzs : z.cells.size = 1) (g0 n c0 : Nat) (xs : List Value) (hown : w.ownsRow base e 1 (.slice (some ⟨g0, 0, none⟩) n c0) n xs)
    (ad : Addr) (m c : Nat) (news : List Value) (hl : news.length = m) (hnews : ∀ j u, news[j]? = some u → w.cell? (ad.add j) = some u) (h1 : ∀ u ∈ news, u.oneCell' = true)
    (h63 : n + m ≤ 100000) (hbase : base ≤ w.heap.size) :
    ∃ g cap w', (Builtin.append_ #[t, t] ty #[.slice (some ⟨g0, 0, none⟩) n c0, .slice (some ad) m c]).run P w = .ok (.slice (some ⟨g, 0, none⟩) (n + m) cap) w' ∧
      w'.ownsRow base e 1 (.slice (some ⟨g, 0, none⟩) (n + m) cap) (n + m) (xs ++ news) ∧ w.grownBy w' (some g0) := by
  obtain ⟨v', w', hr, h2, h3, h4, _⟩ := run_append_own_at (P := P) w base t ty e i z 1 1 ht hi hz hsize hby hzs (by decide) _ n xs hown ad m c news (by rw [hl, Nat.mul_one]) hnews h1 (by unfold maxLen; omega) (by omega) hbase
  have hv : v' ≠ .slice none 0 0 := fun h => by
    have := (h4.1 h).1
    cases this
  obtain ⟨g, cap, rfl⟩ : ∃ g cap, v' = .slice (some ⟨g, 0, none⟩) (n + m) cap := by
    rcases h2.2 with ⟨h0, _⟩ | ⟨g, cap, cur, hv', _⟩
    · exact absurd h0 hv
    · exact ⟨g, cap, hv'⟩
  exact ⟨g, cap, w', hr, h2, h3⟩

/-- The same at a step of a region that draws its order. -/
theorem step_own {ops : Array Oper} {o : Oper} {a : Act} {K : Act → World → Prop} {Q : Exit → Act → World → Prop} {E : Prop} (hgd : o.guard = none) (s x : Operand) (t : TypeId)
    (ho : o.op = .call { callee := .builtin .append, args := #[s, x], argTypes := #[t, t] })
    (base : Nat) (e : TypeId) (i : TypeInfo) (z : Value) (ht : P.underlying t = some (.slice e)) (hi : P.info? e = some i) (hz : i.zero = some z)
    (hsize : i.size = 1) (hby : i.bytes = 1) (hzs : z.cells.size = 1) (g0 n c0 : Nat) (xs : List Value) (hs : a.eval s = .slice (some ⟨g0, 0, none⟩) n c0) (hown : w.ownsRow base e 1 (.slice (some ⟨g0, 0, none⟩) n c0) n xs)
    (ad : Addr) (m c : Nat) (news : List Value) (hx : a.eval x = .slice (some ad) m c) (hl : news.length = m) (hnews : ∀ j u, news[j]? = some u → w.cell? (ad.add j) = some u) (h1 : ∀ u ∈ news, u.oneCell' = true)
    (h63 : n + m ≤ 100000) (hbase : base ≤ w.heap.size)
    (h : ∀ g cap w', w'.ownsRow base e 1 (.slice (some ⟨g, 0, none⟩) (n + m) cap) (n + m) (xs ++ news) → w.grownBy w' (some g0) → K (a.put o.dst (.slice (some ⟨g, 0, none⟩) (n + m) cap)) w') :
    if Region.wanted o (yielded ops a.tmps) = true then Oper.wp P o a w K Q else E := by
  have hw : Region.wanted o (yielded ops a.tmps) = true := by simp [Region.wanted, hgd]
  rw [if_pos hw]
  obtain ⟨g, cap, w', hr, h2, h3⟩ := run_own (P := P) (w := w) t o.type base e i z ht hi hz hsize hby hzs g0 n c0 xs hown ad m c news hl hnews h1 h63 hbase
  unfold Oper.wp execOp
  simp only [ho, resolve, invoke, builtin, Sem.run_bind, Sem.run_pure, Result.andThen_ok, List.map_toArray, List.map_cons, List.map_nil, hs, hx, hr]
  exact h g cap w' h2 h3
end


set_option maxRecDepth 100000 in
set_option maxHeartbeats 2000000 in
/-- The closure of Put: a number's bytes more. -/
theorem write_any (w0 wr : World) (g b n c : Nat) (L : List UInt8) (m k : Nat) (h : PutS w0 g L b n c wr) (hk : isW k = true) (hL : n + 8 ≤ 100000) :
    Calls Try.prog 41 #[.int .u64 (m : Int), .int .i64 (k : Int), .pointer (some ⟨g, 0, none⟩)] wr fun e w' => e = .returned (.tuple #[]) ∧ ∃ b' c', PutS w0 g (L ++ be m k) b' (n + k) c' w' := by
  obtain ⟨i0, hi0, hz0, hz1, hz2⟩ := info_parts Try.info_u8
  have hk8 : k ≤ 8 := by have := isW_cases hk; omega
  have HP := Lib.hid (put_wide none [] 0 m k wr.drew Reads.nil (by simp) hk)
  simp only [List.length_nil, Nat.zero_add, List.nil_append] at HP
  have HS0 := Lib.hid (h.keeps (w' := wr.drew) ⟨rfl, rfl, rfl, Nat.le_refl _, fun _ _ => rfl⟩)
  have c0 : wr.cell? ⟨g, 0, none⟩ = some (.slice (some ⟨b, 0, none⟩) n c) := by rw [h.var.cell]; rfl
  have HSW := Lib.hid (show (wr.drew).heap.size = wr.heap.size from rfl)
  clear h
  have HA := Lib.hid (fun (w1 : World) (hb1 : Below wr.drew.heap.size wr.drew w1) => show PutS w0 g L b n c w1 ∧ w1.cell? ⟨g, 0, none⟩ = some (.slice (some ⟨b, 0, none⟩) n c) from by
    have h1 := HS0.out.keeps hb1
    exact ⟨h1, by rw [h1.var.cell]; rfl⟩)
  have HB := Lib.hid (fun (w1 w2 : World) (g2 c2 : Nat) (h1 : PutS w0 g L b n c w1) (hown : w2.ownsRow w0.heap.size 5 1 (.slice (some ⟨g2, 0, none⟩) (n + k) c2) (n + k) (byt L ++ byt (be m k))) (hgr : w1.grownBy w2 (some b)) =>
    show w2.cell? ⟨g, 0, none⟩ = some (.slice (some ⟨b, 0, none⟩) n c) ∧ w2.frozen? ⟨g, 0, none⟩ = false ∧ PutS w0 g (L ++ be m k) g2 (n + k) c2 (w2.setCell ⟨g, 0, none⟩ (.slice (some ⟨g2, 0, none⟩) (n + k) c2)) from by
    have hr := h1.var.grown hgr h1.ne
    rw [← byt_append] at hown
    have hown2 := hown
    have hne : g2 ≠ g := by
      rcases hown.2 with ⟨e, _⟩ | ⟨k2, cap, cur, e, _, hk2, _⟩
      · cases e
      · simp only [Value.slice.injEq, Option.some.injEq, Addr.mk.injEq] at e
        obtain ⟨⟨rfl, _⟩, _⟩ := e
        exact Row.ne_ (cs := cur.toList) hk2 hr (by decide)
    have hbb : w0.heap.size ≤ b := by
      rcases h1.own.2 with ⟨e, _⟩ | ⟨k2, cap, cur, e, hb2, _, _⟩
      · cases e
      · simp only [Value.slice.injEq, Option.some.injEq, Addr.mk.injEq] at e
        obtain ⟨⟨rfl, _⟩, _⟩ := e
        exact hb2
    refine ⟨by rw [hr.cell]; rfl, hr.loose 0, ⟨hown2.1, ?_⟩, hr.put 0 _, h1.up, (h1.below.grown hgr h1.below.size (fun k2 hk2 => by injection hk2 with hk2; omega)).setCell h1.up _⟩
    rcases hown2.2 with ⟨e, _⟩ | ⟨k2, cap, cur, e, hb2, hk2, rest⟩
    · cases e
    · simp only [Value.slice.injEq, Option.some.injEq, Addr.mk.injEq] at e
      obtain ⟨⟨rfl, _⟩, _, rfl⟩ := e
      exact .inr ⟨_, _, cur, rfl, hb2, Row.far (cs := cur.toList) hk2 hne _, rest⟩)
  go_enter Try.func41, Try.ntmps41
  go_wp2_with fail
  go_region_law (first
    | (refine step_call rfl 42 #[.const (.slice none 0 0), .tmp 6, .tmp 7] _ (by rfl) #[.slice none 0 0, .int .u64 (m : Int), .int .i64 (k : Int)] (by simp [Act.eval, Act.put]) enters_put HP.out ?_; rintro e w1 ⟨rfl, hb1, hrow1⟩; obtain ⟨hp1, k1⟩ := HA.out w1 hb1; refine ⟨_, rfl, ?_⟩)
    | (refine step_own rfl (.tmp 5) (.tmp 8) 44 rfl w0.heap.size 5 i0 _ Try.underlying44 hi0 hz0 hz1 hz2 rfl b n c _ (by rfl) hp1.own ⟨wr.heap.size, 0, none⟩ k k (byt (be m k)) (by rfl) (by rw [byt_length, be_length]) (reads_news (T := 5) (fun _ => ⟨_, _, _, _, rfl, hrow1, fun j _ => by rw [Nat.zero_add]⟩)) (byt_one _) (by omega) hp1.below.size ?_; intro g2 c2 w2 hown hgr; obtain ⟨k2, f2, hp2⟩ := HB.out _ w2 g2 c2 hp1 hown hgr; clear hown hgr))
  all_goals
    go_wp2
    go_end0
    exact ⟨rfl, _, _, hp2⟩

/-- make of bytes, none of them told yet. -/
theorem make_room (n : Nat) (hn : n ≤ 100000) (w : World) : (Instr.makeSlice 44 (.int .i64 0) (.int .i64 (n : Int))).run Try.prog w = .ok (.slice (some ⟨w.heap.size, 0, none⟩) 0 n) (w.alloc (.cells (byt (List.replicate n 0)).toArray 5)) := by
  obtain ⟨i0, hi0, hz0, hz1, hz2⟩ := info_parts Try.info_u8
  have h := run_make (P := Try.prog) w 44 5 i0 _ Try.underlying44 hi0 hz0 .i64 .i64 0 n (by omega) (by omega) (by rw [hz2]; omega) (by omega)
  rw [h, hz1, Int.toNat_natCast, Nat.mul_one, madeCells_zero]
  rfl

set_option maxRecDepth 100000 in
set_option maxHeartbeats 400000 in
theorem size_any (n : Nat) (hn : n ≤ 100000) (w : World) : Calls Try.prog 40 #[.int .i64 (n : Int)] w fun e w' => e = .returned (.int .i64 ((10 + n * 8 : Nat) : Int)) ∧ w = w' := by
  have e : ((10 + n * 8 : Nat) : Int) = 10 + (n : Int) * 8 := by omega
  rw [e]
  clear e
  go_enter Try.func40, Try.ntmps40
  go_wp2
  go_ret
  exact ⟨rfl, rfl⟩

/-- What has been written behind so many numbers. -/
def putL (low : Nat) (l : List Nat) (k : Nat) : List UInt8 := be low 8 ++ be l.length 2 ++ (l.take k).flatMap (fun n => be n 8)
theorem putL_succ (low : Nat) (l : List Nat) (k : Nat) (h : k < l.length) : putL low l (k + 1) = putL low l k ++ be l[k] 8 := by
  unfold putL
  rw [List.take_succ_eq_append_getElem h, List.flatMap_append, ← List.append_assoc]
  simp
theorem putL_all (low : Nat) (l : List Nat) : putL low l l.length = LS.bytes ⟨low, l⟩ := by
  unfold putL LS.bytes
  rw [List.take_length]

/-- The variable of Put, as it is made. -/
theorem PutS.start (w1 : World) (n : Nat) (hn : n ≤ 100000) : PutS w1 (w1.heap.size + 1) [] w1.heap.size 0 n ((w1.alloc (.cells (byt (List.replicate n 0)).toArray 5)).alloc (.cells #[.slice (some ⟨w1.heap.size, 0, none⟩) 0 n] 44)) := by
  refine ⟨(World.ownsRow_made w1 _ n (Nat.le_refl _) (by unfold maxLen; omega) (by simp [byt])).alloc _, ?_, by omega, (below_new w1 _).alloc (by rw [size_new]; omega) _⟩
  have := Row.new (w1.alloc (.cells (byt (List.replicate n 0)).toArray 5)) 44 [.slice (some ⟨w1.heap.size, 0, none⟩) 0 n] (0, 0)
  rw [size_new] at this
  exact this
/-- What Put tells, out of its variable. -/
theorem PutS.told {w w1 wr : World} {g b n c : Nat} {L : List UInt8} (h : PutS w1 g L b n c wr) (hb : Below w.heap.size w w1) : n ≤ c ∧ Reads 5 wr (some ⟨b, 0, none⟩) L ∧ Below w.heap.size w wr := by
  obtain ⟨hl, ⟨e, _⟩ | ⟨k, cap, cur, e, hb2, hg, hc, _, _, ht⟩⟩ := h.own
  · cases e
  · simp only [Value.slice.injEq, Option.some.injEq, Addr.mk.injEq] at e
    obtain ⟨⟨rfl, _⟩, _, rfl⟩ := e
    rw [byt_length, Nat.mul_one] at hl
    rw [Nat.mul_one] at ht
    refine ⟨hc, fun _ => ⟨_, 0, cur.toList, (0, 0), rfl, hg, fun j hj => ?_⟩, hb.trans (h.below.mono hb.size)⟩
    rw [Nat.zero_add, ← ht, List.getElem?_take, if_pos (by omega)]

set_option maxRecDepth 100000 in
set_option maxHeartbeats 4000000 in
theorem put_any (x : LV) (w : World) (h : x.In w) (hn : x.n ≤ 1100) : Calls Try.prog 27 #[.agg #[.int .u64 (x.low : Int), .slice x.A x.n x.c]] w (GotB w x.s.putB x.s.putE) := by
  have HX := Lib.hid (fun w (h : x.In w) => right_any x w h (by omega))
  have HI := Lib.hid (h.alloc (.cells #[.int .u64 (x.low : Int), .slice x.A x.n x.c] 25))
  have HE := Lib.hid (show x.s.putE = if x.s.right then 0 else 40 from rfl)
  have HZ := Lib.hid (show x.s.putB = if x.s.right then x.s.bytes else [] from rfl)
  have HRI := Lib.hid (LS.right_iff x.s).1
  obtain ⟨Z, hZ⟩ : ∃ Z, x.s.putB = Z := ⟨_, rfl⟩
  obtain ⟨E, hE⟩ : ∃ E, x.s.putE = E := ⟨_, rfl⟩
  rw [hZ] at HZ ⊢
  rw [hE] at HE ⊢
  clear hZ hE
  obtain ⟨b, hb⟩ : ∃ b, x.s.right = b := ⟨_, rfl⟩
  rw [hb] at HX HE HZ HRI
  clear hb
  obtain ⟨low, A, n, c, l⟩ := x
  obtain ⟨hl, hc, hnil, HR⟩ := h.parts
  clear h hc hnil HR
  simp only [LV.v, LV.s] at hn HI HX HZ HRI ⊢
  subst hl
  have HN := Lib.hid (below_new w (.cells #[.int .u64 (low : Int), .slice A l.length c] 25))
  have HL := Lib.hid (LiesS.new w low A l.length c)
  go_enter Try.func27, Try.ntmps27
  go_wp2_with fail
  refine (HX.out _ HI.out).mono ?_
  rintro e w1 ⟨rfl, hb1⟩
  have HL1 := Lib.hid (HL.out.keeps hb1)
  have HI1 := Lib.hid (HI.out.keeps hb1)
  have HN1 := Lib.hid (HN.out.trans (hb1.mono HN.out.size))
  clear hb1 HI HX HL HN
  cases b
  · have e1 : E = 40 := HE.out
    have e2 : Z = [] := HZ.out
    subst e1
    subst e2
    clear HE HZ
    go_wp2
    go_ret2
    exact ⟨none, 0, rfl, Nat.le_refl _, fun _ => rfl, Reads.nil, HN1.out⟩
  · have hri := HRI.out (by trivial)
    have hlen : l.length ≤ 1000 := hri.1
    clear hri HRI
    have e1 : E = 0 := HE.out
    have e2 : Z = LS.bytes ⟨low, l⟩ := HZ.out
    subst e1
    subst e2
    clear HE HZ
    have HSZ := Lib.hid (fun w => size_any l.length (by omega) w)
    obtain ⟨C, hC⟩ : ∃ C, 10 + l.length * 8 = C := ⟨_, rfl⟩
    rw [hC] at HSZ
    have hC2 : C ≤ 100000 := by omega
    clear hC
    have hmk := make_room C hC2
    have HL2 := Lib.hid (show LiesS ((w1.alloc (.cells (byt (List.replicate C 0)).toArray 5)).alloc (.cells #[.slice (some ⟨w1.heap.size, 0, none⟩) 0 C] 44)) w.heap.size low A l.length c from Row.alloc (Row.alloc HL1.out _) _)
    have HS2 := Lib.hid (PutS.start w1 C hC2)
    have c0 := HL1.out.c0
    have c1 := HL1.out.c1
    have d0 := HL2.out.c0
    have d1 := HL2.out.c1
    have HW8 := Lib.hid (fun (wr : World) (b n c : Nat) (L : List UInt8) (m : Nat) (h : PutS w1 (w1.heap.size + 1) L b n c wr) (hL : n + 8 ≤ 100000) =>
      show Calls Try.prog 41 #[.int .u64 (m : Int), .int .i64 8, .pointer (some ⟨w1.heap.size + 1, 0, none⟩)] wr fun e w' => e = .returned (.tuple #[]) ∧ ∃ b' c', PutS w1 (w1.heap.size + 1) (L ++ be m 8) b' (n + 8) c' w' from write_any w1 wr _ b n c L m 8 h rfl hL)
    have HW2 := Lib.hid (fun (wr : World) (b n c : Nat) (L : List UInt8) (m : Nat) (h : PutS w1 (w1.heap.size + 1) L b n c wr) (hL : n + 8 ≤ 100000) =>
      show Calls Try.prog 41 #[.int .u64 (m : Int), .int .i64 2, .pointer (some ⟨w1.heap.size + 1, 0, none⟩)] wr fun e w' => e = .returned (.tuple #[]) ∧ ∃ b' c', PutS w1 (w1.heap.size + 1) (L ++ be m 2) b' (n + 2) c' w' from write_any w1 wr _ b n c L m 2 h rfl hL)
    go_wp2_with (go_at_call 40; refine (HSZ.out _).mono ?_; rintro e w' ⟨rfl, rfl⟩)
    refine (HW8.out _ _ _ _ _ low HS2.out (by omega)).mono ?_
    rintro e w2 ⟨rfl, b2, c2, hs⟩
    have HS3 := Lib.hid hs
    have HL3 := Lib.hid (HL1.out.keeps hs.below)
    clear hs HS2 HL2 c0 c1 d0 d1 hmk
    have c1 := HL3.out.c1
    go_wp2_with fail
    refine (HW2.out _ _ _ _ _ l.length HS3.out (by omega)).mono ?_
    rintro e w3 ⟨rfl, b3, c3, hs⟩
    have HS4 := Lib.hid (show PutS w1 (w1.heap.size + 1) (putL low l 0) b3 10 c3 w3 by simpa [putL] using hs)
    have HL4 := Lib.hid (HL1.out.keeps hs.below)
    clear hs HS3 HL3 c1
    have c1 := HL4.out.c1
    go_wp2_with fail
    clear c1
    go_loopw [30] (fun i wr => ∃ k b' c' : Nat, k ≤ l.length ∧ i = .int .i64 k ∧ PutS w1 (w1.heap.size + 1) (putL low l k) b' (10 + 8 * k) c' wr) (fun i _ => l.length - (intOf i).toNat)
    case atStart => exact ⟨0, b3, c3, by omega, rfl, HS4.out⟩
    case round =>
      obtain ⟨k, b', c', hk, rfl, hs⟩ := hrel
      have HSK := Lib.hid hs
      clear hs HS4
      by_cases hlt : k < l.length
      · obtain ⟨g, off, rfl, hcell⟩ := (HI1.out.reads.keeps HSK.out.below).cells (show 0 < l.length by omega)
        have hk1 := hcell k hlt
        have HT := Lib.hid (putL_succ low l k hlt)
        obtain ⟨y, hy⟩ : ∃ y, l[k] = y := ⟨_, rfl⟩
        rw [hy] at hk1 HT
        clear hcell hy
        go_wp2_with fail
        refine (HW8.out _ _ _ _ _ y HSK.out (by omega)).mono ?_
        rintro e w4 ⟨rfl, b4, c4, hs4⟩
        have HS5 := Lib.hid (show PutS w1 (w1.heap.size + 1) (putL low l (k + 1)) b4 (10 + 8 * (k + 1)) c4 w4 by rw [HT.out]; exact hs4)
        clear hs4 hk1
        go_wp2
        go_roundw
        case rel => exact ⟨k + 1, b4, c4, by omega, by go_num, HS5.out⟩
        case measure => simp [intOf]; omega
      · obtain rfl : k = l.length := by omega
        have HV := Lib.hid (show wr.cell? ⟨w1.heap.size + 1, 0, none⟩ = some (.slice (some ⟨b', 0, none⟩) (10 + 8 * l.length) c') by rw [HSK.out.var.cell]; rfl)
        have hv := HV.out
        have HLN := Lib.hid (HSK.out.len)
        obtain ⟨n, hn⟩ : ∃ n, 10 + 8 * l.length = n := ⟨_, rfl⟩
        rw [hn] at hv HSK HLN
        clear hn HV
        go_wp2
        go_ret2
        obtain ⟨h1, h2, h3⟩ := HSK.out.told HN1.out
        have e := HLN.out
        subst e
        rw [putL_all] at h1 h2 ⊢
        exact ⟨_, _, rfl, h1, (fun e => by cases e), h2, h3⟩

end Go.Proofs.Ytkcjhkhdpafjhaa
