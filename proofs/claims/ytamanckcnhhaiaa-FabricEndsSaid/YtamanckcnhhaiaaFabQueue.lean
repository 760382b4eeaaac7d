/-
  The walks over package fabric, part A: a queue's places, one by one; how many; the place of one.
-/
import Derived.RangeFuncBox
import Derived.RangeFuncNested
import Derived.RangeFuncBound
import Derived.RangeFuncCalls
import Derived.RangeFuncLeaves
import Derived.Shelf.Abstract
import Derived.Shelf.RegionOpen
import Derived.WalkKit
import Derived.OwnWalkIn
import Derived.TacticsInMore
import Derived.LoopNIn
import Derived.LoopIn
import Derived.Maps.AppendAt
import Derived.Laws.StructEq
import Derived.ChangeKeysEq
import Derived.Test.YtamanckcnhhaiaaFabBase
namespace Go.Proofs.Ytamanckcnhhaiaa
open Go.RowKit

attribute [local go_sem] Oper.semAt_some

set_option maxRecDepth 100000 in
theorem isNone_no (d : FV) (w : World) (h : d.In w) : Calls Try.prog 12 #[d.ptr] w fun e w' => e = .returned (.bool false) ∧ w' = w := by
  have h0 := h.c0
  unfold FV.ptr
  go_enter Try.func12, Try.ntmps12
  go_wp2
  go_ret
  exact ⟨rfl, rfl⟩

set_option maxRecDepth 100000 in
theorem isNone_yes (w : World) : Calls Try.prog 12 #[.pointer none] w fun e w' => e = .returned (.bool true) ∧ w' = w := by
  go_enter Try.func12, Try.ntmps12
  go_wp2
  go_ret
  exact ⟨rfl, rfl⟩

/-- A pair of numbers, as a value. -/
def wayV (way : Int × Int) : Value := .agg #[.int .i64 way.1, .int .i64 way.2]

set_option maxRecDepth 100000 in
/-- queue: the fabric and the way are boxed. -/
theorem queue_any (p : Option Addr) (way : Int × Int) (w : World) : Calls Try.prog 26 #[.pointer p, wayV way] w fun e w' => e = .returned (.func (.func 32) #[] #[.pointer (some ⟨w.heap.size, 0, none⟩), .pointer (some ⟨w.heap.size + 1, 0, none⟩)]) ∧ w' = (w.alloc (.cells #[.pointer p] 24)).alloc (.cells #[.int .i64 way.1, .int .i64 way.2] 37) := by
  unfold wayV
  go_enter Try.func26, Try.ntmps26
  go_wp2
  go_ret
  exact ⟨by simp, rfl⟩

set_option maxRecDepth 100000 in
theorem Try.eqA2 (a b x y : Int) (w : World) : (Op.equalIn 10000 37 (.agg #[.int .i64 a, .int .i64 b]) (.agg #[.int .i64 x, .int .i64 y])).run Try.prog w = .ok (a == x && b == y) w := by
  have u3 := Try.underlying3
  have a3 := Try.isAgg3
  have z3 := Try.sizeOf3
  rw [show (10000 : Nat) = 9999 + 1 from rfl, Op.equalIn]
  simp only [Sem.run_bind, run_underlying Try.underlying37, Result.andThen_ok]
  simp only [Std.Legacy.Range.forIn_eq_forIn_range', Std.Legacy.Range.size, Nat.sub_zero, Nat.add_sub_cancel, Nat.div_one, List.range'_succ, List.range'_zero, List.forIn_cons, List.forIn_nil]
  go_simp
  by_cases h1 : a = x <;> by_cases h2 : b = y <;> simp [h1, h2]
theorem way_eq (a b : Int) (way : Int × Int) (h : (a, b) = way) (w : World) : (Op.equalIn 10000 37 (.agg #[.int .i64 a, .int .i64 b]) (.agg #[.int .i64 way.1, .int .i64 way.2])).run Try.prog w = .ok true w := by
  rw [Try.eqA2, ← h]; simp
theorem way_ne (a b : Int) (way : Int × Int) (h : ¬ (a, b) = way) (w : World) : (Op.equalIn 10000 37 (.agg #[.int .i64 a, .int .i64 b]) (.agg #[.int .i64 way.1, .int .i64 way.2])).run Try.prog w = .ok false w := by
  rw [Try.eqA2]
  congr 1
  obtain ⟨x, y⟩ := way
  rw [Bool.eq_false_iff]
  intro h2
  simp only [Bool.and_eq_true, beq_iff_eq] at h2
  exact h (Prod.ext h2.1 h2.2)
theorem lt_same {w w' : World} {g : Nat} (h : w'.heap[g]? = w.heap[g]?) (hg : g < w.heap.size) : g < w'.heap.size := by
  rcases Nat.lt_or_ge g w'.heap.size with hlt | hge
  · exact hlt
  · rw [Array.getElem?_eq_none hge, Array.getElem?_eq_getElem hg] at h; cases h
theorem cell_same {w w' : World} {g : Nat} (h : w'.heap[g]? = w.heap[g]?) (i : Nat) : w'.cell? ⟨g, i, none⟩ = w.cell? ⟨g, i, none⟩ := by simp [World.cell?, h]

/-- What a round is handed. -/
def qEnc (x : Nat × Nat) : Array Value := #[.int .i64 (x.1 : Int), .int .i64 (x.2 : Int)]
/-- What the iterator reads lies as it lay. -/
def KpQ (B n0 : Nat) (W W' : World) : Prop := W'.heap[B]? = W.heap[B]? ∧ ∀ k, k < n0 → W'.heap[k]? = W.heap[k]?
theorem kpQ_t {B n0 : Nat} {W W' W'' : World} (h : KpQ B n0 W W') (k : KpQ B n0 W' W'') : KpQ B n0 W W'' := ⟨k.1.trans h.1, fun i hi => (k.2 i hi).trans (h.2 i hi)⟩

set_option maxRecDepth 100000 in
set_option maxHeartbeats 4000000 in
/-- The iterator, for every loop body that lets the messages and the way's box alone. -/
theorem queue1_in (n y B n0 : Nat) (hn : 1 ≤ n) (d : FV) (way : Int × Int) (hL : d.l.length ≤ 1000000) (J Jx : List (Nat × Nat) → World → Prop) (W : World) (hd : d.In W) (hm : ∀ k, d.mine k → k < n0) (hn0 : n0 ≤ W.heap.size)
    (hJ : AbidesFrom W.heap.size J)
    (hY : ∀ pre x W1, J pre W1 → pre.length < d.l.length → YieldAt Fence.wide (n - 1) Try.prog y (qEnc x) W1 fun e W' =>
      (e = .returned (.bool true) ∧ J (pre ++ [x]) W' ∧ KpQ (B + 1) n0 W1 W') ∨ (e = .returned (.bool false) ∧ Jx (pre ++ [x]) W'))
    (hP : W.cell? ⟨B, 0, none⟩ = some d.ptr) (hB : Row W (B + 1) 37 [.int .i64 way.1, .int .i64 way.2] (0, 0)) (h0 : J [] W) :
    CallsIn Fence.wide n Try.prog 32 #[.func (.yield y) #[] #[], .pointer (some ⟨B, 0, none⟩), .pointer (some ⟨B + 1, 0, none⟩)] W fun e W' => (∃ v, e = .returned v) ∧
      ((∃ xs, xs = qs d.l way ∧ J xs W') ∨ (∃ pre, pre <+: qs d.l way ∧ Jx pre W')) := by
  have hsz : way = (way.1, way.2) := rfl
  obtain ⟨b, A, c, l⟩ := d
  simp only [FV.ptr] at hP
  have hc1 := hd.c1
  simp only at hc1 hL hY
  have hbn : b < n0 := hm b (.inl rfl)
  have HMS := Lib.hid hd.ms
  have HMN := Lib.hid (fun k hk => hm k (.inr hk))
  simp only at HMS HMN
  obtain ⟨L, hLl⟩ : ∃ L, l.length = L := ⟨_, rfl⟩
  rw [hLl] at hc1 hL hY
  have HLL := Lib.hid hLl
  obtain ⟨wf, wt⟩ := way
  have HJ := Lib.hid hJ
  have HY := Lib.hid hY
  have HB := Lib.hid hB
  clear hd hm hJ hY hB hsz hLl
  refine callsIn_of_wp Try.func32 rfl trivial ?_ rfl
  simp only [Try.ntmps32, List.size_toArray, List.length_cons, List.length_nil, Nat.reduceAdd, Nat.reduceSub, Array.replicate_succ, Array.replicate_zero, List.push_toArray, List.append_toArray, List.nil_append, List.cons_append]
  gi_wp2
  gi_loopw [4, 12] (fun x z wr => ∃ k : Nat, k ≤ L ∧ x = .int .i64 ((qsN l (wf, wt) k).length : Int) ∧ z = .int .i64 (k : Int) ∧ Hid (J (qsN l (wf, wt) k) wr) ∧ Hid (∀ i, i < n0 → wr.heap[i]? = W.heap[i]?) ∧ Hid (Row wr (B + 1) 37 [.int .i64 wf, .int .i64 wt] (0, 0)))
    (fun _ z _ => L - (intOf z).toNat)
  case atStart => exact ⟨0, Nat.zero_le _, rfl, rfl, Lib.hid h0, Lib.hid (fun _ _ => rfl), HB⟩
  case round =>
    obtain ⟨k, hk, rfl, rfl, HJk, HKk, HBk⟩ := hrel
    by_cases hlt : k < L
    · have hkI : (k : Int) < (L : Int) := by omega
      have hLI : (L : Int) ≤ 1000000 := by omega
      have hkl : k < l.length := by rw [HLL.out]; exact hlt
      obtain ⟨g, hA, hg, c0, c1, c2⟩ := HMS.out.cells hkl
      subst hA
      have hgn : g < n0 := HMN.out g rfl
      rw [← cell_same (HKk.out g hgn)] at c0 c1 c2
      have hql := qsN_le l (wf, wt) k (by omega)
      have HYES := Lib.hid (fun he : l[k].1 = (wf, wt) => qsN_yes hkl he)
      have HNO := Lib.hid (fun he : ¬ l[k].1 = (wf, wt) => qsN_no hkl he)
      have HPRE := Lib.hid (fun he : l[k].1 = (wf, wt) => show qsN l (wf, wt) k ++ [((qsN l (wf, wt) k).length, k)] <+: qs l (wf, wt) by
        rw [← qsN_yes hkl he]
        unfold qs
        have := qsN_pre l (wf, wt) (k + 1) (l.length - (k + 1))
        rwa [show k + 1 + (l.length - (k + 1)) = l.length by omega] at this)
      obtain ⟨m, hm⟩ : ∃ m, l[k] = m := ⟨_, rfl⟩
      rw [hm] at c0 c1 c2 HYES HNO HPRE
      obtain ⟨⟨mf, mt⟩, ms⟩ := m
      simp only at c0 c1 c2 HYES HNO HPRE
      obtain ⟨pre, hpre⟩ : ∃ pre, qsN l (wf, wt) k = pre := ⟨_, rfl⟩
      rw [hpre] at HJk HYES HNO HPRE hql
      obtain ⟨o, ho⟩ : ∃ o, wr.alloc (.cells #[.int .i64 mf, .int .i64 mt, .string ms] 44) = o := ⟨_, rfl⟩
      have hbo : Below wr.heap.size wr o := ho ▸ (Below.refl _ wr).alloc (Nat.le_refl _) _
      have HJo := Lib.hid (HJ.out _ _ _ none HJk.out (only_below hbo none) (fun r e => by cases e))
      have HBo := Lib.hid (HBk.out.below hbo HBk.out.lt)
      have HKo := Lib.hid (fun i (hi : i < n0) => (hbo.block i (lt_same (HKk.out i hi) (by omega))).trans (HKk.out i hi))
      obtain ⟨S, hS⟩ : ∃ S, wr.heap.size = S := ⟨_, rfl⟩
      have hro : Row o S 44 [.int .i64 mf, .int .i64 mt, .string ms] (0, 0) := hS ▸ ho ▸ Row.new wr 44 [.int .i64 mf, .int .i64 mt, .string ms] (0, 0)
      have o0 : o.cell? ⟨S, 0, none⟩ = some (.int .i64 mf) := by rw [hro.cell]; rfl
      have o1 : o.cell? ⟨S, 1, none⟩ = some (.int .i64 mt) := by rw [hro.cell]; rfl
      have b0 : o.cell? ⟨B + 1, 0, none⟩ = some (.int .i64 wf) := by rw [HBo.out.cell]; rfl
      have b1 : o.cell? ⟨B + 1, 1, none⟩ = some (.int .i64 wt) := by rw [HBo.out.cell]; rfl
      clear hbo hro HJk HBk hkl hm hg
      by_cases he : (mf, mt) = (wf, wt)
      · have hE := fun w => way_eq mf mt (wf, wt) he w
        have HYES1 := Lib.hid (HYES.out he)
        have HPRE1 := Lib.hid (HPRE.out he)
        simp only at hE
        clear HYES HNO HPRE he
        have hpl : pre.length < L := by omega
        obtain ⟨fn, tmps, assign, body, hy, hR⟩ := HY.out pre (pre.length, k) o HJo.out hpl
        dsimp only [qEnc] at hy
        clear HY
        have hplI : (pre.length : Int) < (L : Int) := by omega
        rw [hpre]
        gi_wp2
        refine hR.mono ?_
        rintro e W4 (⟨rfl, hJ4, hk4⟩ | ⟨rfl, hJx4⟩)
        · have HJ4 := Lib.hid hJ4
          have HB4 := Lib.hid (show Row W4 (B + 1) 37 [.int .i64 wf, .int .i64 wt] (0, 0) from hk4.1.trans HBo.out)
          have HK4 := Lib.hid (fun i (hi : i < n0) => (hk4.2 i hi).trans (HKo.out i hi))
          clear hJ4 hk4 hR hy
          gi_wp2
          go_roundw
          case rel => exact ⟨k + 1, by omega, by rw [HYES1.out, List.length_append]; rfl, by go_num, by rw [HYES1.out]; exact HJ4, HK4, HB4⟩
          case measure => simp [intOf]; omega
        · clear hR hy
          gi_wp2
          refine bodyPost_ret (results_none rfl _ _ _) rfl ?_
          exact ⟨⟨_, rfl⟩, .inr ⟨_, HPRE1.out, hJx4⟩⟩
      · have hE := fun w => way_ne mf mt (wf, wt) he w
        have HNO1 := Lib.hid (HNO.out he)
        simp only at hE
        clear HYES HNO HPRE he HY
        gi_wp2
        go_roundw
        case rel => exact ⟨k + 1, by omega, by rw [HNO1.out, hpre], by go_num, by rw [HNO1.out]; exact HJo, HKo, HBo⟩
        case measure => simp [intOf]; omega
    · obtain rfl : k = L := by omega
      have hkI : ¬ (k : Int) < (k : Int) := by omega
      gi_wp2
      go_end0
      exact ⟨⟨_, rfl⟩, .inl (by unfold qs; rw [HLL.out]; exact HJk.out)⟩

theorem queue_stops (n B n0 : Nat) (hn : 1 ≤ n) (d : FV) (way : Int × Int) (hL : d.l.length ≤ 1000000) (w : World) (hd : d.In w) (hm : ∀ k, d.mine k → k < n0) (hn0 : n0 ≤ w.heap.size)
    (hP : w.cell? ⟨B, 0, none⟩ = some d.ptr) (hB : Row w (B + 1) 37 [.int .i64 way.1, .int .i64 way.2] (0, 0)) :
    SeqStopsK Fence.wide n Try.prog 32 #[.pointer (some ⟨B, 0, none⟩), .pointer (some ⟨B + 1, 0, none⟩)] qEnc (KpQ (B + 1) n0) (fun xs => xs = qs d.l way) (fun pre => pre <+: qs d.l way) d.l.length w :=
  fun y J Jx W hW hJ _ hY h0 => queue1_in n y B n0 hn d way hL J Jx W (hd.keeps hW) hm (Nat.le_trans hn0 hW.size) hJ hY ((hW.cell (p := ⟨B, 0, none⟩) (World.block_lt_of_cell? _ _ hP)).trans hP) (hB.below hW hB.lt) h0
end Go.Proofs.Ytamanckcnhhaiaa
