/-
  The walks over package master, part A: the sectors of bytes, handed on one by one.
-/
import Derived.RangeFuncBox
import Derived.RangeFuncNested
import Derived.RangeFuncBound
import Derived.RangeFuncCalls
import Derived.RangeFuncLeaves
import Derived.Shelf.Abstract
import Derived.Shelf.RegionOpen
import Derived.WalkKit
import Derived.OwnWalkIn
import Derived.TacticsInMore
import Derived.LoopNIn
import Derived.LoopIn
import Derived.Maps.AppendAt
import Derived.Lib.ConvBytes
import Derived.Test.YtnmfgmlmjbfdcaaMPlainM
import Derived.Test.YtnmfgmlmjbfdcaaMOctD
namespace Go.Proofs.Ytnmfgmlmjbfdcaa
open Go.RowKit

attribute [local go_sem] Oper.semAt_some

/-- A text made into bytes, whatever the world: the world behind it and the capacity as functions. -/
theorem conv_tb (l : List UInt8) : ∃ (wF : World → World) (cF : World → Nat), (∀ w, (convert 9 69 (.string (tb l))).run Try.prog w = .ok (.slice (some ⟨w.heap.size, 0, none⟩) l.length (cF w)) (wF w)) ∧
    ∀ w, Reads 5 (wF w) (some ⟨w.heap.size, 0, none⟩) l ∧ Below w.heap.size w (wF w) ∧ l.length ≤ cF w := by
  refine ⟨fun w => Lib.bytesWorld w 5 (tb l), fun w => grownCap w (tb l).size 0 5, fun w => ?_, fun w => ⟨fun _ => ?_, ⟨rfl, rfl, rfl, ?_, fun k hk => Lib.bytesWorld_at_old w _ _ k hk⟩, ?_⟩⟩
  · rw [Lib.run_convert_string_bytes (P := Try.prog) w 9 69 5 (tb l) Try.underlying9 Try.underlying69 Try.underlying5, tb_size]
  · refine ⟨w.heap.size, 0, (Lib.bytesCells w 5 (tb l)).toList, ((Lib.bytesCells w 5 (tb l)).size, (Lib.bytesCells w 5 (tb l)).size + 1), rfl, ?_, fun j hj => ?_⟩
    · unfold Row
      rw [Array.toArray_toList]
      exact Lib.bytesWorld_at_new w _ _
    · rw [byt_get _ _ hj, Nat.zero_add, Array.getElem?_toList]
      simp [Lib.bytesCells, tb, Array.getElem?_append, hj]
  · rw [Lib.bytesWorld_size]; omega
  · rw [← tb_size l]; exact grownCap_ge _ _ _ _

/-- What a round is handed. -/
def secEnc (b : List UInt8) (i : Nat) : Array Value := #[.int .u64 (val (seg b (i * 64) 8) : Int), .string (tb (seg b (i * 64 + 8) 56))]

set_option maxRecDepth 100000 in
/-- sectors: the bytes are boxed. -/
theorem sectors_any (s : ByteArray) (w : World) : Calls Try.prog 39 #[.string s] w fun e w' => e = .returned (.func (.func 66) #[] #[.pointer (some ⟨w.heap.size, 0, none⟩)]) ∧ w' = w.alloc (.cells #[.string s] 9) := by
  go_enter Try.func39, Try.ntmps39
  go_wp2
  go_ret
  exact ⟨rfl, rfl⟩

/-- The iterator's memory lies as it lay. -/
def KpB (B : Nat) (W W' : World) : Prop := W'.heap[B]? = W.heap[B]?
theorem kpB_t {B : Nat} {W W' W'' : World} (h : KpB B W W') (k : KpB B W' W'') : KpB B W W'' := Eq.trans k h

theorem stamp_seg (b : List UInt8) (k : Nat) : seg (seg b (64 * k) 64) 0 8 = seg b (k * 64) 8 := by
  unfold seg
  rw [List.drop_zero, List.take_take, Nat.mul_comm 64 k]
  rfl
theorem piece_seg (b : List UInt8) (k : Nat) : seg (seg b (64 * k) 64) 8 56 = seg b (k * 64 + 8) 56 := by
  unfold seg
  rw [List.drop_take, List.drop_drop, Nat.mul_comm 64 k, List.take_take]
  rfl

set_option maxRecDepth 100000 in
set_option maxHeartbeats 2000000 in
/-- The iterator, for every loop body that lets its box alone. -/
theorem sectors1_in (n l B : Nat) (hn : 1 ≤ n) (b : List UInt8) (hb : b.length ≤ 100000000) (J Jx : List Nat → World → Prop) (W : World)
    (hJ : AbidesFrom W.heap.size J)
    (hY : ∀ pre x W1, J pre W1 → pre.length < b.length / 64 → YieldAt Fence.wide (n - 1) Try.prog l (secEnc b x) W1 fun e W' =>
      (e = .returned (.bool true) ∧ J (pre ++ [x]) W' ∧ KpB B W1 W') ∨ (e = .returned (.bool false) ∧ Jx (pre ++ [x]) W'))
    (hB : Row W B 9 [.string (tb b)] (0, 0)) (h0 : J [] W) :
    CallsIn Fence.wide n Try.prog 66 #[.func (.yield l) #[] #[], .pointer (some ⟨B, 0, none⟩)] W fun e W' => (∃ v, e = .returned v) ∧
      ((∃ xs, xs = List.range (b.length / 64) ∧ J xs W') ∨ (∃ pre, (∃ k, k ≤ b.length / 64 ∧ pre = List.range k) ∧ Jx pre W')) := by
  have hsz : (tb b).size = b.length := tb_size b
  refine callsIn_of_wp Try.func66 rfl trivial ?_ rfl
  simp only [Try.ntmps66, List.size_toArray, List.length_cons, List.length_nil, Nat.reduceAdd, Nat.reduceSub, Array.replicate_succ, Array.replicate_zero, List.push_toArray, List.append_toArray, List.nil_append, List.cons_append]
  gi_wp2
  gi_loopw [3] (fun i wr => ∃ k : Nat, k ≤ b.length / 64 ∧ i = .int .i64 ((64 * k : Nat) : Int) ∧ J (List.range k) wr ∧ Row wr B 9 [.string (tb b)] (0, 0))
    (fun i _ => b.length + 64 - (intOf i).toNat)
  case atStart => exact ⟨0, Nat.zero_le _, rfl, h0, hB⟩
  case round =>
    obtain ⟨k, hk, rfl, hJk, hBk⟩ := hrel
    have hc : wr.cell? ⟨B, 0, none⟩ = some (.string (tb b)) := hBk.cell 0
    by_cases hlt : k < b.length / 64
    · have h1 : 64 * (k : Int) ≤ (b.length : Int) - 64 := by omega
      have h2 : (b.length : Int) ≤ 100000000 := by omega
      have hx : ((tb b).extract (64 * k) (64 * k + 64)).extract 0 8 = tb (seg b (k * 64) 8) := by rw [tb_cut, tb_cut, show 64 * k + 64 - 64 * k = 64 by omega, stamp_seg]
      obtain ⟨wF, cF, hcv, hcF⟩ := conv_tb (seg b (k * 64) 8)
      rw [← hx] at hcv
      have h8 : (seg b (k * 64) 8).length = 8 := seg_length _ _ _ (by omega)
      obtain ⟨hr1, hb1, hc1⟩ := hcF wr
      have HO := Lib.hid (open_any (some ⟨wr.heap.size, 0, none⟩) (seg b (k * 64) 8) (cF wr) (wF wr) hr1 (by omega))
      rw [h8] at HO
      have HB1 := Lib.hid hb1
      have hen : secEnc b k = #[.int .u64 (val (List.take 8 (seg b (k * 64) 8)) : Int), .string (((tb b).extract (64 * k) (64 * k + 64)).extract 8 (min (64 * k + 64) b.length - 64 * k))] := by
        rw [List.take_of_length_le (by omega), tb_cut, show min (64 * k + 64) b.length - 64 * k = 64 by omega, tb_cut, show 64 * k + 64 - 64 * k = 64 by omega, piece_seg]
        rfl
      clear hx hcF hr1 hb1 hc1
      gi_wp2_with first
        | (refine ⟨trivial, ?_⟩; gi_at_call 40; refine (callsIn_wide.2 HO.out).mono ?_; rintro e w2 ⟨g, rfl, hg1, hg2, hg3⟩)
        | (refine ⟨trivial, ?_⟩; gi_at_call 67; refine (callsIn_wide.2 (num_yes g _ 8 w2 hg2 (by rfl) (by omega))).mono ?_; rintro e w3 ⟨rfl, hn1, hn2⟩
           have hb3 : Below wr.heap.size wr w3 := (HB1.out.trans (hg3.mono HB1.out.size)).grown hn1 (Nat.le_trans HB1.out.size hg3.size) (fun j e => by cases e; exact Nat.le_trans HB1.out.size hg1)
           have hJ3 : J (List.range k) w3 := hJ _ _ _ none hJk (only_below hb3 none) (fun r e => by cases e)
           have hB3 := hBk.below hb3 hBk.lt
           obtain ⟨fn, tmps, assign, body, hy, hR⟩ := hY (List.range k) k w3 hJ3 (by rw [List.length_range]; exact hlt)
           rw [hen] at hy)
      refine hR.mono ?_
      rintro e W4 (⟨rfl, hJ4, hk4⟩ | ⟨rfl, hJx4⟩)
      · have hB4 : Row W4 B 9 [.string (tb b)] (0, 0) := Eq.trans hk4 hB3
        gi_wp2
        go_roundw
        case rel => exact ⟨k + 1, by omega, by go_num, by rw [List.range_succ]; exact hJ4, hB4⟩
        case measure => simp [intOf]; omega
      · gi_wp2
        refine bodyPost_ret (results_none rfl _ _ _) rfl ?_
        exact ⟨⟨_, rfl⟩, .inr ⟨_, ⟨k + 1, by omega, List.range_succ.symm⟩, hJx4⟩⟩
    · have h1 : ¬ 64 * (k : Int) ≤ (b.length : Int) - 64 := by omega
      obtain rfl : k = b.length / 64 := by omega
      gi_wp2
      go_end0
      exact ⟨⟨_, rfl⟩, .inl hJk⟩
end Go.Proofs.Ytnmfgmlmjbfdcaa
