/-
  The walks over package master, part B: Top.
-/
import Derived.Test.YtnmfgmlmjbfdcaaMasSecs
namespace Go.Proofs.Ytnmfgmlmjbfdcaa
open Go.RowKit

attribute [local go_sem] Oper.semAt_some

theorem sectors_stops (n B : Nat) (hn : 1 ≤ n) (b : List UInt8) (hb : b.length ≤ 100000000) (w : World) (hB : Row w B 9 [.string (tb b)] (0, 0)) :
    SeqStopsK Fence.wide n Try.prog 66 #[.pointer (some ⟨B, 0, none⟩)] (secEnc b) (KpB B) (fun xs => xs = List.range (b.length / 64)) (fun pre => ∃ k, k ≤ b.length / 64 ∧ pre = List.range k) (b.length / 64) w :=
  fun l J Jx W hW hJ _ hY h0 => sectors1_in n l B hn b hb J Jx W hJ hY (hB.below hW hB.lt) h0

/-- The greatest stamp so far. -/
def topF (b : List UInt8) (pre : List Nat) : Nat := pre.foldl (fun t i => max t (val (seg b (i * 64) 8))) 0
theorem topF_snoc (b : List UInt8) (pre : List Nat) (i : Nat) : topF b (pre ++ [i]) = max (topF b pre) (val (seg b (i * 64) 8)) := by simp [topF]
theorem topF_range (b : List UInt8) : ∀ k, topF b (List.range k) = topL b k
  | 0 => rfl
  | k + 1 => by rw [List.range_succ, topF_snoc, topF_range b k]; rfl
theorem topF_lt (b : List UInt8) (pre : List Nat) : topF b pre < 18446744073709551616 := by
  have : ∀ (l : List Nat) (t : Nat), t < 18446744073709551616 → l.foldl (fun t i => max t (val (seg b (i * 64) 8))) t < 18446744073709551616 := by
    intro l
    induction l with
    | nil => intro t h; exact h
    | cons i l ih => intro t h; exact ih _ (by have := stamp_lt b (i * 64); show max t _ < _; omega)
  exact this pre 0 (by decide)

set_option maxRecDepth 100000 in
set_option maxHeartbeats 2000000 in
theorem top_any (b : List UInt8) (w : World) (hb : b.length ≤ 100000000) : Calls Try.prog 14 #[.string (tb b)] w fun e w' => e = .returned (.int .u64 (topP b : Int)) ∧ Below w.heap.size w w' := by
  refine (callsIn_wide (n := 9)).1 ?_
  refine callsIn_of_wp_marks Try.func14 rfl trivial ?_ rfl
  simp only [Try.ntmps14, List.size_toArray, List.length_cons, List.length_nil, Nat.reduceAdd, Nat.reduceSub, Array.replicate_succ, Array.replicate_zero, List.push_toArray, List.append_toArray, List.nil_append, List.cons_append]
  gi_wp2_with (refine ⟨trivial, ?_⟩; gi_at_call 39; refine (callsIn_wide.2 (sectors_any _ _)).mono ?_; rintro e w' ⟨rfl, rfl⟩)
  have bT := Row.new w 22 [.int .u64 0] (0, 0)
  obtain ⟨w1, hw1⟩ : ∃ w1, w.alloc (.cells #[.int .u64 0] 22) = w1 := ⟨_, rfl⟩
  have hs1 : w1.heap.size = w.heap.size + 1 := by rw [← hw1]; simp
  have hb1 : Below w.heap.size w w1 := by rw [← hw1]; exact (Below.refl _ w).alloc (Nat.le_refl _) _
  rw [show ([.int .u64 0] : List Value).toArray = #[.int .u64 0] from rfl, hw1] at bT
  rw [hw1]
  have bB := Row.new w1 9 [.string (tb b)] (0, 0)
  have bT2 := bT.alloc (.cells #[.string (tb b)] 9)
  have hb2 : Below w.heap.size w (w1.alloc (.cells #[.string (tb b)] 9)) := hb1.alloc hb1.size _
  obtain ⟨w2, hw2⟩ : ∃ w2, w1.alloc (.cells #[.string (tb b)] 9) = w2 := ⟨_, rfl⟩
  have hs2 : w2.heap.size = w.heap.size + 2 := by rw [← hw2]; simp [hs1]
  rw [show ([.string (tb b)] : List Value).toArray = #[.string (tb b)] from rfl, hw2] at bB
  rw [hw2] at bT2 hb2 ⊢
  rw [hs1] at bB
  refine wpIn_rangeFunc_ownG (by rfl) (by decide) (gf := 66) (lb := #[.pointer (some ⟨w.heap.size + 1, 0, none⟩)]) rfl trivial (enters_of Try.func66 (by kernel_rfl) rfl)
    (sectors_stops 8 (w.heap.size + 1) (by decide) b hb w2 bB) kpB_t (fun W l o o' hl _ _ _ => World.putObj_heap_other (by omega)) (Below.refl _ _) (fun _ => rfl)
    (fun pre W => Row W w.heap.size 22 [.int .u64 (topF b pre : Int)] (0, 0) ∧ Below w.heap.size w W)
    (fun _ _ _ => False)
    (OwnFrom.and (fun s A B row hs hg hr => Row.grown hs hg (fun e => by have := (hr _ e.symm).1; omega)) (ownFrom_below (Nat.le_refl _) (by omega)))
    (fun _ _ _ _ _ hs _ _ => hs)
    ⟨bT2, hb2⟩
    (fun i => { tmps := #[.string (tb b), undef, .int .u64 0, .pointer (some ⟨w.heap.size, 0, none⟩), .int .u64 (val (seg b (i * 64) 8) : Int), .string (tb b), .func (.func 66) #[] #[.pointer (some ⟨w.heap.size + 1, 0, none⟩)], .int .u64 (val (seg b (i * 64) 8) : Int), .string (tb (seg b (i * 64 + 8) 56)), undef, undef, undef, undef], defers := [] }) ?assign ?body ?done ?stop
  case assign =>
    intro l x W K hK
    dsimp only [secEnc]
    gi_wp2
    exact hK
  case body =>
    rintro l pre x W ⟨hr, hB⟩ _
    have hc := hr.cell 0
    have hf := hr.loose 0
    have end_ : ∀ m : Nat, m = max (topF b pre) (val (seg b (x * 64) 8)) → KeepsFrom (w.heap.size + 2) W (W.setCell ⟨w.heap.size, 0, none⟩ (.int .u64 (m : Int))) ∧ KpB (w.heap.size + 1) W (W.setCell ⟨w.heap.size, 0, none⟩ (.int .u64 (m : Int))) ∧
        Row (W.setCell ⟨w.heap.size, 0, none⟩ (.int .u64 (m : Int))) w.heap.size 22 [.int .u64 (topF b (pre ++ [x]) : Int)] (0, 0) ∧ Below w.heap.size w (W.setCell ⟨w.heap.size, 0, none⟩ (.int .u64 (m : Int))) := fun m hm => by
      refine ⟨(KeepsOthers.setCell _ _ _).from _, Below.heap_setCell W ⟨w.heap.size, 0, none⟩ _ _ (by simp), ?_, hB.setCell (p := ⟨w.heap.size, 0, none⟩) (Nat.le_refl _) _⟩
      rw [topF_snoc, ← hm]
      exact hr.put 0 _
    rcases Nat.lt_or_ge (topF b pre) (val (seg b (x * 64) 8)) with hlt | hge
    · have E := Lib.hid (end_ (val (seg b (x * 64) 8)) (by omega))
      clear end_
      gi_wp2
      rw [hs2]
      exact E.out
    · have hge' : ¬ topF b pre < val (seg b (x * 64) 8) := by omega
      have E := Lib.hid (end_ (topF b pre) (by omega))
      clear end_ hge
      gi_wp2
      rw [hs2]
      exact E.out
  case done =>
    rintro D xs W hD rfl ⟨hr, hB⟩ hK
    have hc := hr.cell 0
    rw [topF_range] at hc
    gi_wp2
    refine ⟨by simp, .inl ⟨_, _, rfl, run_takeDeferred hK, ?_⟩⟩
    exact ⟨_, results_tmp rfl _ _ _, rfl, hB.trans (belowK_b (w := w) (Nat.le_refl _) W D _ _ (by omega) hK rfl rfl)⟩
  case stop =>
    rintro D c pre W _ _ h _
    exact h.elim
end Go.Proofs.Ytnmfgmlmjbfdcaa
