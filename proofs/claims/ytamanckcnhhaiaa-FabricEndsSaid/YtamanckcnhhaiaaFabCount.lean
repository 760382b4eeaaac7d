/-
  The walks over package fabric, part B: how many messages a queue has.
-/
import Derived.Test.YtamanckcnhhaiaaFabQueue
namespace Go.Proofs.Ytamanckcnhhaiaa
open Go.RowKit

attribute [local go_sem] Oper.semAt_some

set_option maxRecDepth 100000 in
set_option maxHeartbeats 2000000 in
theorem count_any (d : FV) (way : Int × Int) (w : World) (hd : d.In w) (hL : d.l.length ≤ 1000000) : Calls Try.prog 17 #[d.ptr, wayV way] w fun e w' => e = .returned (.int .i64 ((qu d.l way).length : Int)) ∧ Below w.heap.size w w' := by
  obtain ⟨wf, wt⟩ := way
  unfold wayV
  simp only
  refine (callsIn_wide (n := 9)).1 ?_
  refine callsIn_of_wp_marks Try.func17 rfl trivial ?_ rfl
  simp only [Try.ntmps17, List.size_toArray, List.length_cons, List.length_nil, Nat.reduceAdd, Nat.reduceSub, Array.replicate_succ, Array.replicate_zero, List.push_toArray, List.append_toArray, List.nil_append, List.cons_append]
  have hm := hd.mineLt
  unfold FV.ptr
  gi_wp2_with (refine ⟨trivial, ?_⟩; gi_at_call 26; refine (callsIn_wide.2 (queue_any _ (wf, wt) _)).mono ?_; rintro e w' ⟨rfl, rfl⟩)
  have hm := hd.mineLt
  have bW := Row.new w 37 [.int .i64 wf, .int .i64 wt] (0, 0)
  obtain ⟨w1, hw1⟩ : ∃ w1, w.alloc (.cells #[.int .i64 wf, .int .i64 wt] 37) = w1 := ⟨_, rfl⟩
  have hs1 : w1.heap.size = w.heap.size + 1 := by rw [← hw1]; simp
  have hb1 : Below w.heap.size w w1 := by rw [← hw1]; exact (Below.refl _ w).alloc (Nat.le_refl _) _
  rw [show ([.int .i64 wf, .int .i64 wt] : List Value).toArray = #[.int .i64 wf, .int .i64 wt] from rfl, hw1] at bW
  have bN := Row.new w1 3 [.int .i64 0] (0, 0)
  have hb2 : Below w.heap.size w (w1.alloc (.cells #[.int .i64 0] 3)) := hb1.alloc hb1.size _
  rw [hw1]
  obtain ⟨w2, hw2⟩ : ∃ w2, w1.alloc (.cells #[.int .i64 0] 3) = w2 := ⟨_, rfl⟩
  have hs2 : w2.heap.size = w.heap.size + 2 := by rw [← hw2]; simp [hs1]
  rw [show ([.int .i64 0] : List Value).toArray = #[.int .i64 0] from rfl, hw2] at bN
  rw [hw2] at hb2 ⊢
  rw [hs1] at bN
  have bP := Row.new w2 24 [.pointer (some ⟨d.b, 0, none⟩)] (0, 0)
  have bN3 := bN.alloc (.cells #[.pointer (some ⟨d.b, 0, none⟩)] 24)
  have hb3 : Below w.heap.size w (w2.alloc (.cells #[.pointer (some ⟨d.b, 0, none⟩)] 24)) := hb2.alloc hb2.size _
  obtain ⟨w3, hw3⟩ : ∃ w3, w2.alloc (.cells #[.pointer (some ⟨d.b, 0, none⟩)] 24) = w3 := ⟨_, rfl⟩
  have hs3 : w3.heap.size = w.heap.size + 3 := by rw [← hw3]; simp [hs2]
  rw [show ([.pointer (some ⟨d.b, 0, none⟩)] : List Value).toArray = #[.pointer (some ⟨d.b, 0, none⟩)] from rfl, hw3] at bP
  rw [hw3] at hb3 bN3 ⊢
  rw [hs2] at bP
  have bY := Row.new w3 37 [.int .i64 wf, .int .i64 wt] (0, 0)
  have bN4 := bN3.alloc (.cells #[.int .i64 wf, .int .i64 wt] 37)
  have bP4 := bP.alloc (.cells #[.int .i64 wf, .int .i64 wt] 37)
  have hb4 : Below w.heap.size w (w3.alloc (.cells #[.int .i64 wf, .int .i64 wt] 37)) := hb3.alloc hb3.size _
  obtain ⟨w4, hw4⟩ : ∃ w4, w3.alloc (.cells #[.int .i64 wf, .int .i64 wt] 37) = w4 := ⟨_, rfl⟩
  have hs4 : w4.heap.size = w.heap.size + 4 := by rw [← hw4]; simp [hs3]
  rw [show ([.int .i64 wf, .int .i64 wt] : List Value).toArray = #[.int .i64 wf, .int .i64 wt] from rfl, hw4] at bY
  rw [hw4] at hb4 bN4 bP4 ⊢
  rw [hs3] at bY
  clear hw1 hw2 hw3 hw4 bW bN bN3 bP hb1 hb2 hb3 hs1 hs3
  refine wpIn_rangeFunc_ownG (by rfl) (by decide) (gf := 32) (lb := #[.pointer (some ⟨w.heap.size + 2, 0, none⟩), .pointer (some ⟨w.heap.size + 2 + 1, 0, none⟩)]) rfl trivial (enters_of Try.func32 (by kernel_rfl) rfl)
    (queue_stops 8 (w.heap.size + 2) w.heap.size (by decide) d (wf, wt) hL w4 (hd.keeps hb4) hm hb4.size (bP4.cell 0) bY) kpQ_t (fun W l o o' hl _ _ _ => ⟨World.putObj_heap_other (by omega), fun k hk => World.putObj_heap_other (by omega)⟩) (Below.refl _ _) (fun _ => rfl)
    (fun pre W => Row W (w.heap.size + 1) 3 [.int .i64 (pre.length : Int)] (0, 0) ∧ Below w.heap.size w W)
    (fun _ _ _ => False)
    (OwnFrom.and (fun s A B row hs hg hr => Row.grown hs hg (fun e => by have := (hr _ e.symm).1; omega)) (ownFrom_below (Nat.le_refl _) (by omega)))
    (fun _ _ _ _ _ hs _ _ => hs)
    ⟨bN4, hb4⟩
    (fun x => { tmps := #[.pointer (some ⟨d.b, 0, none⟩), .agg #[.int .i64 wf, .int .i64 wt], undef, .pointer (some ⟨w.heap.size, 0, none⟩), .int .i64 0, .pointer (some ⟨w.heap.size + 1, 0, none⟩), .pointer (some ⟨d.b, 0, none⟩), .agg #[.int .i64 wf, .int .i64 wt], .func (.func 32) #[] #[.pointer (some ⟨w.heap.size + 2, 0, none⟩), .pointer (some ⟨w.heap.size + 2 + 1, 0, none⟩)], .int .i64 (x.1 : Int), .int .i64 (x.2 : Int), undef, undef, undef], defers := [] }) ?assign ?body ?done ?stop
  case assign =>
    intro l x W K hK
    dsimp only [qEnc]
    gi_wp2
    simp only [List.zip_toArray, List.zip_cons_cons, List.zip_nil_right, List.foldl_toArray, List.foldl_cons, List.foldl_nil, List.setIfInBounds_toArray, List.set_cons_zero, List.set_cons_succ]
    exact hK
  case body =>
    rintro l pre x W ⟨hr, hB⟩ hlt
    have hc := hr.cell 0
    have hf := hr.loose 0
    have hlI : (pre.length : Int) < 1000000 := by omega
    have E : KeepsFrom w4.heap.size W (W.setCell ⟨w.heap.size + 1, 0, none⟩ (.int .i64 ((pre.length : Int) + 1))) ∧ KpQ (w.heap.size + 2 + 1) w.heap.size W (W.setCell ⟨w.heap.size + 1, 0, none⟩ (.int .i64 ((pre.length : Int) + 1))) ∧
        Row (W.setCell ⟨w.heap.size + 1, 0, none⟩ (.int .i64 ((pre.length : Int) + 1))) (w.heap.size + 1) 3 [.int .i64 ((pre ++ [x]).length : Int)] (0, 0) ∧ Below w.heap.size w (W.setCell ⟨w.heap.size + 1, 0, none⟩ (.int .i64 ((pre.length : Int) + 1))) := by
      refine ⟨(KeepsOthers.setCell _ _ _).from _, ⟨Below.heap_setCell W ⟨w.heap.size + 1, 0, none⟩ _ _ (by show _ ≠ w.heap.size + 1; omega), fun k hk => Below.heap_setCell W ⟨w.heap.size + 1, 0, none⟩ _ _ (by show _ ≠ w.heap.size + 1; omega)⟩, ?_, hB.setCell (p := ⟨w.heap.size + 1, 0, none⟩) (by show _ ≤ w.heap.size + 1; omega) _⟩
      have := hr.put 0 (.int .i64 ((pre.length : Int) + 1))
      rw [List.length_append]
      exact this
    have HE := Lib.hid E
    clear E hr hB
    gi_wp2
    exact HE.out
  case done =>
    rintro D xs W hD rfl ⟨hr, hB⟩ hK
    have hc := hr.cell 0
    rw [qs_length] at hc
    gi_wp2
    refine ⟨by simp, .inl ⟨_, _, rfl, run_takeDeferred hK, ?_⟩⟩
    exact ⟨_, results_tmp rfl _ _ _, rfl, hB.trans (belowK_b (w := w) (Nat.le_refl _) W D _ _ (by omega) hK rfl rfl)⟩
  case stop =>
    rintro D c pre W _ _ h _
    exact h.elim
end Go.Proofs.Ytamanckcnhhaiaa
