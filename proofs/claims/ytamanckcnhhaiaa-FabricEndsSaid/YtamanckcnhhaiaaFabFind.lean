/-
  The walks over package fabric, part C: the place of a queue's message.
-/
import Derived.Test.YtamanckcnhhaiaaFabCount
import Derived.Test.YtamanckcnhhaiaaDraw
namespace Go.Proofs.Ytamanckcnhhaiaa
open Go.RowKit

attribute [local go_sem] Oper.semAt_some

theorem below_drewN {B : Nat} {w w' : World} (h : Below B w w') (n : Nat) : Below B w (w'.drewN n) := ⟨h.os, h.tape, h.output, h.size, h.block⟩
theorem below_drew {B : Nat} {w w' : World} (h : Below B w w') : Below B w w'.drew := ⟨h.os, h.tape, h.output, h.size, h.block⟩

/-- What find tells: the place of the message at an index; or that there is none. -/
def Found (l : List MB) (way : Int × Int) (at_ : Int) (e : Ending) : Prop :=
  (∃ x ∈ qs l way, (x.1 : Int) = at_ ∧ e = .returned (.tuple #[.int .i64 (x.2 : Int), .int .i64 0])) ∨ ((∀ x ∈ qs l way, (x.1 : Int) ≠ at_) ∧ e = .returned (.tuple #[.int .i64 0, .int .i64 7]))

/-- Between two rounds: nothing has been found. -/
structure FindI (w : World) (at_ : Int) (pre : List (Nat × Nat)) (W : World) : Prop where
  want : Row W (w.heap.size + 1) 3 [.int .i64 at_] (0, 0)
  place : Row W (w.heap.size + 2) 3 [.int .i64 0] (0, 0)
  err : Row W (w.heap.size + 3) 26 [.int .i64 7] (0, 0)
  none : ∀ x ∈ pre, (x.1 : Int) ≠ at_
  below : Below w.heap.size w W
/-- The loop was left: it is found. -/
structure FindX (w : World) (at_ : Int) (c : Code) (pre : List (Nat × Nat)) (W : World) : Prop where
  jump : c = .exit 0
  one : ∃ x ∈ pre, (x.1 : Int) = at_ ∧ Row W (w.heap.size + 2) 3 [.int .i64 (x.2 : Int)] (0, 0)
  err : Row W (w.heap.size + 3) 26 [.int .i64 0] (0, 0)
  below : Below w.heap.size w W

set_option maxRecDepth 100000 in
set_option maxHeartbeats 4000000 in
theorem find_any (d : FV) (way : Int × Int) (at_ : Int) (w : World) (hd : d.In w) (hL : d.l.length ≤ 1000000) : Calls Try.prog 15 #[d.ptr, wayV way, .int .i64 at_] w fun e w' => Found d.l way at_ e ∧ Below w.heap.size w w' := by
  obtain ⟨wf, wt⟩ := way
  unfold wayV
  simp only
  have hm := hd.mineLt
  have hN : ∀ (o1 o2 : Obj), Calls Try.prog 12 #[d.ptr] ((w.alloc o1).alloc o2) fun e w' => e = .returned (.bool false) ∧ w' = (w.alloc o1).alloc o2 := fun o1 o2 => isNone_no d _ ((hd.alloc o1).alloc o2)
  refine (callsIn_wide (n := 9)).1 ?_
  refine callsIn_of_wp_marks Try.func15 rfl trivial ?_ rfl
  simp only [Try.ntmps15, List.size_toArray, List.length_cons, List.length_nil, Nat.reduceAdd, Nat.reduceSub, Array.replicate_succ, Array.replicate_zero, List.push_toArray, List.append_toArray, List.nil_append, List.cons_append]
  unfold FV.ptr at hN ⊢
  gi_wp2_with fail
  refine wpIn_wide.2 ?_
  apply wp_scope_straight
  refine (wpIn_wide (n := 9)).1 ?_
  gi_wp2_with (refine ⟨trivial, ?_⟩; gi_at_call 12; refine (callsIn_wide.2 (hN _ _)).mono ?_; rintro e w' ⟨rfl, rfl⟩)
  apply wpIn_label
  gi_wp2_with (refine ⟨trivial, ?_⟩; gi_at_call 26; refine (callsIn_wide.2 (queue_any _ (wf, wt) _)).mono ?_; rintro e w' ⟨rfl, rfl⟩)
  clear hN
  have hb0 : Below w.heap.size w w := Below.refl _ _
  have r1 := Row.new w 37 [.int .i64 wf, .int .i64 wt] (0, 0)
  have hb1 : Below w.heap.size w (w.alloc (.cells #[.int .i64 wf, .int .i64 wt] 37)) := hb0.alloc hb0.size _
  obtain ⟨w1, hw1⟩ : ∃ w1, w.alloc (.cells #[.int .i64 wf, .int .i64 wt] 37) = w1 := ⟨_, rfl⟩
  have hs1 : w1.heap.size = w.heap.size + 1 := by rw [← hw1]; simp
  rw [show ([.int .i64 wf, .int .i64 wt] : List Value).toArray = #[.int .i64 wf, .int .i64 wt] from rfl, hw1] at r1
  rw [hw1] at hb1 ⊢
  have r2 := Row.new w1 3 [.int .i64 at_] (0, 0)
  replace r1 := r1.alloc (.cells #[.int .i64 at_] 3)
  have hb2 : Below w.heap.size w (w1.alloc (.cells #[.int .i64 at_] 3)) := hb1.alloc hb1.size _
  obtain ⟨w2, hw2⟩ : ∃ w2, w1.alloc (.cells #[.int .i64 at_] 3) = w2 := ⟨_, rfl⟩
  have hs2 : w2.heap.size = w.heap.size + 2 := by rw [← hw2]; simp [hs1]
  rw [show ([.int .i64 at_] : List Value).toArray = #[.int .i64 at_] from rfl, hw2] at r2
  rw [hs1] at r2
  rw [hw2] at hb2 r1 ⊢
  have r3 := Row.new w2 3 [.int .i64 0] (0, 0)
  replace r1 := r1.alloc (.cells #[.int .i64 0] 3)
  replace r2 := r2.alloc (.cells #[.int .i64 0] 3)
  have hb3 : Below w.heap.size w (w2.alloc (.cells #[.int .i64 0] 3)) := hb2.alloc hb2.size _
  obtain ⟨w3, hw3⟩ : ∃ w3, w2.alloc (.cells #[.int .i64 0] 3) = w3 := ⟨_, rfl⟩
  have hs3 : w3.heap.size = w.heap.size + 3 := by rw [← hw3]; simp [hs2]
  rw [show ([.int .i64 0] : List Value).toArray = #[.int .i64 0] from rfl, hw3] at r3
  rw [hs2] at r3
  rw [hw3] at hb3 r1 r2 ⊢
  have r4 := Row.new w3 26 [.int .i64 7] (0, 0)
  replace r1 := r1.alloc (.cells #[.int .i64 7] 26)
  replace r2 := r2.alloc (.cells #[.int .i64 7] 26)
  replace r3 := r3.alloc (.cells #[.int .i64 7] 26)
  have hb4 : Below w.heap.size w (w3.alloc (.cells #[.int .i64 7] 26)) := hb3.alloc hb3.size _
  obtain ⟨w4, hw4⟩ : ∃ w4, w3.alloc (.cells #[.int .i64 7] 26) = w4 := ⟨_, rfl⟩
  have hs4 : w4.heap.size = w.heap.size + 4 := by rw [← hw4]; simp [hs3]
  rw [show ([.int .i64 7] : List Value).toArray = #[.int .i64 7] from rfl, hw4] at r4
  rw [hs3] at r4
  rw [hw4] at hb4 r1 r2 r3 ⊢
  have r5 := Row.new w4 24 [.pointer (some ⟨d.b, 0, none⟩)] (0, 0)
  replace r1 := r1.alloc (.cells #[.pointer (some ⟨d.b, 0, none⟩)] 24)
  replace r2 := r2.alloc (.cells #[.pointer (some ⟨d.b, 0, none⟩)] 24)
  replace r3 := r3.alloc (.cells #[.pointer (some ⟨d.b, 0, none⟩)] 24)
  replace r4 := r4.alloc (.cells #[.pointer (some ⟨d.b, 0, none⟩)] 24)
  have hb5 : Below w.heap.size w (w4.alloc (.cells #[.pointer (some ⟨d.b, 0, none⟩)] 24)) := hb4.alloc hb4.size _
  obtain ⟨w5, hw5⟩ : ∃ w5, w4.alloc (.cells #[.pointer (some ⟨d.b, 0, none⟩)] 24) = w5 := ⟨_, rfl⟩
  have hs5 : w5.heap.size = w.heap.size + 5 := by rw [← hw5]; simp [hs4]
  rw [show ([.pointer (some ⟨d.b, 0, none⟩)] : List Value).toArray = #[.pointer (some ⟨d.b, 0, none⟩)] from rfl, hw5] at r5
  rw [hs4] at r5
  rw [hw5] at hb5 r1 r2 r3 r4 ⊢
  have r6 := Row.new w5 37 [.int .i64 wf, .int .i64 wt] (0, 0)
  replace r1 := r1.alloc (.cells #[.int .i64 wf, .int .i64 wt] 37)
  replace r2 := r2.alloc (.cells #[.int .i64 wf, .int .i64 wt] 37)
  replace r3 := r3.alloc (.cells #[.int .i64 wf, .int .i64 wt] 37)
  replace r4 := r4.alloc (.cells #[.int .i64 wf, .int .i64 wt] 37)
  replace r5 := r5.alloc (.cells #[.int .i64 wf, .int .i64 wt] 37)
  have hb6 : Below w.heap.size w (w5.alloc (.cells #[.int .i64 wf, .int .i64 wt] 37)) := hb5.alloc hb5.size _
  obtain ⟨w6, hw6⟩ : ∃ w6, w5.alloc (.cells #[.int .i64 wf, .int .i64 wt] 37) = w6 := ⟨_, rfl⟩
  have hs6 : w6.heap.size = w.heap.size + 6 := by rw [← hw6]; simp [hs5]
  rw [show ([.int .i64 wf, .int .i64 wt] : List Value).toArray = #[.int .i64 wf, .int .i64 wt] from rfl, hw6] at r6
  rw [hs5] at r6
  rw [hw6] at hb6 r1 r2 r3 r4 r5 ⊢
  clear hw1 hw2 hw3 hw4 hw5 hw6 hb0 hb1 hb2 hb3 hb4 hb5 hs1 hs2 hs3 hs4 hs5
  refine wpIn_rangeFunc_ownG (by rfl) (by decide) (gf := 32) (lb := #[.pointer (some ⟨w.heap.size + 4, 0, none⟩), .pointer (some ⟨w.heap.size + 4 + 1, 0, none⟩)]) rfl trivial (enters_of Try.func32 (by kernel_rfl) rfl)
    (queue_stops 8 (w.heap.size + 4) w.heap.size (by decide) d (wf, wt) hL w6 (hd.keeps hb6) hm hb6.size (r5.cell 0) r6) kpQ_t (fun W l o o' hl _ _ _ => ⟨World.putObj_heap_other (by omega), fun k hk => World.putObj_heap_other (by omega)⟩) (Below.refl _ _) (fun _ => rfl)
    (FindI w at_) (FindX w at_)
    (fun s A B row hs hg hr => ⟨hs.want.grown hg (fun e => by have := (hr _ e.symm).1; omega), hs.place.grown hg (fun e => by have := (hr _ e.symm).1; omega), hs.err.grown hg (fun e => by have := (hr _ e.symm).1; omega), hs.none, hs.below.grown hg hs.below.size (fun r e => by have := (hr r e).1; omega)⟩)
    (fun c s A B row hs hg hr => ⟨hs.jump, hs.one.imp fun x hx => ⟨hx.1, hx.2.1, hx.2.2.grown hg (fun e => by have := (hr _ e.symm).1; omega)⟩, hs.err.grown hg (fun e => by have := (hr _ e.symm).1; omega), hs.below.grown hg hs.below.size (fun r e => by have := (hr r e).1; omega)⟩)
    ⟨r2, r3, r4, fun _ h => (by cases h), hb6⟩
    (fun x => { tmps := #[.pointer (some ⟨d.b, 0, none⟩), .agg #[.int .i64 wf, .int .i64 wt], .int .i64 at_, undef, .pointer (some ⟨w.heap.size, 0, none⟩), .pointer (some ⟨w.heap.size + 1, 0, none⟩), .int .i64 0, .int .i64 0, .pointer (some ⟨w.heap.size + 2, 0, none⟩), .pointer (some ⟨w.heap.size + 3, 0, none⟩), .int .i64 (x.1 : Int), .int .i64 (x.2 : Int), .pointer (some ⟨d.b, 0, none⟩), .bool false, .pointer (some ⟨d.b, 0, none⟩), .agg #[.int .i64 wf, .int .i64 wt], .func (.func 32) #[] #[.pointer (some ⟨w.heap.size + 4, 0, none⟩), .pointer (some ⟨w.heap.size + 4 + 1, 0, none⟩)], .int .i64 (x.1 : Int), .int .i64 (x.2 : Int), undef, undef, undef, undef, undef, undef, undef], defers := [] }) ?assign ?body ?done ?stop
  case assign =>
    intro l x W K hK
    dsimp only [qEnc]
    gi_wp2
    exact hK
  case body =>
    rintro l pre x W hI hlt
    have c1 := hI.want.cell 0
    have c2 := hI.place.cell 0
    have c3 := hI.err.cell 0
    have f2 := hI.place.loose 0
    have f3 := hI.err.loose 0
    simp only [List.getElem?_cons_zero] at c1 c2 c3
    obtain ⟨ix, px⟩ := x
    simp only
    by_cases he : (ix : Int) = at_
    · have HX := Lib.hid (show KeepsFrom w6.heap.size W ((W.setCell ⟨w.heap.size + 2, 0, none⟩ (.int .i64 (px : Int))).setCell ⟨w.heap.size + 3, 0, none⟩ (.int .i64 0)) ∧ FindX w at_ (.exit 0) (pre ++ [(ix, px)]) ((W.setCell ⟨w.heap.size + 2, 0, none⟩ (.int .i64 (px : Int))).setCell ⟨w.heap.size + 3, 0, none⟩ (.int .i64 0)) from
        ⟨((KeepsOthers.setCell _ _ _).trans (KeepsOthers.setCell _ _ _)).from _, rfl, ⟨(ix, px), by simp, he, (hI.place.put 0 (.int .i64 (px : Int))).far (by show _ ≠ w.heap.size + 3; omega) _⟩, (hI.err.far (p := ⟨w.heap.size + 2, 0, none⟩) (by show _ ≠ w.heap.size + 2; omega) (.int .i64 (px : Int))).put 0 (.int .i64 0), (hI.below.setCell (p := ⟨w.heap.size + 2, 0, none⟩) (by show _ ≤ w.heap.size + 2; omega) _).setCell (p := ⟨w.heap.size + 3, 0, none⟩) (by show _ ≤ w.heap.size + 3; omega) _⟩)
      clear hI
      subst he
      gi_wp2
      exact HX.out
    · have hI2 := hI
      have HN := Lib.hid (show FindI w at_ (pre ++ [(ix, px)]) W from ⟨hI.want, hI.place, hI.err, fun y hy => by
        rcases List.mem_append.1 hy with h | h
        · exact hI.none y h
        · rw [List.mem_singleton] at h; subst h; exact he, hI.below⟩)
      have heb : ((ix : Int) == at_) = false := beq_eq_false_iff_ne.2 he
      clear hI hI2 he
      gi_wp2
      exact ⟨KeepsFrom.refl _ _, ⟨rfl, fun _ _ => rfl⟩, HN.out⟩
  case done =>
    rintro D xs W hD rfl hI hK
    have c2 := hI.place.cell 0
    have c3 := hI.err.cell 0
    simp only [List.getElem?_cons_zero] at c2 c3
    have HI := Lib.hid hI
    have HK := Lib.hid hK
    clear hI hK
    gi_step
    gi_step
    refine wpIn_wide.2 ?_
    have c2' : W.cell? ⟨w.heap.size + 1 + 1, 0, none⟩ = some (.int .i64 0) := c2
    have c3' : W.cell? ⟨w.heap.size + 1 + 1 + 1, 0, none⟩ = some (.int .i64 7) := c3
    go_wp2_with fail
    go_quiet (fail)
    go_wp2_with fail
    rw [Exit.noGoto_ret]
    have hK5 : (W.drewN nq).heap[D]? = some (.deferred (some [])) := HK.out
    refine ⟨by simp, .inl ⟨_, _, rfl, run_takeDeferred hK5, ?_⟩⟩
    refine ⟨.tuple #[.int .i64 0, .int .i64 7], by simp [results, Try.f15, go_sem], .inr ⟨HI.out.none, rfl⟩, ?_⟩
    have hB5 : Below w.heap.size w (W.drewN nq) := below_drewN HI.out.below nq
    exact hB5.trans (belowK_b (w := w) (Nat.le_refl _) (W.drewN nq) D _ _ (by omega) hK5 rfl rfl)
  case stop =>
    rintro D c pre W hD hpre hX hK
    obtain rfl := hX.jump
    obtain ⟨x, hx, he, hr⟩ := hX.one
    have HPRE := Lib.hid (fun (y : Nat × Nat) (h : y ∈ pre) => hpre.subset h)
    have c2 := hr.cell 0
    have c3 := hX.err.cell 0
    simp only [List.getElem?_cons_zero] at c2 c3
    have HX := Lib.hid hX
    have HK := Lib.hid hK
    clear hX hK
    gi_step
    gi_step
    gi_step
    gi_step
    refine wpIn_wide.2 ?_
    have c2' : W.cell? ⟨w.heap.size + 1 + 1, 0, none⟩ = some (.int .i64 (x.2 : Int)) := c2
    have c3' : W.cell? ⟨w.heap.size + 1 + 1 + 1, 0, none⟩ = some (.int .i64 0) := c3
    go_wp2_with fail
    go_quiet (fail)
    go_wp2_with fail
    gi_wp2
    rw [Exit.noGoto_ret]
    have hK5 : (W.drewN nq).heap[D]? = some (.deferred (some [])) := HK.out
    refine ⟨by simp, .inl ⟨_, _, rfl, run_takeDeferred hK5, ?_⟩⟩
    refine ⟨.tuple #[.int .i64 (x.2 : Int), .int .i64 0], by simp [results, Try.f15, go_sem], .inl ⟨x, HPRE.out x hx, he, rfl⟩, ?_⟩
    have hB5 : Below w.heap.size w (W.drewN nq) := below_drewN HX.out.below nq
    exact hB5.trans (belowK_b (w := w) (Nat.le_refl _) (W.drewN nq) D _ _ (by omega) hK5 rfl rfl)
end Go.Proofs.Ytamanckcnhhaiaa
