/-
  The walks over package fabric, part H: Ways, where there is one message or none.
-/
import Derived.Test.YtamanckcnhhaiaaFabLen
import Derived.Laws.AppendOwnNone
import Derived.ArgAppend
namespace Go.Proofs.Ytamanckcnhhaiaa
open Go.RowKit

set_option maxRecDepth 100000 in
theorem insertion_one (v : Value) (n : Nat) (hn : n ≤ 1) (w : World) : Calls Try.prog 33 #[v, .int .i64 0, .int .i64 (n : Int), .func (.func 19) #[] #[]] w fun e w' => e = .returned (.tuple #[]) ∧ w' = w := by
  have h1 : ¬ (1 : Int) < (n : Int) := by omega
  go_enter Try.func33, Try.ntmps33
  go_wp2_with fail
  go_loopw [8] (fun x wr => x = .int .i64 1 ∧ wr = w) (fun _ _ => 0)
  case atStart => exact ⟨rfl, rfl⟩
  case round =>
    obtain ⟨rfl, rfl⟩ := hrel
    go_wp2
    go_end0
    exact ⟨rfl, rfl⟩

set_option maxRecDepth 100000 in
set_option maxHeartbeats 1000000 in
theorem pdq_one (v : Value) (n : Nat) (lim : Int) (hn : n ≤ 1) (w : World) : Calls Try.prog 27 #[v, .int .i64 0, .int .i64 (n : Int), .int .i64 lim, .func (.func 19) #[] #[]] w fun e w' => e = .returned (.tuple #[]) ∧ w' = w := by
  have HI := Lib.hid (insertion_one v n hn w)
  have h1 : (n : Int) ≤ 12 := by omega
  clear hn
  go_enter Try.func27, Try.ntmps27
  go_wp2_with fail
  go_loopw [1, 2] (fun x y wr => x = .int .i64 0 ∧ y = .int .i64 (n : Int) ∧ wr = w) (fun _ _ _ => 0)
  case atStart => exact ⟨rfl, rfl, rfl⟩
  case round =>
    obtain ⟨rfl, rfl, rfl⟩ := hrel
    go_wp2_with fail
    refine HI.out.mono ?_
    rintro e w1 ⟨rfl, rfl⟩
    go_wp2
    refine bodyPost_ret (results_none rfl _ _ _) rfl ?_
    exact ⟨rfl, rfl⟩

set_option maxRecDepth 100000 in
set_option maxHeartbeats 1000000 in
theorem sortfunc_one (A : Option Addr) (n c : Nat) (hn : n ≤ 1) (w : World) : Calls Try.prog 18 #[.slice A n c, .func (.func 19) #[] #[]] w fun e w' => e = .returned (.tuple #[]) ∧ w' = w := by
  have HL := Lib.hid (len_any n (by omega) w)
  have HP := Lib.hid (fun lim => pdq_one (.slice A n c) n lim hn w)
  have h1 : (n : Int) ≤ 1 := by omega
  have hw : IntKind.u64.wrap (n : Int) = (n : Int) := by rw [IntWalk.u64_in _ (by omega)]
  clear hn
  go_enter Try.func18, Try.ntmps18
  go_wp2_with first
    | (go_at_call 28; refine HL.out.mono ?_; rintro e w1 ⟨rfl, rfl⟩)
    | (go_at_call 27; refine (HP.out _).mono ?_; rintro e w1 ⟨rfl, rfl⟩)
  go_end0
  exact ⟨rfl, rfl⟩

set_option maxRecDepth 100000 in
theorem compact_one (A : Option Addr) (n c : Nat) (hn : n ≤ 1) (w : World) : Calls Try.prog 21 #[.slice A n c] w fun e w' => e = .returned (.slice A n c) ∧ w' = w := by
  have h1 : (n : Int) < 2 := by omega
  clear hn
  go_enter Try.func21, Try.ntmps21
  go_wp2
  go_ret
  exact ⟨rfl, rfl⟩

set_option maxRecDepth 100000 in
theorem ways_none (w : World) : Calls Try.prog 10 #[.pointer none] w fun e w' => e = .returned (.slice none 0 0) ∧ w' = w := by
  go_enter Try.func10, Try.ntmps10
  go_wp2_with fail
  refine (isNone_yes w).mono ?_
  rintro e w1 ⟨rfl, rfl⟩
  go_wp2
  go_ret
  exact ⟨rfl, rfl⟩

set_option maxRecDepth 100000 in
set_option maxHeartbeats 1000000 in
theorem ways_zero (d : FV) (w : World) (h : d.In w) (hl : d.l = []) : Calls Try.prog 10 #[d.ptr] w fun e w' => e = .returned (.slice none 0 0) ∧ w' = w := by
  have HN := Lib.hid (isNone_no d w h)
  have hc := h.c1
  rw [hl] at hc
  simp only [List.length_nil] at hc
  have HS := Lib.hid (sortfunc_one none 0 0 (by omega) w)
  have HC := Lib.hid (compact_one none 0 0 (by omega) w)
  unfold FV.ptr at HN ⊢
  clear h hl
  go_enter Try.func10, Try.ntmps10
  go_wp2_with fail
  refine HN.out.mono ?_
  rintro e w1 ⟨rfl, rfl⟩
  go_wp2_with fail
  go_loopw [3, 13] (fun v x wr => v = .slice none 0 0 ∧ x = .int .i64 0 ∧ wr = w1) (fun _ _ _ => 0)
  case atStart => exact ⟨rfl, rfl, rfl⟩
  case round =>
    obtain ⟨rfl, rfl, rfl⟩ := hrel
    go_wp2_with first
      | (go_at_call 18; refine HS.out.mono ?_; rintro e w1 ⟨rfl, rfl⟩)
      | (go_at_call 21; refine HC.out.mono ?_; rintro e w1 ⟨rfl, rfl⟩)
    go_ret
    exact ⟨rfl, rfl⟩

theorem Try.infoWay : (Try.prog.info? 37).map (fun i => (i.zero, i.size, i.bytes)) = some (some (.agg #[.int .i64 0, .int .i64 0]), 2, 16) := by kernel_rfl

theorem own_way {w : World} {base : Nat} {v x y : Value} (h : w.ownsRow base 37 2 v 1 [x, y]) : ∃ g c, v = .slice (some ⟨g, 0, none⟩) 1 c ∧ base ≤ g ∧ w.cell? ⟨g, 0, none⟩ = some x ∧ w.cell? ⟨g, 1, none⟩ = some y := by
  rcases h.2 with ⟨_, h0⟩ | ⟨g, cap, cur, rfl, hbg, hk, _, _, _, ht⟩
  · cases h0
  · have hr : Row w g 37 cur.toList (0, 0) := hk
    refine ⟨g, cap, rfl, hbg, ?_, ?_⟩
    · have : (cur.toList.take (1 * 2))[0]? = some x := by rw [ht]; rfl
      rw [hr.cell, ← this, List.getElem?_take, if_pos (by decide)]
    · have : (cur.toList.take (1 * 2))[1]? = some y := by rw [ht]; rfl
      rw [hr.cell, ← this, List.getElem?_take, if_pos (by decide)]

set_option maxRecDepth 100000 in
set_option maxHeartbeats 2000000 in
theorem ways_one (d : FV) (x : MB) (w : World) (h : d.In w) (hl : d.l = [x]) : Calls Try.prog 10 #[d.ptr] w fun e w' => ∃ g c, e = .returned (.slice (some ⟨g, 0, none⟩) 1 c) ∧ w.heap.size ≤ g ∧ w'.cell? ⟨g, 0, none⟩ = some (.int .i64 x.1.1) ∧ w'.cell? ⟨g, 1, none⟩ = some (.int .i64 x.1.2) ∧ Below w.heap.size w w' := by
  have HN := Lib.hid (isNone_no d w h)
  have hc := h.c1
  obtain ⟨g, hA, hg, c0, c1, c2⟩ := h.ms.cells (i := 0) (by rw [hl]; exact Nat.one_pos)
  simp only [hl, List.getElem_cons_zero, Nat.zero_mul, Nat.zero_add] at c0 c1 c2
  rw [hl, hA] at hc
  simp only [List.length_singleton] at hc
  obtain ⟨⟨f, t⟩, s⟩ := x
  simp only at c0 c1 c2 ⊢
  have HS := Lib.hid (fun g c wx => sortfunc_one (some ⟨g, 0, none⟩) 1 c (by omega) wx)
  have HC := Lib.hid (fun g c wx => compact_one (some ⟨g, 0, none⟩) 1 c (by omega) wx)
  obtain ⟨o, ho⟩ : ∃ o, w.alloc (.cells #[.int .i64 f, .int .i64 t, .string s] 44) = o := ⟨_, rfl⟩
  obtain ⟨S, hS⟩ : ∃ S, w.heap.size = S := ⟨_, rfl⟩
  have HRo := Lib.hid (show Row o S 44 [.int .i64 f, .int .i64 t, .string s] (0, 0) from hS ▸ ho ▸ Row.new w 44 [.int .i64 f, .int .i64 t, .string s] (0, 0))
  obtain ⟨r0, r1, r2⟩ := row_msg HRo.out
  have HBo := Lib.hid (show Below w.heap.size w o from ho ▸ (Below.refl _ w).alloc (Nat.le_refl _) _)
  obtain ⟨o2, ho2⟩ : ∃ o2, o.alloc (.cells #[.int .i64 f, .int .i64 t] 37) = o2 := ⟨_, rfl⟩
  have HBo2 := Lib.hid (show Below w.heap.size w o2 from ho2 ▸ HBo.out.alloc HBo.out.size _)
  have HNW := Lib.hid (show ∀ j u, ([.int .i64 f, .int .i64 t] : List Value)[j]? = some u → o2.cell? ((⟨o.heap.size, 0, none⟩ : Addr).add j) = some u from fun j u hu => by
    have hr := Row.new o 37 [.int .i64 f, .int .i64 t] (0, 0)
    rw [show (o.alloc (.cells ([.int .i64 f, .int .i64 t] : List Value).toArray 37)) = o2 from ho2] at hr
    rw [Addr.add_lit, hr.cell, Nat.zero_add]
    exact hu)
  unfold FV.ptr at HN ⊢
  clear h hl hA hg HRo
  go_enter Try.func10, Try.ntmps10
  go_wp2_with fail
  refine HN.out.mono ?_
  rintro e w1 ⟨rfl, rfl⟩
  go_wp2_with fail
  go_loopw [3, 13] (fun v x wr => (v = .slice none 0 0 ∧ x = .int .i64 0 ∧ wr = w1) ∨ (∃ g c, v = .slice (some ⟨g, 0, none⟩) 1 c ∧ x = .int .i64 1 ∧ Hid (w1.heap.size ≤ g ∧ wr.cell? ⟨g, 0, none⟩ = some (.int .i64 f) ∧ wr.cell? ⟨g, 1, none⟩ = some (.int .i64 t) ∧ Below w1.heap.size w1 wr))) (fun _ x _ => 1 - (intOf x).toNat)
  case atStart => exact .inl ⟨rfl, rfl, rfl⟩
  case round =>
    rcases hrel with ⟨rfl, rfl, rfl⟩ | ⟨g', c', rfl, rfl, HW⟩
    · obtain ⟨i0, hi0, hz0, hz1, hz2⟩ := info_parts Try.infoWay
      go_wp2_with (at_builtin; refine wpList_append_own_at o2 rfl (.tmp 17) (.tmp 20) 34 rfl wr.heap.size 37 i0 _ 2 16 Try.underlying34 hi0 hz0 hz1 hz2 rfl (by decide) (.slice none 0 0) 0 [] rfl (World.ownsRow_nil _ _ _ _) ⟨o.heap.size, 0, none⟩ 1 1 [.int .i64 f, .int .i64 t] rfl rfl HNW.out (by simp [Value.oneCell']) (by decide) (by decide) HBo2.out.size ?_; intro v' w2 h1 h2 _ _; obtain ⟨g3, c3, rfl, ag, a0, a1⟩ := own_way h1; have HW := Lib.hid (show wr.heap.size ≤ g3 ∧ w2.cell? ⟨g3, 0, none⟩ = some (.int .i64 f) ∧ w2.cell? ⟨g3, 1, none⟩ = some (.int .i64 t) ∧ Below wr.heap.size wr w2 from ⟨ag, a0, a1, HBo2.out.grown h2 HBo2.out.size (fun k e => by cases e)⟩); clear h1 h2 a0 a1 ag)
      go_roundw
      case rel => exact .inr ⟨g3, c3, rfl, rfl, HW⟩
      case measure => simp [intOf]
    · obtain ⟨ag, a0, a1, ab⟩ := HW.out
      go_wp2_with first
        | (go_at_call 18; refine (HS.out _ _ _).mono ?_; rintro e w1 ⟨rfl, rfl⟩)
        | (go_at_call 21; refine (HC.out _ _ _).mono ?_; rintro e w1 ⟨rfl, rfl⟩)
      go_ret
      exact ⟨g', c', rfl, ag, a0, a1, ab⟩
end Go.Proofs.Ytamanckcnhhaiaa
