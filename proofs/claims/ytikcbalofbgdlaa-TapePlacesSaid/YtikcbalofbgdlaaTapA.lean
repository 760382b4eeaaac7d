/-
  The walks over package tape: isNone, plus, to, end, Base, Sure, End, Room; the order of offsets.
-/
import Derived.Test.YtikcbalofbgdlaaTapBase
namespace Go.Proofs.Ytikcbalofbgdlaa
open Go.RowKit

/-- What a tape that is none is. -/
structure NoTape (w : World) (v : Value) : Prop where
  none : v = .pointer none ∨ ∃ A, v = .pointer (some ⟨A, 0, .none⟩) ∧ w.cell? ⟨A, 0, .none⟩ = some (.bool false)

set_option maxRecDepth 100000 in
theorem isNone_none {v : Value} {w : World} (h : NoTape w v) : Calls Try.prog 27 #[v] w fun e w' => e = .returned (.bool true) ∧ w = w' := by
  rcases h.none with rfl | ⟨A, rfl, h1⟩
  · go_enter Try.func27, Try.ntmps27
    go_wp2
    go_ret
    exact ⟨rfl, rfl⟩
  · go_enter Try.func27, Try.ntmps27
    go_wp2
    go_ret
    exact ⟨rfl, rfl⟩

set_option maxRecDepth 100000 in
theorem isNone_any (d : TV) (w : World) (h : d.In w) : Calls Try.prog 27 #[d.ptr] w fun e w' => e = .returned (.bool false) ∧ w = w' := by
  have c0 := h.c0
  clear h
  unfold TV.ptr
  go_enter Try.func27, Try.ntmps27
  go_wp2
  go_ret
  exact ⟨rfl, rfl⟩

set_option maxRecDepth 100000 in
theorem plus_any (o n : Nat) (w : World) (h : o + n ≤ 9223372036854775807) : Calls Try.prog 38 #[.int .u64 (o : Int), .int .i64 (n : Int)] w fun e w' => e = .returned (.int .u64 ((o + n : Nat) : Int)) ∧ w = w' := by
  have h1 : (n : Int) ≤ 9223372036854775807 := by omega
  have h2 : (o : Int) + (n : Int) ≤ 9223372036854775807 := by omega
  clear h
  go_enter Try.func38, Try.ntmps38
  go_wp2
  go_ret
  exact ⟨by simp, rfl⟩

set_option maxRecDepth 100000 in
theorem to_any (a b : Nat) (w : World) (h : a ≤ b) (hb : b ≤ 9223372036854775807) : Calls Try.prog 36 #[.int .u64 (a : Int), .int .u64 (b : Int)] w fun e w' => e = .returned (.int .i64 ((b - a : Nat) : Int)) ∧ w = w' := by
  have h1 : (a : Int) ≤ (b : Int) := by omega
  have h2 : (b : Int) ≤ 9223372036854775807 := by omega
  have e : ((b - a : Nat) : Int) = (b : Int) - (a : Int) := by omega
  rw [e]
  clear h hb e
  go_enter Try.func36, Try.ntmps36
  go_wp2
  go_ret
  exact ⟨rfl, rfl⟩

set_option maxRecDepth 100000 in
theorem end_any (d : TV) (w : World) (h : d.In w) : Calls Try.prog 35 #[d.ptr] w fun e w' => e = .returned (.int .u64 (d.s.fin : Int)) ∧ w' = w.drew := by
  have HP := Lib.hid (plus_any d.s.base d.s.l.length w.drew (by have := h.ok.small; show d.s.fin ≤ _; omega))
  have c2 := h.drew.c2
  have c3 := h.drew.c3
  have hf : (d.s.base + d.s.l.length) = d.s.fin := rfl
  rw [hf] at HP
  clear h hf
  unfold TV.ptr
  go_enter Try.func35, Try.ntmps35
  go_wp2_with fail
  go_still_tail 9, (by kernel_rfl)
  change wpList _ _ _ _ _ w.drew
  go_wp2_with fail
  refine HP.out.mono ?_
  rintro e w1 ⟨rfl, rfl⟩
  go_wp2
  go_ret
  exact ⟨rfl, rfl⟩

set_option maxRecDepth 100000 in
theorem less_any (a b : Nat) (w : World) : Calls Try.prog 42 #[.int .u64 (a : Int), .int .u64 (b : Int)] w fun e w' => e = .returned (.bool (decide (a < b))) ∧ w = w' := by
  have HN : ∀ (x : Int) (wx : World), Calls Try.prog 43 #[.int .u64 x] wx fun e w' => e = .returned (.bool false) ∧ wx = w' := fun x wx => by
    go_enter Try.func43, Try.ntmps43
    go_wp2
    go_ret
    exact ⟨by simp, rfl⟩
  have hd : decide (a < b) = decide ((a : Int) < (b : Int)) := by simp
  rw [hd]
  go_enter Try.func42, Try.ntmps42
  go_wp2_with fail
  refine (HN _ _).mono ?_
  rintro e w1 ⟨rfl, rfl⟩
  go_wp2
  go_ret
  exact ⟨rfl, rfl⟩

/-- Numbers in order. -/
def inOrd : List Nat → Bool
  | [] => true
  | [_] => true
  | a :: b :: l => decide (a ≤ b) && inOrd (b :: l)
theorem inOrd_iff : ∀ l : List Nat, inOrd l = true ↔ ∀ j (h : j + 1 < l.length), l[j] ≤ l[j + 1]
  | [] => by simp [inOrd]
  | [_] => by simp [inOrd]
  | a :: b :: l => by
    have ih := inOrd_iff (b :: l)
    unfold inOrd
    rw [Bool.and_eq_true, decide_eq_true_eq, ih]
    constructor
    · rintro ⟨h1, h2⟩ j hj
      cases j with
      | zero => exact h1
      | succ j => exact h2 j (by simpa using hj)
    · intro h
      exact ⟨h 0 (by simp), fun j hj => h (j + 1) (by simpa using hj)⟩

def nums64 (l : List Nat) : List Value := l.map fun n : Nat => .int .u64 (n : Int)

set_option maxRecDepth 100000 in
set_option maxHeartbeats 1000000 in
theorem sorted_any (g n c : Nat) (l : List Nat) (w : World) (hr : Row w g 48 (nums64 l) (0, 0)) (hl : l.length = n) (hn : n ≤ 1000) : Calls Try.prog 41 #[.slice (some ⟨g, 0, none⟩) n c] w fun e w' => e = .returned (.bool (inOrd l)) ∧ ∃ k, w' = w.drewN k := by
  subst hl
  have hcell : ∀ j (hj : j < l.length), w.cell? ⟨g, j, none⟩ = some (.int .u64 (l[j] : Int)) := fun j hj => by
    rw [hr.cell]; simp [nums64, List.getElem?_eq_getElem hj]
  have HC := Lib.hid hcell
  have HI := Lib.hid (inOrd_iff l)
  have hn1 : (l.length : Int) ≤ 1000 := by omega
  obtain ⟨b, hb⟩ : ∃ b, inOrd l = b := ⟨_, rfl⟩
  rw [hb] at HI ⊢
  have HB := Lib.hid hb
  clear hr hcell hn hb
  go_enter Try.func41, Try.ntmps41
  go_wp2_with fail
  go_outline
  go_loopw [3] (fun i wr => ∃ k : Int, i = .int .i64 k ∧ -1 ≤ k ∧ k < l.length ∧ Hid (∃ m, wr = w.drewN m) ∧ Hid (∀ j (h : j + 1 < l.length), k ≤ j → l[j]'(by omega) ≤ l[j + 1])) (fun i _ => (intOf i).toNat)
  case atStart => exact ⟨_, rfl, by omega, by omega, Lib.hid ⟨0, rfl⟩, Lib.hid (fun j h hk => by omega)⟩
  case round =>
    obtain ⟨k, rfl, h0, h1, HD, HS⟩ := hrel
    by_cases hk : k ≤ 0
    · have hb : b = true := HI.out.2 fun j hj => HS.out j hj (by omega)
      clear HS HC HI HB
      subst hb
      go_wp2_with fail
      go_ret
      exact ⟨rfl, HD.out⟩
    · obtain ⟨p, rfl⟩ : ∃ p : Nat, k = (p : Int) + 1 := ⟨(k - 1).toNat, by omega⟩
      have hp : p + 1 < l.length := by omega
      have ca : wr.drew.cell? ⟨g, p + 1, none⟩ = some (.int .u64 (l[p + 1]'hp : Int)) := by obtain ⟨m, rfl⟩ := HD.out; exact HC.out (p + 1) hp
      have cb : wr.drew.cell? ⟨g, p, none⟩ = some (.int .u64 (l[p]'(by omega) : Int)) := by obtain ⟨m, rfl⟩ := HD.out; exact HC.out p (by omega)
      have HL := Lib.hid (less_any (l[p + 1]'hp) (l[p]'(by omega)) wr.drew)
      have HN := Lib.hid (show ¬ l[p + 1]'hp < l[p]'(by omega) → Hid (∀ j (h : j + 1 < l.length), (p : Int) ≤ j → l[j]'(by omega) ≤ l[j + 1]) from fun hlt => Lib.hid (fun j hj hpj => by
        by_cases e : j = p
        · subst e; omega
        · exact HS.out j hj (by omega)))
      have HF := Lib.hid (show l[p + 1]'hp < l[p]'(by omega) → b = false from fun hlt => by
        cases hb : b with
        | false => rfl
        | true => have := HI.out.1 hb p hp; omega)
      have HD1 := Lib.hid (show ∃ m, wr.drew = w.drewN m from by obtain ⟨m, rfl⟩ := HD.out; exact ⟨m + 1, rfl⟩)
      clear HC HI HB HS HD
      generalize l[p + 1]'hp = x at *
      generalize l[p]'(by omega) = y at *
      have hpi : (p : Int) + 1 < l.length := by omega
      have hp0 : (0 : Int) ≤ (p : Int) + 1 := by omega
      have hpj : (p : Int) < l.length := by omega
      have e0 : IntKind.i64.wrap (p : Int) = (p : Int) := IntWalk.i64_in _ (by omega)
      clear hp h0 h1 hk
      go_wp2_with fail
      go_still_tail 9, (by kernel_rfl)
      change wpList _ _ _ _ _ wr.drew
      go_wp2_with fail
      refine HL.out.mono ?_
      rintro e w1 ⟨rfl, rfl⟩
      by_cases hlt : x < y
      · obtain rfl := HF.out hlt
        have hd : decide (x < y) = true := by simpa using hlt
        rw [hd]
        clear HF HN
        go_wp2_with fail
        go_ret
        exact ⟨rfl, HD1.out⟩
      · have hd : decide (x < y) = false := by simpa using hlt
        have HS1 := HN.out hlt
        rw [hd]
        clear HF HN hlt
        go_wp2_with fail
        go_roundw
        case rel => exact ⟨p, by go_num, by omega, by omega, HD1, HS1⟩
        case measure => simp [intOf]

set_option maxRecDepth 100000 in
theorem inOrder_any (g n c : Nat) (l : List Nat) (w : World) (hr : Row w g 48 (nums64 l) (0, 0)) (hl : l.length = n) (hn : n ≤ 1000) : Calls Try.prog 39 #[.slice (some ⟨g, 0, none⟩) n c] w fun e w' => e = .returned (.bool (inOrd l)) ∧ ∃ k, w' = w.drewN k := by
  have HS := Lib.hid (sorted_any g n c l w hr hl hn)
  clear hr hl hn
  go_enter Try.func39, Try.ntmps39
  go_wp2_with fail
  refine HS.out.mono ?_
  rintro e w1 ⟨rfl, k, rfl⟩
  go_wp2
  go_ret
  exact ⟨rfl, k, rfl⟩

section
variable {w : World} {v : Value}
set_option maxRecDepth 100000 in
theorem append_none (h : NoTape w v) (s : ByteArray) : Calls Try.prog 16 #[v, .string s] w fun e w' => e = .returned (.int .i64 1) ∧ w = w' := by
  have HN := Lib.hid (isNone_none h)
  clear h
  go_enter Try.func16, Try.ntmps16
  go_wp2_with fail
  refine HN.out.mono ?_
  rintro e w1 ⟨rfl, rfl⟩
  go_wp2
  go_ret
  exact ⟨rfl, rfl⟩
set_option maxRecDepth 100000 in
theorem force_none (h : NoTape w v) : Calls Try.prog 17 #[v] w fun e w' => e = .returned (.int .i64 1) ∧ w = w' := by
  have HN := Lib.hid (isNone_none h)
  clear h
  go_enter Try.func17, Try.ntmps17
  go_wp2_with fail
  refine HN.out.mono ?_
  rintro e w1 ⟨rfl, rfl⟩
  go_wp2
  go_ret
  exact ⟨rfl, rfl⟩
set_option maxRecDepth 100000 in
theorem drop_none (h : NoTape w v) (n : Int) : Calls Try.prog 24 #[v, .int .u64 n] w fun e w' => e = .returned (.int .i64 1) ∧ w = w' := by
  have HN := Lib.hid (isNone_none h)
  clear h
  go_enter Try.func24, Try.ntmps24
  go_wp2_with fail
  refine HN.out.mono ?_
  rintro e w1 ⟨rfl, rfl⟩
  go_wp2
  go_ret
  exact ⟨rfl, rfl⟩
set_option maxRecDepth 100000 in
theorem cut_none (h : NoTape w v) (n : Int) : Calls Try.prog 25 #[v, .int .u64 n] w fun e w' => e = .returned (.int .i64 1) ∧ w = w' := by
  have HN := Lib.hid (isNone_none h)
  clear h
  go_enter Try.func25, Try.ntmps25
  go_wp2_with fail
  refine HN.out.mono ?_
  rintro e w1 ⟨rfl, rfl⟩
  go_wp2
  go_ret
  exact ⟨rfl, rfl⟩
set_option maxRecDepth 100000 in
theorem read_none (h : NoTape w v) (m n : Int) : Calls Try.prog 19 #[v, .int .u64 m, .int .u64 n] w fun e w' => e = .returned (.tuple #[.string ⟨#[]⟩, .int .i64 1]) ∧ w = w' := by
  have HN := Lib.hid (isNone_none h)
  clear h
  go_enter Try.func19, Try.ntmps19
  go_wp2_with fail
  refine HN.out.mono ?_
  rintro e w1 ⟨rfl, rfl⟩
  go_wp2
  go_ret2
  exact ⟨rfl, rfl⟩
set_option maxRecDepth 100000 in
theorem crash_none (h : NoTape w v) (n : Int) : Calls Try.prog 18 #[v, .int .i64 n] w fun e w' => e = .returned (.tuple #[]) ∧ w = w' := by
  have HN := Lib.hid (isNone_none h)
  clear h
  go_enter Try.func18, Try.ntmps18
  go_wp2_with fail
  refine HN.out.mono ?_
  rintro e w1 ⟨rfl, rfl⟩
  go_wp2
  exact bodyPost_ret (v := .tuple #[]) (by simp [results, Try.results18, go_sem]) rfl ⟨rfl, rfl⟩
set_option maxRecDepth 100000 in
theorem copy_none (h : NoTape w v) : Calls Try.prog 13 #[v] w fun e w' => e = .returned (.pointer none) ∧ w = w' := by
  have HN := Lib.hid (isNone_none h)
  clear h
  go_enter Try.func13, Try.ntmps13
  go_wp2_with fail
  refine HN.out.mono ?_
  rintro e w1 ⟨rfl, rfl⟩
  go_wp2
  go_ret
  exact ⟨rfl, rfl⟩
set_option maxRecDepth 100000 in
theorem base_none (h : NoTape w v) : Calls Try.prog 22 #[v] w fun e w' => e = .returned (.int .u64 0) ∧ w = w' := by
  have HN := Lib.hid (isNone_none h)
  clear h
  go_enter Try.func22, Try.ntmps22
  go_wp2_with fail
  refine HN.out.mono ?_
  rintro e w1 ⟨rfl, rfl⟩
  go_wp2
  go_ret
  exact ⟨rfl, rfl⟩
set_option maxRecDepth 100000 in
theorem sure_none (h : NoTape w v) : Calls Try.prog 21 #[v] w fun e w' => e = .returned (.int .u64 0) ∧ w = w' := by
  have HN := Lib.hid (isNone_none h)
  clear h
  go_enter Try.func21, Try.ntmps21
  go_wp2_with fail
  refine HN.out.mono ?_
  rintro e w1 ⟨rfl, rfl⟩
  go_wp2
  go_ret
  exact ⟨rfl, rfl⟩
set_option maxRecDepth 100000 in
theorem End_none (h : NoTape w v) : Calls Try.prog 20 #[v] w fun e w' => e = .returned (.int .u64 0) ∧ w = w' := by
  have HN := Lib.hid (isNone_none h)
  clear h
  go_enter Try.func20, Try.ntmps20
  go_wp2_with fail
  refine HN.out.mono ?_
  rintro e w1 ⟨rfl, rfl⟩
  go_wp2
  go_ret
  exact ⟨rfl, rfl⟩
set_option maxRecDepth 100000 in
theorem room_none (h : NoTape w v) : Calls Try.prog 23 #[v] w fun e w' => e = .returned (.int .i64 0) ∧ w = w' := by
  have HN := Lib.hid (isNone_none h)
  clear h
  go_enter Try.func23, Try.ntmps23
  go_wp2_with fail
  refine HN.out.mono ?_
  rintro e w1 ⟨rfl, rfl⟩
  go_wp2
  go_ret
  exact ⟨rfl, rfl⟩
end

section
variable (d : TV) (w : World)
set_option maxRecDepth 100000 in
theorem base_any (h : d.In w) : Calls Try.prog 22 #[d.ptr] w fun e w' => e = .returned (.int .u64 (d.s.base : Int)) ∧ w = w' := by
  have HN := Lib.hid (isNone_any d w h)
  have c3 := h.c3
  clear h
  unfold TV.ptr at HN ⊢
  go_enter Try.func22, Try.ntmps22
  go_wp2_with fail
  refine HN.out.mono ?_
  rintro e w1 ⟨rfl, rfl⟩
  go_wp2
  go_ret
  exact ⟨rfl, rfl⟩
set_option maxRecDepth 100000 in
theorem sure_any (h : d.In w) : Calls Try.prog 21 #[d.ptr] w fun e w' => e = .returned (.int .u64 (d.s.sure : Int)) ∧ w = w' := by
  have HN := Lib.hid (isNone_any d w h)
  have c4 := h.c4
  clear h
  unfold TV.ptr at HN ⊢
  go_enter Try.func21, Try.ntmps21
  go_wp2_with fail
  refine HN.out.mono ?_
  rintro e w1 ⟨rfl, rfl⟩
  go_wp2
  go_ret
  exact ⟨rfl, rfl⟩
set_option maxRecDepth 100000 in
theorem End_any (h : d.In w) : Calls Try.prog 20 #[d.ptr] w fun e w' => e = .returned (.int .u64 (d.s.fin : Int)) ∧ w' = w.drew := by
  have HN := Lib.hid (isNone_any d w h)
  have HE := Lib.hid (end_any d w h)
  clear h
  unfold TV.ptr at HN HE ⊢
  go_enter Try.func20, Try.ntmps20
  go_wp2_with fail
  refine HN.out.mono ?_
  rintro e w1 ⟨rfl, rfl⟩
  go_wp2_with fail
  refine HE.out.mono ?_
  rintro e w1 ⟨rfl, rfl⟩
  go_wp2
  go_ret
  exact ⟨rfl, rfl⟩
set_option maxRecDepth 100000 in
theorem room_any (h : d.In w) : Calls Try.prog 23 #[d.ptr] w fun e w' => e = .returned (.int .i64 ((d.s.room - d.s.l.length : Nat) : Int)) ∧ ∃ n, w' = w.drewN n := by
  have HN := Lib.hid (isNone_any d w h)
  have c1 := h.c1
  have c2 := h.c2
  have h1 := h.ok.lr
  have h2 := h.ok.rm
  have hr : ((d.s.room - d.s.l.length : Nat) : Int) = (d.s.room : Int) - (d.s.l.length : Int) := by omega
  rw [hr]
  have h3 : (d.s.l.length : Int) ≤ (d.s.room : Int) := by omega
  have h4 : (d.s.room : Int) ≤ 9223372036854775807 := by omega
  clear h hr h1 h2
  unfold TV.ptr at HN ⊢
  go_enter Try.func23, Try.ntmps23
  go_wp2_with fail
  refine HN.out.mono ?_
  rintro e w1 ⟨rfl, rfl⟩
  go_wp2_with fail
  go_quiet (fail)
  go_wp2
  go_ret
  exact ⟨rfl, _, rfl⟩
end
end Go.Proofs.Ytikcbalofbgdlaa
