/-
  The document's tape, as its code keeps it, and its calls.
-/
import Derived.Test.YtjahkaockjhibaaDoorMTapB
namespace Go.Proofs.YtjahkaockjhibaaDoor
open Go.RowKit

/-- The document's tape: all bytes that were ever put, and the places. -/
structure RT where
  space : Nat
  all : ByteArray
  base : Nat
  sure : Nat
namespace RT
/-- The plain tape that it is. -/
def st (r : RT) : ST := ⟨r.space, r.base, r.sure, (txt r.all).drop r.base⟩
structure Ok (r : RT) : Prop where
  ba : r.base ≤ r.all.size
  ok : r.st.Ok
theorem Ok.len {r : RT} (_ : r.Ok) : r.st.l.length = r.all.size - r.base := by show ((txt r.all).drop r.base).length = _; rw [List.length_drop, txt_length]
theorem Ok.fin {r : RT} (h : r.Ok) : r.st.fin = r.all.size := by
  unfold ST.fin; rw [h.len]; show r.base + _ = _; have := h.ba; omega
theorem Ok.small {r : RT} (h : r.Ok) : r.all.size ≤ 100000000 := by rw [← h.fin]; exact h.ok.small
def cells (r : RT) : List Value := [.int .i64 (r.space : Int), .string r.all, .int .i64 (r.base : Int), .int .i64 (r.sure : Int)]
end RT

/-- It lies at B. -/
structure RIn (B : Nat) (r : RT) (w : World) : Prop where
  row : Row w B 64 r.cells (0, 0)
  ok : r.Ok
def rptr (B : Nat) : Value := .pointer (some ⟨B, 0, none⟩)

section
variable {B : Nat} {r : RT} {w w' : World} {F : Nat → Prop}
theorem RIn.only (h : RIn B r w) (ho : Only F w w') (hF : ¬ F B) : RIn B r w' := ⟨h.row.only ho hF, h.ok⟩
theorem RIn.keeps (h : RIn B r w) (hb : Below w.heap.size w w') : RIn B r w' := ⟨h.row.below hb h.row.lt, h.ok⟩
theorem RIn.drewN (h : RIn B r w) (n : Nat) : RIn B r (w.drewN n) := ⟨h.row, h.ok⟩
theorem RIn.drew (h : RIn B r w) : RIn B r w.drew := ⟨h.row, h.ok⟩
theorem RIn.c0 (h : RIn B r w) : w.cell? ⟨B, 0, none⟩ = some (.int .i64 (r.space : Int)) := h.row.cell 0
theorem RIn.c1 (h : RIn B r w) : w.cell? ⟨B, 1, none⟩ = some (.string r.all) := h.row.cell 1
theorem RIn.c2 (h : RIn B r w) : w.cell? ⟨B, 2, none⟩ = some (.int .i64 (r.base : Int)) := h.row.cell 2
theorem RIn.c3 (h : RIn B r w) : w.cell? ⟨B, 3, none⟩ = some (.int .i64 (r.sure : Int)) := h.row.cell 3
theorem RIn.free (h : RIn B r w) (i : Nat) : w.frozen? ⟨B, i, none⟩ = false := h.row.loose i
end

/-- What a call that turns it does. -/
def RTurned (B : Nat) (w : World) (s' : ST) (a : Value) (e : Ending) (w' : World) : Prop := e = .returned a ∧ ∃ r' : RT, RIn B r' w' ∧ r'.st = s' ∧ Only (· = B) w w'

set_option maxRecDepth 100000 in
theorem rnew_any (room : Int) (w : World) (hr : room ≤ 9223372036854775807) : Calls Tryd.prog 10 #[.int .i64 room] w fun e w' => e = .returned (rptr w.heap.size) ∧ RIn w.heap.size ⟨room.toNat, ⟨#[]⟩, 0, 0⟩ w' ∧ Below w.heap.size w w' ∧ w'.heap.size = w.heap.size + 1 := by
  have HF := Lib.hid (show ∀ k : Int, k = max room 0 → ∀ w1, w1 = w.alloc (.cells #[.int .i64 k, .string ⟨#[]⟩, .int .i64 0, .int .i64 0] 64) → RIn w.heap.size ⟨room.toNat, ⟨#[]⟩, 0, 0⟩ w1 ∧ Below w.heap.size w w1 ∧ w1.heap.size = w.heap.size + 1 from fun k hk w1 h1 => by
    subst h1
    have e : ((room.toNat : Nat) : Int) = k := by omega
    refine ⟨⟨?_, Nat.zero_le _, ⟨Nat.le_refl _, Nat.zero_le _, Nat.zero_le _, by show room.toNat ≤ _; omega, by show 0 + 0 ≤ _; omega⟩⟩, (Below.refl _ _).alloc (Nat.le_refl _) _, by simp⟩
    have := Row.new w 64 [.int .i64 k, .string ⟨#[]⟩, .int .i64 0, .int .i64 0] (0, 0)
    show Row _ _ _ [.int .i64 ((room.toNat : Nat) : Int), .string ⟨#[]⟩, .int .i64 0, .int .i64 0] _
    rw [e]; exact this)
  by_cases h : room < 0
  · go_enter Tryd.func10, Tryd.ntmps10
    go_wp2
    go_ret
    exact ⟨rfl, HF.out _ (by omega) _ rfl⟩
  · have h1 : 0 ≤ room := by omega
    go_enter Tryd.func10, Tryd.ntmps10
    go_wp2
    go_ret
    exact ⟨rfl, HF.out _ (by omega) _ rfl⟩

section
variable (B : Nat) (r : RT) (w : World)
set_option maxRecDepth 100000 in
theorem rroom_any (h : RIn B r w) : Calls Tryd.prog 48 #[rptr B] w fun e w' => e = .returned (.int .i64 ((r.st.room - r.st.l.length : Nat) : Int)) ∧ ∃ n, w' = w.drewN n := by
  have c0 := h.c0
  have c1 := h.c1
  have c2 := h.c2
  have hl := h.ok.len
  have hba := h.ok.ba
  have hlr : r.all.size - r.base ≤ r.space := by have := h.ok.ok.lr; rw [hl] at this; exact this
  have hrm : r.space ≤ 9223372036854775807 := h.ok.ok.rm
  have hs : (r.all.size : Int) ≤ 100000000 := by have := h.ok.small; omega
  have e : ((r.st.room - r.st.l.length : Nat) : Int) = (r.space : Int) - ((r.all.size : Int) - (r.base : Int)) := by rw [hl]; show ((r.space - _ : Nat) : Int) = _; omega
  rw [e]
  have q1 : (r.base : Int) ≤ r.all.size := by omega
  have q2 : (r.all.size : Int) - r.base ≤ r.space := by omega
  have q3 : (r.space : Int) ≤ 9223372036854775807 := by omega
  clear h hl e hba hlr hrm
  unfold rptr
  go_enter Tryd.func48, Tryd.ntmps48
  go_wp2_with fail
  go_quiet (fail)
  go_wp2
  go_ret
  exact ⟨rfl, _, rfl⟩

set_option maxRecDepth 100000 in
theorem rforce_any (h : RIn B r w) : Calls Tryd.prog 45 #[rptr B] w (RTurned B w r.st.force (.tuple #[])) := by
  have c1 := h.c1
  have c3 := h.c3
  have f3 := h.free 3
  have hs : (r.all.size : Int) ≤ 100000000 := by have := h.ok.small; omega
  have HF := Lib.hid (show RTurned B w r.st.force (.tuple #[]) (.returned (.tuple #[])) (w.setCell ⟨B, 3, none⟩ (.int .i64 (r.all.size : Int))) from by
    have e : RT.st { r with sure := r.all.size } = r.st.force := by
      unfold ST.force; rw [h.ok.fin]; rfl
    refine ⟨rfl, { r with sure := r.all.size }, ⟨h.row.put 3 _, h.ok.ba, by rw [e]; exact h.ok.ok.force⟩, e, (Only.refl (· = B) w).setCell rfl _⟩)
  obtain ⟨P, hP⟩ : ∃ P, RTurned B w r.st.force (.tuple #[]) = P := ⟨_, rfl⟩
  simp only [hP] at HF ⊢
  clear hP h
  unfold rptr
  go_enter Tryd.func45, Tryd.ntmps45
  go_wp2
  exact bodyPost_ret (v := .tuple #[]) (by simp [results, Tryd.results45, go_sem]) rfl HF.out

set_option maxRecDepth 100000 in
theorem rappend_any (t : ByteArray) (h : RIn B r w) (ht : r.st.fin + t.size ≤ 100000000) : Calls Tryd.prog 30 #[rptr B, .string t] w (RTurned B w (r.st.append t) (.int .i64 (if r.st.fits t then 0 else 6))) := by
  have HR := Lib.hid (rroom_any B r w h)
  have c1 := h.c1
  have f1 := h.free 1
  have hsz := h.ok.fin
  have hs : (r.all.size : Int) + (t.size : Int) ≤ 100000000 := by omega
  by_cases hf : r.st.fits t
  · have hfi : (t.size : Int) ≤ ((r.st.room - r.st.l.length : Nat) : Int) := by unfold ST.fits at hf; omega
    rw [if_pos hf]
    have HF := Lib.hid (fun n : Nat => show RTurned B w (r.st.append t) (.int .i64 0) (.returned (.int .i64 0)) ((w.drewN n).setCell ⟨B, 1, none⟩ (.string (r.all ++ t))) from by
      have e : RT.st { r with all := r.all ++ t } = r.st.append t := by
        rw [show r.st.append t = { r.st with l := r.st.l ++ txt t } from if_pos hf]
        show (⟨r.space, r.base, r.sure, (txt (r.all ++ t)).drop r.base⟩ : ST) = ⟨r.space, r.base, r.sure, (txt r.all).drop r.base ++ txt t⟩
        rw [txt_append, List.drop_append_of_le_length (by rw [txt_length]; exact h.ok.ba)]
      refine ⟨rfl, { r with all := r.all ++ t }, ⟨Row.put (w := w.drewN n) h.row 1 _, ?_, by rw [e]; exact h.ok.ok.append t ht⟩, e, ((Only.refl (· = B) w).drewN n).setCell rfl _⟩
      show r.base ≤ (r.all ++ t).size
      rw [size_append]; have := h.ok.ba; omega)
    obtain ⟨P, hP⟩ : ∃ P, RTurned B w (r.st.append t) (.int .i64 0) = P := ⟨_, rfl⟩
    simp only [hP] at HF ⊢
    clear hP h hf hsz ht
    unfold rptr at HR ⊢
    go_enter Tryd.func30, Tryd.ntmps30
    go_wp2_with fail
    refine HR.out.mono ?_
    rintro e w1 ⟨rfl, n, rfl⟩
    go_wp2
    exact HF.out n
  · have hfi : ((r.st.room - r.st.l.length : Nat) : Int) < (t.size : Int) := by unfold ST.fits at hf; omega
    rw [if_neg hf, show r.st.append t = r.st from if_neg hf]
    have HF := Lib.hid (fun n : Nat => show RTurned B w r.st (.int .i64 6) (.returned (.int .i64 6)) (w.drewN n) from ⟨rfl, r, h.drewN n, rfl, (Only.refl _ _).drewN n⟩)
    obtain ⟨P, hP⟩ : ∃ P, RTurned B w r.st (.int .i64 6) = P := ⟨_, rfl⟩
    simp only [hP] at HF ⊢
    clear hP h hf hsz ht
    unfold rptr at HR ⊢
    go_enter Tryd.func30, Tryd.ntmps30
    go_wp2_with fail
    refine HR.out.mono ?_
    rintro e w1 ⟨rfl, n, rfl⟩
    go_wp2
    exact HF.out n

set_option maxRecDepth 100000 in
theorem rdrop_any (to : Nat) (h : RIn B r w) (ht : to < 18446744073709551616) : Calls Tryd.prog 55 #[rptr B, .int .u64 (to : Int)] w (RTurned B w (r.st.drop to) (.int .i64 (if r.st.drops to then 0 else 2))) := by
  have c2 := h.c2
  have c3 := h.c3
  have f2 := h.free 2
  have hba := h.ok.ba
  have hsm := h.ok.small
  have hsf : r.sure ≤ r.all.size := by have := h.ok.ok.sf; rw [h.ok.fin] at this; exact this
  have hs : (r.sure : Int) ≤ 100000000 := by omega
  have hb : (r.base : Int) ≤ 100000000 := by omega
  by_cases hrd : r.st.drops to
  · obtain ⟨h1, h2⟩ := hrd
    have g1 : (r.base : Int) ≤ to := by have : r.base ≤ to := h1; omega
    have g2 : (to : Int) ≤ r.sure := by have : to ≤ r.sure := h2; omega
    rw [if_pos ⟨h1, h2⟩]
    have HF := Lib.hid (show RTurned B w (r.st.drop to) (.int .i64 0) (.returned (.int .i64 0)) (w.setCell ⟨B, 2, none⟩ (.int .i64 (to : Int))) from by
      have e : RT.st { r with base := to } = r.st.drop to := by
        unfold ST.drop
        rw [if_pos ⟨h1, h2⟩]
        show (⟨r.space, to, r.sure, (txt r.all).drop to⟩ : ST) = ⟨r.space, to, r.sure, ((txt r.all).drop r.base).drop (to - r.base)⟩
        rw [List.drop_drop]
        congr 2
        have : r.base ≤ to := h1
        omega
      refine ⟨rfl, { r with base := to }, ⟨h.row.put 2 _, ?_, by rw [e]; exact h.ok.ok.drop to⟩, e, (Only.refl (· = B) w).setCell rfl _⟩
      show to ≤ r.all.size
      have : to ≤ r.sure := h2
      omega)
    obtain ⟨P, hP⟩ : ∃ P, RTurned B w (r.st.drop to) (.int .i64 0) = P := ⟨_, rfl⟩
    simp only [hP] at HF ⊢
    clear hP h h1 h2 hba hsm hsf ht
    unfold rptr
    go_enter Tryd.func55, Tryd.ntmps55
    go_wp2
    exact HF.out
  · rw [if_neg hrd, show r.st.drop to = r.st from if_neg hrd]
    have hcase : (to : Int) < r.base ∨ ((r.base : Int) ≤ to ∧ (r.sure : Int) < to) := by
      have : ¬ (r.base ≤ to ∧ to ≤ r.sure) := hrd
      omega
    have HF := Lib.hid (show RTurned B w r.st (.int .i64 2) (.returned (.int .i64 2)) w from ⟨rfl, r, h, rfl, Only.refl _ _⟩)
    obtain ⟨P, hP⟩ : ∃ P, RTurned B w r.st (.int .i64 2) = P := ⟨_, rfl⟩
    simp only [hP] at HF ⊢
    clear hP h hba hsm hrd
    unfold rptr
    rcases hcase with h1 | ⟨h1, h2⟩
    · go_enter Tryd.func55, Tryd.ntmps55
      go_wp2
      exact HF.out
    · go_enter Tryd.func55, Tryd.ntmps55
      go_wp2
      exact HF.out

theorem cut_st (h : r.Ok) (to : Nat) (h1 : r.base ≤ to) (h2 : to ≤ r.all.size) : RT.st { r with all := r.all.extract 0 to, sure := min r.sure to } = r.st.shorten to ∧ (RT.Ok { r with all := r.all.extract 0 to, sure := min r.sure to }) := by
  have e : RT.st { r with all := r.all.extract 0 to, sure := min r.sure to } = r.st.shorten to := by
    unfold ST.shorten RT.st
    show (⟨r.space, r.base, min r.sure to, (txt (r.all.extract 0 to)).drop r.base⟩ : ST) = ⟨r.space, r.base, min r.sure to, ((txt r.all).drop r.base).take (to - r.base)⟩
    rw [txt_extract, List.drop_zero, List.drop_take]
  refine ⟨e, ?_, by rw [e]; exact (h.ok.shorten h1 (by rw [h.fin]; exact h2)).1⟩
  show r.base ≤ (r.all.extract 0 to).size
  rw [← txt_length, txt_extract, List.drop_zero, List.length_take, txt_length]; omega

set_option maxRecDepth 100000 in
theorem rcut_any (to : Nat) (h : RIn B r w) (ht : to < 18446744073709551616) : Calls Tryd.prog 44 #[rptr B, .int .u64 (to : Int)] w (RTurned B w (r.st.cut to) (.int .i64 (if r.st.cuts to then 0 else 2))) := by
  have c1 := h.c1
  have c2 := h.c2
  have c3 := h.c3
  have f1 := h.free 1
  have f3 := h.free 3
  have hba := h.ok.ba
  have hsm := h.ok.small
  have hsf : r.sure ≤ r.all.size := by have := h.ok.ok.sf; rw [h.ok.fin] at this; exact this
  have hs : (r.sure : Int) ≤ 100000000 := by omega
  have hz : (r.all.size : Int) ≤ 100000000 := by omega
  have hb : (r.base : Int) ≤ 100000000 := by omega
  have hiff : r.st.cuts to ↔ r.base ≤ to ∧ to ≤ r.all.size := by unfold ST.cuts; rw [h.ok.fin]; rfl
  by_cases hrd : r.st.cuts to
  · obtain ⟨h1, h2⟩ := hiff.1 hrd
    have g1 : (r.base : Int) ≤ to := by omega
    have g2 : (to : Int) ≤ r.all.size := by omega
    rw [if_pos hrd, show r.st.cut to = r.st.shorten to from if_pos hrd]
    obtain ⟨e1, e2⟩ := cut_st r h.ok to h1 h2
    by_cases h3 : to < r.sure
    · have h3' : (to : Int) < r.sure := by omega
      rw [Nat.min_eq_right (by omega : to ≤ r.sure)] at e1 e2
      have HF := Lib.hid (show RTurned B w (r.st.shorten to) (.int .i64 0) (.returned (.int .i64 0)) ((w.setCell ⟨B, 1, none⟩ (.string (r.all.extract 0 to))).setCell ⟨B, 3, none⟩ (.int .i64 (to : Int))) from
        ⟨rfl, { r with all := r.all.extract 0 to, sure := to }, ⟨(h.row.put 1 _).put 3 _, e2⟩, e1, ((Only.refl (· = B) w).setCell rfl _).setCell rfl _⟩)
      obtain ⟨P, hP⟩ : ∃ P, RTurned B w (r.st.shorten to) (.int .i64 0) = P := ⟨_, rfl⟩
      simp only [hP] at HF ⊢
      clear hP h h1 h2 hba hsm hsf ht hiff hrd e1 e2 h3
      unfold rptr
      go_enter Tryd.func44, Tryd.ntmps44
      go_wp2
      exact HF.out
    · have h3' : (r.sure : Int) ≤ to := by omega
      rw [Nat.min_eq_left (by omega : r.sure ≤ to)] at e1 e2
      have HF := Lib.hid (show RTurned B w (r.st.shorten to) (.int .i64 0) (.returned (.int .i64 0)) (w.setCell ⟨B, 1, none⟩ (.string (r.all.extract 0 to))) from
        ⟨rfl, { r with all := r.all.extract 0 to, sure := r.sure }, ⟨h.row.put 1 _, e2⟩, e1, (Only.refl (· = B) w).setCell rfl _⟩)
      obtain ⟨P, hP⟩ : ∃ P, RTurned B w (r.st.shorten to) (.int .i64 0) = P := ⟨_, rfl⟩
      simp only [hP] at HF ⊢
      clear hP h h1 h2 hba hsm hsf ht hiff hrd e1 e2 h3
      unfold rptr
      go_enter Tryd.func44, Tryd.ntmps44
      go_wp2
      exact HF.out
  · rw [if_neg hrd, show r.st.cut to = r.st from if_neg hrd]
    have hcase : (to : Int) < r.base ∨ ((r.base : Int) ≤ to ∧ (r.all.size : Int) < to) := by
      have : ¬ (r.base ≤ to ∧ to ≤ r.all.size) := fun hh => hrd (hiff.2 hh)
      omega
    have HF := Lib.hid (show RTurned B w r.st (.int .i64 2) (.returned (.int .i64 2)) w from ⟨rfl, r, h, rfl, Only.refl _ _⟩)
    obtain ⟨P, hP⟩ : ∃ P, RTurned B w r.st (.int .i64 2) = P := ⟨_, rfl⟩
    simp only [hP] at HF ⊢
    clear hP h hba hsm hrd hiff hsf
    unfold rptr
    rcases hcase with h1 | ⟨h1, h2⟩
    · go_enter Tryd.func44, Tryd.ntmps44
      go_wp2
      exact HF.out
    · go_enter Tryd.func44, Tryd.ntmps44
      go_wp2
      exact HF.out

set_option maxRecDepth 100000 in
set_option maxHeartbeats 1000000 in
theorem rcrash_any (keep : Int) (h : RIn B r w) (hk : keep ≤ 9223372036854775807) : Calls Tryd.prog 24 #[rptr B, .int .i64 keep] w (RTurned B w (r.st.crash keep) (.tuple #[])) := by
  have hba := h.ok.ba
  have hsm := h.ok.small
  have hsf : r.sure ≤ r.all.size := by have := h.ok.ok.sf; rw [h.ok.fin] at this; exact this
  have hbs : r.base ≤ r.sure := h.ok.ok.bs
  have hs : (r.sure : Int) ≤ r.all.size := by omega
  have hz : (r.all.size : Int) ≤ 100000000 := by omega
  obtain ⟨K, hK⟩ : ∃ K, r.st.kept keep = K := ⟨_, rfl⟩
  have hKe : (K : Int) = min (max keep 0) ((r.all.size : Int) - (r.sure : Int)) := by
    have e1 : (r.st.fin - r.st.sure) = r.all.size - r.sure := by rw [h.ok.fin]; rfl
    rw [← hK]; unfold ST.kept; rw [e1]; omega
  obtain ⟨e1, e2⟩ := cut_st r h.ok (r.sure + K) (by omega) (by omega)
  rw [Nat.min_eq_left (by omega : r.sure ≤ r.sure + K)] at e1 e2
  have HF := Lib.hid (show ∀ (n : Nat) (s : ByteArray) (k : Int), s = r.all.extract 0 (r.sure + K) → k = s.size → RTurned B w (r.st.crash keep) (.tuple #[]) (.returned (.tuple #[])) (((w.drewN n).setCell ⟨B, 1, none⟩ (.string s)).setCell ⟨B, 3, none⟩ (.int .i64 k)) from fun n s k hs hk => by
    subst hs hk
    have e3 : RT.st { r with all := r.all.extract 0 (r.sure + K), sure := (r.all.extract 0 (r.sure + K)).size } = r.st.crash keep := by
      unfold ST.crash
      rw [hK]
      show _ = (r.st.shorten (r.sure + K)).force
      rw [← e1]
      unfold ST.force
      rw [e2.fin]
      rfl
    refine ⟨rfl, { r with all := r.all.extract 0 (r.sure + K), sure := (r.all.extract 0 (r.sure + K)).size }, ⟨(Row.put (w := w.drewN n) h.row 1 _).put 3 _, e2.ba, by rw [e3]; exact h.ok.ok.crash keep⟩, e3, (((Only.refl (· = B) w).drewN n).setCell rfl _).setCell rfl _⟩)
  have hsz : ∀ to : Nat, to ≤ r.all.size → (r.all.extract 0 to).size = to := fun to hto => by
    rw [← txt_length, txt_extract, List.drop_zero, List.length_take, txt_length]; omega
  have HSZ := Lib.hid hsz
  have c1 := h.c1
  have c3 := h.c3
  have f1 := h.free 1
  have f3 := h.free 3
  have HR := Lib.hid h
  obtain ⟨P, hP⟩ : ∃ P, RTurned B w (r.st.crash keep) (.tuple #[]) = P := ⟨_, rfl⟩
  simp only [hP] at HF ⊢
  clear hP h hba hsm hbs e1 e2 hK hsz
  unfold rptr
  go_enter Tryd.func24, Tryd.ntmps24
  go_wp2_with fail
  go_quiet (fail)
  generalize hw1 : w.drewN _ = w1
  obtain ⟨T, hT⟩ : ∃ T, r.sure + K = T := ⟨_, rfl⟩
  rw [hT] at HF
  have HFW := Lib.hid (show ∀ (s : ByteArray) (k : Int), s = r.all.extract 0 T → k = s.size → ∀ wz, wz = (((w1.drew).setCell ⟨B, 1, none⟩ (.string s)).setCell ⟨B, 3, none⟩ (.int .i64 k)) → P (.returned (.tuple #[])) wz from fun s k h1 h2 wz hz => by
    obtain ⟨n, hn⟩ : ∃ n, w1 = w.drewN n := ⟨_, hw1.symm⟩
    subst hn hz
    exact HF.out (n + 1) s k h1 h2)
  have d1 : w1.drew.cell? ⟨B, 1, none⟩ = some (.string r.all) := by subst hw1; exact c1
  have d3 : w1.drew.cell? ⟨B, 3, none⟩ = some (.int .i64 (r.sure : Int)) := by subst hw1; exact c3
  have d1' : w1.cell? ⟨B, 1, none⟩ = some (.string r.all) := by subst hw1; exact c1
  have d3' : w1.cell? ⟨B, 3, none⟩ = some (.int .i64 (r.sure : Int)) := by subst hw1; exact c3
  have g1 : w1.frozen? ⟨B, 1, none⟩ = false := by subst hw1; exact f1
  have g3 : w1.frozen? ⟨B, 3, none⟩ = false := by subst hw1; exact f3
  have hTz : (T : Int) ≤ r.all.size := by omega
  have HMN := Lib.hid (show ((min T r.all.size : Nat) : Int) = ((r.all.extract 0 T).size : Int) from by rw [HSZ.out T (by omega)]; omega)
  have hTK : (T : Int) = r.sure + K := by omega
  clear hw1 c1 c3 f1 f3 HR HF hT
  rcases (show (keep < 0 ∧ 0 < (r.all.size : Int) - r.sure ∧ r.sure < r.all.size) ∨ (keep < 0 ∧ (r.all.size : Int) - r.sure = 0 ∧ (r.all.size : Int) = r.sure) ∨ (0 ≤ keep ∧ keep < (r.all.size : Int) - r.sure) ∨ (0 ≤ keep ∧ (r.all.size : Int) - r.sure ≤ keep) by omega) with ⟨h1, h2, h3⟩ | ⟨h1, h2, h3⟩ | ⟨h1, h2⟩ | ⟨h1, h2⟩
  · have hW : IntKind.i64.wrap (r.sure : Int) = (T : Int) := (IntWalk.i64_in _ (by omega)).trans (by omega)
    clear hKe hTK
    go_wp2_with fail
    go_still_tail 14, (by kernel_rfl)
    change wpList _ _ _ _ _ w1.drew
    go_wp2_with fail
    exact bodyPost_ret (v := .tuple #[]) (by simp [results, Tryd.results24, go_sem]) rfl (HFW.out _ _ rfl HMN.out _ rfl)
  · have hW : IntKind.i64.wrap (r.sure : Int) = (T : Int) := (IntWalk.i64_in _ (by omega)).trans (by omega)
    have hW2 : IntKind.i64.wrap ((r.sure : Int) + ((r.all.size : Int) - r.sure)) = (T : Int) := (IntWalk.i64_in _ (by omega)).trans (by omega)
    have h4 : ¬ r.sure < r.all.size := by omega
    have HH := Lib.hid h3
    clear hKe hTK h2 h3
    go_wp2_with fail
    go_still_tail 14, (by kernel_rfl)
    change wpList _ _ _ _ _ w1.drew
    go_wp2_with fail
    exact bodyPost_ret (v := .tuple #[]) (by simp [results, Tryd.results24, go_sem]) rfl (HFW.out _ _ rfl HMN.out _ rfl)
  · have hW : IntKind.i64.wrap ((r.sure : Int) + keep) = (T : Int) := (IntWalk.i64_in _ (by omega)).trans (by omega)
    clear hKe hTK
    go_wp2_with fail
    go_still_tail 14, (by kernel_rfl)
    change wpList _ _ _ _ _ w1.drew
    go_wp2_with fail
    exact bodyPost_ret (v := .tuple #[]) (by simp [results, Tryd.results24, go_sem]) rfl (HFW.out _ _ rfl HMN.out _ rfl)
  · have hW : IntKind.i64.wrap ((r.sure : Int) + ((r.all.size : Int) - r.sure)) = (T : Int) := (IntWalk.i64_in _ (by omega)).trans (by omega)
    clear hKe hTK
    go_wp2_with fail
    go_still_tail 14, (by kernel_rfl)
    change wpList _ _ _ _ _ w1.drew
    go_wp2_with fail
    exact bodyPost_ret (v := .tuple #[]) (by simp [results, Tryd.results24, go_sem]) rfl (HFW.out _ _ rfl HMN.out _ rfl)

end
end Go.Proofs.YtjahkaockjhibaaDoor
