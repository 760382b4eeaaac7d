/-
  The walk over package record, part E: what stands at a text's beginning.
-/
import Derived.Test.YtlhcacancnmhcaaDoorRecCodeD
namespace Go.Proofs.YtlhcacancnmhcaaDoor
open Go.RowKit

def lkRec : LookR → Rec
  | .told r => r
  | _ => ⟨0, []⟩
def lkN : LookR → Nat
  | .told r => 13 + r.d.length
  | _ => 0
def lkF : LookR → Nat
  | .whole => 0
  | .told _ => 1
  | .torn => 2
  | .bad => 3

/-- What read hands back. -/
def ReadV (b : List UInt8) (w : World) (e : Ending) (w' : World) : Prop :=
  e = .returned (.tuple #[recV (lkRec (lookR b)), .int .i64 (lkN (lookR b) : Int), .int .u8 (lkF (lookR b) : Int)]) ∧ Below w.heap.size w w'

/-- In the midst of read: the result's cells. -/
structure MidR (w wx : World) : Prop where
  res : Row wx w.heap.size 36 [.int .u8 0, .string ⟨#[]⟩] (0, 0)
  below : Below w.heap.size w wx
section
variable {w wx wy : World}
theorem MidR.keeps (h : MidR w wx) (hb : Below wx.heap.size wx wy) : MidR w wy := ⟨h.res.below hb h.res.lt, h.below.trans (hb.mono h.below.size)⟩
theorem MidR.now (h : MidR w wx) {g : Nat} {st st' : Option (List UInt8)} (hr : Rdr wx g st) (hg : w.heap.size ≤ g) (hn : Now wx g st' wy) : MidR w wy := by
  obtain ⟨cs, m, hrow⟩ := hr.row
  exact ⟨h.res.grown hn.1 (fun e => by injection e with e; exact Row.ne_ h.res hrow (by decide) e), Below.grown h.below hn.1 h.below.size (fun k hk => by injection hk with hk; omega)⟩
theorem MidR.c0 (h : MidR w wx) : wx.cell? ⟨w.heap.size, 0, none⟩ = some (.int .u8 0) := by rw [h.res.cell]; rfl
theorem MidR.c1 (h : MidR w wx) : wx.cell? ⟨w.heap.size, 1, none⟩ = some (.string ⟨#[]⟩) := by rw [h.res.cell]; rfl
theorem MidR.f0 (h : MidR w wx) : wx.frozen? ⟨w.heap.size, 0, none⟩ = false := h.res.loose 0
theorem MidR.f1 (h : MidR w wx) : wx.frozen? ⟨w.heap.size, 1, none⟩ = false := h.res.loose 1
theorem MidR.fin (h : MidR w wx) (u v : Value) : Row ((wx.setCell ⟨w.heap.size, 0, none⟩ u).setCell ⟨w.heap.size, 1, none⟩ v) w.heap.size 36 [u, v] (0, 0) ∧ Below w.heap.size w ((wx.setCell ⟨w.heap.size, 0, none⟩ u).setCell ⟨w.heap.size, 1, none⟩ v) :=
  ⟨(h.res.put 0 _).put 1 _, (h.below.setCell (Nat.le_refl _) _).setCell (Nat.le_refl _) _⟩
theorem MidR.new (w : World) : MidR w (w.alloc (.cells #[.int .u8 0, .string ⟨#[]⟩] 36)) := ⟨Row.new w 36 [.int .u8 0, .string ⟨#[]⟩] (0, 0), (Below.refl _ _).alloc (Nat.le_refl _) _⟩
end

theorem five_one {b : List UInt8} (h : 9 ≤ b.length) : val ((b.take 5).take 1) = (b.headD 0).toNat := by
  cases b with
  | nil => simp at h
  | cons x l => simp [val]
theorem five_four {b : List UInt8} (_ : 9 ≤ b.length) : val (((b.take 5).drop 1).take 4) = lenOf b := by
  unfold lenOf
  rw [List.drop_take, List.take_take, Nat.min_eq_left (by omega)]

set_option maxRecDepth 100000 in
set_option maxHeartbeats 2000000 in
theorem read_short (b : List UInt8) (w : World) (hL : b.length < 9) : Calls Tryd.prog 20 #[.string (tb b)] w (ReadV b w) := by
  have HU := Lib.hid (fun wx => unsealed_short b 9 wx hL)
  have hE : (tb b).toList.isEmpty = decide (b.length = 0) := by rw [ByteArray.toList_eq, tb_list]; cases b <;> simp
  obtain ⟨o, ho⟩ : ∃ o, w.alloc (.cells #[.int .u8 0, .string ⟨#[]⟩] 36) = o := ⟨_, rfl⟩
  have HM := Lib.hid (show MidR w o from ho ▸ MidR.new w)
  by_cases h0 : b.length = 0
  · have HP := Lib.hid (show ∀ e w', e = .returned (.tuple #[.agg #[.int .u8 0, .string ⟨#[]⟩], .int .i64 0, .int .u8 0]) → Below w.heap.size w w' → ReadV b w e w' from fun e w' h1 h2 => ⟨by rw [h1, show lookR b = .whole from if_pos h0]; rfl, h2⟩)
    rw [decide_eq_true h0] at hE
    generalize tb b = s at *
    generalize ReadV b w = Q at *
    clear hL h0
    have c0 := HM.out.c0
    have c1 := HM.out.c1
    have f0 := HM.out.f0
    have f1 := HM.out.f1
    go_enter Tryd.func20, Tryd.ntmps20
    go_wp2
    obtain ⟨hr, ht⟩ := HM.out.fin (.int .u8 0) (.string ⟨#[]⟩)
    have k0 := hr.cell 0
    have k1 := hr.cell 1
    simp at k0 k1
    refine bodyPost_ret (v := .tuple #[.agg #[.int .u8 0, .string ⟨#[]⟩], .int .i64 0, .int .u8 0]) ?_ rfl (HP.out _ _ rfl ht)
    simp [results, Tryd.results20, go_sem, k0, k1]
  · have HP := Lib.hid (show ∀ e w', e = .returned (.tuple #[.agg #[.int .u8 0, .string ⟨#[]⟩], .int .i64 0, .int .u8 2]) → Below w.heap.size w w' → ReadV b w e w' from fun e w' h1 h2 => ⟨by rw [h1, show lookR b = .torn from by unfold lookR; rw [if_neg h0, if_pos hL]]; rfl, h2⟩)
    rw [decide_eq_false h0] at hE
    generalize tb b = s at *
    generalize ReadV b w = Q at *
    clear hL h0
    have c0 := HM.out.c0
    have c1 := HM.out.c1
    have f0 := HM.out.f0
    have f1 := HM.out.f1
    go_enter Tryd.func20, Tryd.ntmps20
    go_wp2_with (go_at_call 28; refine (HU.out _).mono ?_; rintro e w' ⟨rfl, rfl⟩)
    obtain ⟨hr, ht⟩ := HM.out.fin (.int .u8 0) (.string ⟨#[]⟩)
    have k0 := hr.cell 0
    have k1 := hr.cell 1
    simp at k0 k1
    refine bodyPost_ret (v := .tuple #[.agg #[.int .u8 0, .string ⟨#[]⟩], .int .i64 0, .int .u8 2]) ?_ rfl (HP.out _ _ rfl ht)
    simp [results, Tryd.results20, go_sem, k0, k1]
end Go.Proofs.YtlhcacancnmhcaaDoor
