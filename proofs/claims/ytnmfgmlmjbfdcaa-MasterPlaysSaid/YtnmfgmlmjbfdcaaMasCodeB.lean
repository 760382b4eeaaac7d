/-
  The code's master: what both blocks hold together; the greatest stamp of both.
-/
import Derived.Test.YtnmfgmlmjbfdcaaMasCodeA
namespace Go.Proofs.Ytnmfgmlmjbfdcaa
open Go.RowKit

def heldV (h : Held) : Value := .agg #[.int .i64 (h.at_ : Int), .int .u64 (h.v : Int), .string (tb h.s)]
def heldL (h : Held) : List Value := [.int .i64 (h.at_ : Int), .int .u64 (h.v : Int), .string (tb h.s)]
theorem idx_zero (a b : Value) : ∀ W : World, (Instr.index 102 (.agg #[a, b]) (.int .i64 0)).run Try.prog W = .ok a W := fun W => by kernel_rfl
theorem idx_one (a b : Value) : ∀ W : World, (Instr.index 102 (.agg #[a, b]) (.int .i64 1)).run Try.prog W = .ok b W := fun W => by kernel_rfl
theorem Try.size_held : (Try.prog.info? 74).map (·.size) = some 3 := by kernel_rfl
/-- The memory of latest, in between. -/
structure LatW (w : World) (a b : List UInt8) (h : Held) (wr : World) : Prop where
  below : Below w.heap.size w wr
  box : Row wr w.heap.size 102 [.string (tb a), .string (tb b)] (0, 0)
  res : Row wr (w.heap.size + 1) 74 (heldL Held.none) (0, 0)
  last : Row wr (w.heap.size + 1 + 1) 74 (heldL h) (0, 0)
def hAt (a b : List UInt8) : Nat → Held
  | 0 => Held.none
  | 1 => Held.none.look 0 a
  | _ => best a b
section
variable {w wr w' : World} {a b : List UInt8} {h : Held}
theorem LatW.below_ (k : LatW w a b h wr) (hb : Below wr.heap.size wr w') : LatW w a b h w' :=
  ⟨k.below.trans (hb.mono k.below.size), k.box.below hb k.box.lt, k.res.below hb k.res.lt, k.last.below hb k.last.lt⟩
theorem LatW.last_ (k : LatW w a b h wr) : wr.cell? ⟨w.heap.size + 1 + 1, 0, none⟩ = some (.int .i64 (h.at_ : Int)) ∧ wr.cell? ⟨w.heap.size + 1 + 1, 1, none⟩ = some (.int .u64 (h.v : Int)) ∧ wr.cell? ⟨w.heap.size + 1 + 1, 2, none⟩ = some (.string (tb h.s)) ∧
    wr.frozen? ⟨w.heap.size + 1 + 1, 0, none⟩ = false ∧ wr.frozen? ⟨w.heap.size + 1 + 1, 1, none⟩ = false ∧ wr.frozen? ⟨w.heap.size + 1 + 1, 2, none⟩ = false ∧
    ∀ i v s, LatW w a b ⟨i, v, s⟩ (((wr.setCell ⟨w.heap.size + 1 + 1, 0, none⟩ (.int .i64 (i : Int))).setCell ⟨w.heap.size + 1 + 1, 1, none⟩ (.int .u64 (v : Int))).setCell ⟨w.heap.size + 1 + 1, 2, none⟩ (.string (tb s))) :=
  ⟨k.last.cell 0, k.last.cell 1, k.last.cell 2, k.last.loose 0, k.last.loose 1, k.last.loose 2, fun i v s =>
    ⟨((k.below.setCell (p := ⟨w.heap.size + 1 + 1, 0, none⟩) (by simp; omega) _).setCell (p := ⟨w.heap.size + 1 + 1, 1, none⟩) (by simp; omega) _).setCell (p := ⟨w.heap.size + 1 + 1, 2, none⟩) (by simp; omega) _,
     ((k.box.far (by simp; omega) _).far (by simp; omega) _).far (by simp; omega) _, ((k.res.far (by simp) _).far (by simp) _).far (by simp) _, ((k.last.put 0 _).put 1 _).put 2 _⟩⟩
theorem LatW.new (w : World) (a b : List UInt8) : LatW w a b Held.none (((w.alloc (.cells #[.string (tb a), .string (tb b)] 102)).alloc (.cells #[.int .i64 0, .int .u64 0, .string ⟨#[]⟩] 74)).alloc (.cells #[.int .i64 0, .int .u64 0, .string ⟨#[]⟩] 74)) := by
  have r1 := Row.new w 102 [.string (tb a), .string (tb b)] (0, 0)
  have b1 : Below w.heap.size w (w.alloc (.cells #[.string (tb a), .string (tb b)] 102)) := (Below.refl _ _).alloc (Nat.le_refl _) _
  have s1 : (w.alloc (.cells #[.string (tb a), .string (tb b)] 102)).heap.size = w.heap.size + 1 := by simp
  rw [show ([.string (tb a), .string (tb b)] : List Value).toArray = #[.string (tb a), .string (tb b)] from rfl] at r1
  generalize w.alloc (.cells #[.string (tb a), .string (tb b)] 102) = w1 at *
  have r2 := Row.new w1 74 (heldL Held.none) (0, 0)
  rw [s1, show (heldL Held.none).toArray = #[.int .i64 0, .int .u64 0, .string ⟨#[]⟩] from rfl] at r2
  have s2 : (w1.alloc (.cells #[.int .i64 0, .int .u64 0, .string ⟨#[]⟩] 74)).heap.size = w.heap.size + 1 + 1 := by simp [s1]
  have b2 := b1.alloc b1.size (.cells #[.int .i64 0, .int .u64 0, .string ⟨#[]⟩] 74)
  have r12 := r1.alloc (.cells #[.int .i64 0, .int .u64 0, .string ⟨#[]⟩] 74)
  generalize w1.alloc (.cells #[.int .i64 0, .int .u64 0, .string ⟨#[]⟩] 74) = w2 at *
  have r3 := Row.new w2 74 (heldL Held.none) (0, 0)
  rw [s2] at r3
  exact ⟨b2.alloc b2.size _, r12.alloc _, r2.alloc _, r3⟩
end

set_option maxRecDepth 100000 in
set_option maxHeartbeats 4000000 in
theorem latest_any (a b : List UInt8) (w : World) (ha : a.length ≤ 100000000) (hb : b.length ≤ 100000000) : Calls Try.prog 45 #[pairV (tb a) (tb b)] w fun e w' => e = .returned (heldV (best a b)) ∧ Below w.heap.size w w' := by
  have HN := Lib.hid (LatW.new w a b)
  have X0 := Lib.hid (idx_zero (.string (tb a)) (.string (tb b)))
  have X1 := Lib.hid (idx_one (.string (tb a)) (.string (tb b)))
  unfold pairV
  go_enter Try.func45, Try.ntmps45
  have x0 := (Row.new w 102 [.string (tb a), .string (tb b)] (0, 0)).cell 0
  go_wp2_with fail
  obtain ⟨w3, hw3⟩ : ∃ w3, ((w.alloc (.cells #[.string (tb a), .string (tb b)] 102)).alloc (.cells #[.int .i64 0, .int .u64 0, .string ⟨#[]⟩] 74)).alloc (.cells #[.int .i64 0, .int .u64 0, .string ⟨#[]⟩] 74) = w3 := ⟨_, rfl⟩
  rw [hw3] at HN ⊢
  clear hw3 x0
  have y0 : w3.cell? ⟨w.heap.size, 0, none⟩ = some (.string (tb a)) := HN.out.box.cell 0
  have y1 : w3.cell? ⟨w.heap.size, 1, none⟩ = some (.string (tb b)) := HN.out.box.cell 1
  try go_wp2_with fail
  clear y0 y1
  go_loopw [10] (fun i wr => ∃ k : Nat, k ≤ 2 ∧ i = .int .i64 k ∧ Hid (LatW w a b (hAt a b k) wr)) (fun i _ => 2 - (intOf i).toNat)
  case atStart => exact ⟨0, by decide, rfl, HN⟩
  case round =>
    obtain ⟨k, hk, rfl, HP⟩ := hrel
    rcases (show k = 0 ∨ k = 1 ∨ k = 2 by omega) with rfl | rfl | rfl
    · have hix := X0.out
      have HP := Lib.hid (show LatW w a b Held.none wr from HP.out)
      have HU := Lib.hid (unpack_any a wr (by omega))
      have hdef : (Held.none.look 0 a) = Held.none.look 0 a := rfl
      rcases hu : unpackP a with _ | ⟨v, s⟩
      · rw [unpV_none hu] at HU
        have e1 : (Held.none.look 0 a) = Held.none := by rw [hdef, look_none hu]
        have HE := Lib.hid e1
        clear e1 hdef hu
        go_wp2_with fail
        refine HU.out.mono ?_
        rintro e w4 ⟨rfl, hb4⟩
        have HP4 := Lib.hid (show LatW w a b (Held.none.look 0 a) w4 by rw [HE.out]; exact HP.out.below_ hb4)
        clear hb4 HP
        go_wp2
        go_roundw
        case rel => exact ⟨1, by decide, by go_num, HP4⟩
        case measure => simp [intOf]
      · rw [unpV_some hu] at HU
        have hvl : v < 18446744073709551616 := (unpack_some hu).1.v1
        by_cases hlt : Held.none.v < v
        · have e1 : (Held.none.look 0 a) = ⟨0, v, s⟩ := by rw [hdef, look_some hu, if_pos hlt]
          have HE := Lib.hid e1
          clear e1 hdef hu
          go_wp2_with fail
          refine HU.out.mono ?_
          rintro e w4 ⟨rfl, hb4⟩
          have HPX := Lib.hid (HP.out.below_ hb4)
          obtain ⟨c0, c1, c2, f0, f1, f2, hput⟩ := HPX.out.last_
          have HP4 := Lib.hid (show LatW w a b (Held.none.look 0 a) _ by rw [HE.out]; exact hput 0 v s)
          obtain ⟨hv0, hhv⟩ : ∃ q, Held.none.v = q := ⟨_, rfl⟩
          rw [hhv] at c1 hlt
          clear hb4 HP HPX hput hhv
          go_wp2
          go_roundw
          case rel => exact ⟨1, by decide, by go_num, HP4⟩
          case measure => simp [intOf]
        · have e1 : (Held.none.look 0 a) = Held.none := by rw [hdef, look_some hu, if_neg hlt]
          have HE := Lib.hid e1
          clear e1 hdef hu
          go_wp2_with fail
          refine HU.out.mono ?_
          rintro e w4 ⟨rfl, hb4⟩
          have HPX := Lib.hid (HP.out.below_ hb4)
          obtain ⟨c0, c1, c2, f0, f1, f2, hput⟩ := HPX.out.last_
          have HP4 := Lib.hid (show LatW w a b (Held.none.look 0 a) w4 by rw [HE.out]; exact HPX.out)
          obtain ⟨hv0, hhv⟩ : ∃ q, Held.none.v = q := ⟨_, rfl⟩
          rw [hhv] at c1 hlt
          clear hb4 HP HPX hput hhv
          go_wp2
          go_roundw
          case rel => exact ⟨1, by decide, by go_num, HP4⟩
          case measure => simp [intOf]
    · have hix := X1.out
      have HP := Lib.hid (show LatW w a b (Held.none.look 0 a) wr from HP.out)
      have HU := Lib.hid (unpack_any b wr (by omega))
      have hdef : (best a b) = (Held.none.look 0 a).look 1 b := rfl
      rcases hu : unpackP b with _ | ⟨v, s⟩
      · rw [unpV_none hu] at HU
        have e1 : (best a b) = (Held.none.look 0 a) := by rw [hdef, look_none hu]
        have HE := Lib.hid e1
        clear e1 hdef hu
        go_wp2_with fail
        refine HU.out.mono ?_
        rintro e w4 ⟨rfl, hb4⟩
        have HP4 := Lib.hid (show LatW w a b (best a b) w4 by rw [HE.out]; exact HP.out.below_ hb4)
        clear hb4 HP
        go_wp2
        go_roundw
        case rel => exact ⟨2, by decide, by go_num, HP4⟩
        case measure => simp [intOf]
      · rw [unpV_some hu] at HU
        have hvl : v < 18446744073709551616 := (unpack_some hu).1.v1
        by_cases hlt : (Held.none.look 0 a).v < v
        · have e1 : (best a b) = ⟨1, v, s⟩ := by rw [hdef, look_some hu, if_pos hlt]
          have HE := Lib.hid e1
          clear e1 hdef hu
          go_wp2_with fail
          refine HU.out.mono ?_
          rintro e w4 ⟨rfl, hb4⟩
          have HPX := Lib.hid (HP.out.below_ hb4)
          obtain ⟨c0, c1, c2, f0, f1, f2, hput⟩ := HPX.out.last_
          have HP4 := Lib.hid (show LatW w a b (best a b) _ by rw [HE.out]; exact hput 1 v s)
          obtain ⟨hv0, hhv⟩ : ∃ q, (Held.none.look 0 a).v = q := ⟨_, rfl⟩
          rw [hhv] at c1 hlt
          clear hb4 HP HPX hput hhv
          go_wp2
          go_roundw
          case rel => exact ⟨2, by decide, by go_num, HP4⟩
          case measure => simp [intOf]
        · have e1 : (best a b) = (Held.none.look 0 a) := by rw [hdef, look_some hu, if_neg hlt]
          have HE := Lib.hid e1
          clear e1 hdef hu
          go_wp2_with fail
          refine HU.out.mono ?_
          rintro e w4 ⟨rfl, hb4⟩
          have HPX := Lib.hid (HP.out.below_ hb4)
          obtain ⟨c0, c1, c2, f0, f1, f2, hput⟩ := HPX.out.last_
          have HP4 := Lib.hid (show LatW w a b (best a b) w4 by rw [HE.out]; exact HPX.out)
          obtain ⟨hv0, hhv⟩ : ∃ q, (Held.none.look 0 a).v = q := ⟨_, rfl⟩
          rw [hhv] at c1 hlt
          clear hb4 HP HPX hput hhv
          go_wp2
          go_roundw
          case rel => exact ⟨2, by decide, by go_num, HP4⟩
          case measure => simp [intOf]
    · have HP := Lib.hid (show LatW w a b (best a b) wr from HP.out)
      obtain ⟨c0, c1, c2, -, -, -, -⟩ := HP.out.last_
      have q0 : wr.cell? ⟨w.heap.size + 1, 0, none⟩ = some (.int .i64 0) := HP.out.res.cell 0
      have q1 : wr.cell? ⟨w.heap.size + 1, 1, none⟩ = some (.int .u64 0) := HP.out.res.cell 1
      have q2 : wr.cell? ⟨w.heap.size + 1, 2, none⟩ = some (.string ⟨#[]⟩) := HP.out.res.cell 2
      have f0 := HP.out.res.loose 0
      have f1 := HP.out.res.loose 1
      have f2 := HP.out.res.loose 2
      have HE := Lib.hid (show Row (((wr.setCell ⟨w.heap.size + 1, 0, none⟩ (.int .i64 ((best a b).at_ : Int))).setCell ⟨w.heap.size + 1, 1, none⟩ (.int .u64 ((best a b).v : Int))).setCell ⟨w.heap.size + 1, 2, none⟩ (.string (tb (best a b).s))) (w.heap.size + 1) 74 (heldL (best a b)) (0, 0) ∧ Below w.heap.size w (((wr.setCell ⟨w.heap.size + 1, 0, none⟩ (.int .i64 ((best a b).at_ : Int))).setCell ⟨w.heap.size + 1, 1, none⟩ (.int .u64 ((best a b).v : Int))).setCell ⟨w.heap.size + 1, 2, none⟩ (.string (tb (best a b).s))) from
        ⟨((HP.out.res.put 0 _).put 1 _).put 2 _, ((HP.out.below.setCell (p := ⟨w.heap.size + 1, 0, none⟩) (by simp) _).setCell (p := ⟨w.heap.size + 1, 1, none⟩) (by simp) _).setCell (p := ⟨w.heap.size + 1, 2, none⟩) (by simp) _⟩)
      change wr.cell? _ = some (.int .i64 ((best a b).at_ : Int)) at c0
      change wr.cell? _ = some (.int .u64 ((best a b).v : Int)) at c1
      change wr.cell? _ = some (.string (tb (best a b).s)) at c2
      obtain ⟨X, hX⟩ : ∃ X, best a b = X := ⟨_, rfl⟩
      rw [hX] at c0 c1 c2 HE
      have HXX := Lib.hid hX
      clear HP hX
      go_wp2
      exact bodyPost_ret (v := heldV X) (results_cell_row (by rfl) _ _ (w.heap.size + 1) _ _ (0, 0) _ (by rfl) HE.out.1 Try.underlying74 rfl Try.size_held) rfl ⟨by rw [HXX.out], HE.out.2⟩

set_option maxRecDepth 100000 in
set_option maxHeartbeats 2000000 in
theorem ptop_any (a b : List UInt8) (w : World) (ha : a.length ≤ 100000000) (hb : b.length ≤ 100000000) : Calls Try.prog 60 #[pairV (tb a) (tb b)] w fun e w' => e = .returned (.int .u64 ((max (topP a) (topP b) : Nat) : Int)) ∧ Below w.heap.size w w' := by
  have HA := Lib.hid (fun wx => top_any a wx ha)
  have HB := Lib.hid (fun wx => top_any b wx hb)
  have X0 := Lib.hid (idx_zero (.string (tb a)) (.string (tb b)))
  have X1 := Lib.hid (idx_one (.string (tb a)) (.string (tb b)))
  obtain ⟨t0, ht0⟩ : ∃ t, topP a = t := ⟨_, rfl⟩
  obtain ⟨t1, ht1⟩ : ∃ t, topP b = t := ⟨_, rfl⟩
  rw [ht0] at HA ⊢
  rw [ht1] at HB ⊢
  clear ht0 ht1 ha hb
  unfold pairV
  go_enter Try.func60, Try.ntmps60
  go_wp2_with fail
  have r0 := Row.new w 102 [.string (tb a), .string (tb b)] (0, 0)
  have HB1 := Lib.hid ((Below.refl w.heap.size w).alloc (Nat.le_refl _) (.cells #[.string (tb a), .string (tb b)] 102))
  obtain ⟨w3, hw3⟩ : ∃ w3, w.alloc (.cells #[.string (tb a), .string (tb b)] 102) = w3 := ⟨_, rfl⟩
  rw [show ([.string (tb a), .string (tb b)] : List Value).toArray = #[.string (tb a), .string (tb b)] from rfl, hw3] at r0
  rw [hw3] at HB1 ⊢
  have y0 : w3.cell? ⟨w.heap.size, 0, none⟩ = some (.string (tb a)) := r0.cell 0
  have y1 : w3.cell? ⟨w.heap.size, 1, none⟩ = some (.string (tb b)) := r0.cell 1
  clear hw3 r0
  try go_wp2_with fail
  clear y0 y1
  go_loopw [3, 7] (fun v i wr => ∃ k : Nat, k ≤ 2 ∧ i = .int .i64 k ∧ Hid (Below w.heap.size w wr) ∧ v = .int .u64 ((if k = 0 then 0 else if k = 1 then t0 else max t0 t1 : Nat) : Int)) (fun _ i _ => 2 - (intOf i).toNat)
  case atStart => exact ⟨0, by decide, rfl, HB1, rfl⟩
  case round =>
    obtain ⟨k, hk, rfl, HP, rfl⟩ := hrel
    rcases (show k = 0 ∨ k = 1 ∨ k = 2 by omega) with rfl | rfl | rfl
    · have hix := X0.out
      rw [if_pos rfl]
      go_wp2_with fail
      refine (HA.out wr).mono ?_
      rintro e w4 ⟨rfl, hb4⟩
      have HP4 := Lib.hid (HP.out.trans (hb4.mono HP.out.size))
      clear hb4 HP
      rcases Nat.eq_zero_or_pos t0 with rfl | hp
      · go_wp2
        go_roundw
        case rel => exact ⟨1, by decide, by go_num, HP4, by simp⟩
        case measure => simp [intOf]
      · go_wp2
        go_roundw
        case rel => exact ⟨1, by decide, by go_num, HP4, by simp⟩
        case measure => simp [intOf]
    · have hix := X1.out
      rw [if_neg (by decide), if_pos rfl]
      go_wp2_with fail
      refine (HB.out wr).mono ?_
      rintro e w4 ⟨rfl, hb4⟩
      have HP4 := Lib.hid (HP.out.trans (hb4.mono HP.out.size))
      clear hb4 HP
      by_cases hlt : t0 < t1
      · have em : max t0 t1 = t1 := by omega
        go_wp2
        go_roundw
        case rel => exact ⟨2, by decide, by go_num, HP4, by rw [if_neg (by decide), if_neg (by decide)]; congr 1; omega⟩
        case measure => simp [intOf]
      · have em : max t0 t1 = t0 := by omega
        go_wp2
        go_roundw
        case rel => exact ⟨2, by decide, by go_num, HP4, by rw [if_neg (by decide), if_neg (by decide)]; congr 1; omega⟩
        case measure => simp [intOf]
    · rw [if_neg (by decide), if_neg (by decide)]
      go_wp2
      go_ret
      exact ⟨rfl, HP.out⟩
end Go.Proofs.Ytnmfgmlmjbfdcaa
