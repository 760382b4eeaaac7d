/-
  The walks over the document's answer for package crc, part A: a bit's step.
-/
import Derived.Test.YtlhcacancnmhcaaDoorCrcF
import Derived.Test.YtlhcacancnmhcaaDoorRefBits
import Derived.Great.BuildSlice
namespace Go.Proofs.YtlhcacancnmhcaaDoor
open Go.RowKit

theorem size_new (w : World) (o : Obj) : (w.alloc o).heap.size = w.heap.size + 1 := by simp

theorem falses_row : [Value.bool false, .bool false, .bool false, .bool false, .bool false, .bool false, .bool false, .bool false, .bool false, .bool false, .bool false, .bool false, .bool false, .bool false, .bool false, .bool false, .bool false, .bool false, .bool false, .bool false, .bool false, .bool false, .bool false, .bool false, .bool false, .bool false, .bool false, .bool false, .bool false, .bool false, .bool false, .bool false] = rowF fun _ => false := rfl

theorem Tryd.size_row : (Tryd.prog.info? 83).map (·.size) = some 32 := by kernel_rfl

/-- What holds in the step: three rows of the call's own. -/
def Steps (w : World) (f g h : Nat → Bool) (wr : World) : Prop :=
  Row wr w.heap.size 83 (rowF f) (0, 0) ∧ Row wr (w.heap.size + 1) 83 (rowF g) (0, 0) ∧ Row wr (w.heap.size + 1 + 1) 83 (rowF h) (0, 0) ∧ Below w.heap.size w wr

theorem Steps.put {w wr : World} {f g h : Nat → Bool} (hs : Steps w f g h wr) (k : Nat) (b : Bool) : Steps w f g (fun i => if i = k then b else h i) (wr.setCell ⟨w.heap.size + 1 + 1, k, none⟩ (.bool b)) := by
  obtain ⟨h1, h2, h3, hb⟩ := hs
  exact ⟨h1.far (by show w.heap.size ≠ w.heap.size + 1 + 1; omega) _, h2.far (by show w.heap.size + 1 ≠ w.heap.size + 1 + 1; omega) _, by rw [← rowF_set]; exact h3.put k _, hb.setCell (by show w.heap.size ≤ w.heap.size + 1 + 1; omega) _⟩

/-- The bits of the second loop at a round's head. -/
def half (q : Nat) (lf : Bool) (k : Nat) (i : Nat) : Bool := if i < k then (q.testBit i != (lf && poly.testBit i)) else q.testBit i

theorem Steps.same {w wr : World} {f g h h' : Nat → Bool} (hs : Steps w f g h wr) (e : rowF h = rowF h') : Steps w f g h' wr := ⟨hs.1, hs.2.1, by rw [← e]; exact hs.2.2.1, hs.2.2.2⟩

theorem half_start (q : Nat) (lf : Bool) : rowF q.testBit = rowF (half q lf 0) := rowF_same fun i _ => by simp [half]

theorem Steps.stay {w wr : World} {f g : Nat → Bool} {q k : Nat} {lf : Bool} (hs : Steps w f g (half q lf k) wr) (hb : (lf && poly.testBit k) = false) : Steps w f g (half q lf (k + 1)) wr :=
  hs.same (rowF_same fun i _ => by
    unfold half
    by_cases h : i < k
    · rw [if_pos h, if_pos (by omega)]
    · by_cases h2 : i = k
      · subst h2
        rw [if_neg h, if_pos (by omega), hb]
        simp
      · rw [if_neg h, if_neg (by omega)])

theorem Steps.turn {w wr : World} {f g : Nat → Bool} {q k : Nat} {lf : Bool} (hs : Steps w f g (half q lf k) wr) (hb : (lf && poly.testBit k) = true) : Steps w f g (half q lf (k + 1)) (wr.setCell ⟨w.heap.size + 1 + 1, k, none⟩ (.bool (!half q lf k k))) :=
  (hs.put k (!half q lf k k)).same (rowF_same fun i _ => by
    unfold half
    by_cases h2 : i = k
    · subst h2
      rw [if_pos rfl, if_neg (by omega), if_pos (by omega), hb]
      cases q.testBit i <;> rfl
    · rw [if_neg h2]
      by_cases h : i < k
      · rw [if_pos h, if_pos (by omega)]
      · rw [if_neg h, if_neg (by omega)])

theorem poly_next (k : Nat) : ((poly / 2 ^ k : Nat) : Int) / 2 = ((poly / 2 ^ (k + 1) : Nat) : Int) := by
  rw [Nat.pow_succ, ← Nat.div_div_eq_div_mul]
  simp
theorem poly_bit (k : Nat) : (((poly / 2 ^ k : Nat) : Int) % 2 == 1) = poly.testBit k := by
  rw [← tb_div]
  generalize poly / 2 ^ k = n
  have e : ((n : Nat) : Int) % 2 = ((n % 2 : Nat) : Int) := by omega
  rw [e]
  rcases Nat.mod_two_eq_zero_or_one n with h | h <;> rw [h] <;> rfl
theorem poly_le (k : Nat) : poly / 2 ^ k < 4294967296 := Nat.lt_of_le_of_lt (Nat.div_le_self _ _) (by decide)

theorem steps_start (w : World) (f : Nat → Bool) (o : Obj) (ho : o = .cells (rowF fun _ => false).toArray 83) : Steps w f (fun _ => false) (fun i => decide (i < 0) && f (i + 1)) (((w.alloc (.cells (rowF f).toArray 83)).alloc o).alloc o) := by
  subst ho
  have e : rowF (fun i => decide (i < 0) && f (i + 1)) = rowF fun _ => false := rowF_same fun i _ => by simp
  refine ⟨((Row.new w 83 (rowF f) (0, 0)).alloc _).alloc _, ?_, ?_, (((Below.refl _ _).alloc (Nat.le_refl _) _).alloc (by rw [size_new]; omega) _).alloc (by rw [size_new, size_new]; omega) _⟩
  · have := (Row.new (w.alloc (.cells (rowF f).toArray 83)) 83 (rowF fun _ => false) (0, 0)).alloc (.cells (rowF fun _ => false).toArray 83)
    rw [size_new] at this
    exact this
  · rw [e]
    have := Row.new ((w.alloc (.cells (rowF f).toArray 83)).alloc (.cells (rowF fun _ => false).toArray 83)) 83 (rowF fun _ => false) (0, 0)
    rw [size_new, size_new] at this
    exact this

set_option maxRecDepth 100000 in
set_option maxHeartbeats 1000000 in
theorem rstep_any (r : Nat) (x : Bool) (w : World) (hr : r < 4294967296) :
    Calls Tryd.prog 41 #[.agg (rowF r.testBit).toArray, .bool x] w fun e w' => e = .returned (.agg (rowF (stp r x).testBit).toArray) ∧ Below w.heap.size w w' := by
  have HEND := Lib.hid (stepped r x)
  have HSH := Lib.hid (shifted r hr)
  have HST := Lib.hid (steps_start w r.testBit _ rfl)
  have hget := rowF_get r.testBit 0 (by decide)
  obtain ⟨b0, hb0⟩ : ∃ b, r.testBit 0 = b := ⟨_, rfl⟩
  obtain ⟨lf, hlf⟩ : ∃ b, (!b0 == x) = b := ⟨_, rfl⟩
  rw [hb0] at hget HEND
  rw [show (b0 != x) = lf from hlf] at HEND
  clear hb0
  go_enter Tryd.func41, Tryd.ntmps41
  go_wp2_with fail
  clear hlf hget
  go_loopw [7] (fun i wr => ∃ k : Nat, k ≤ 31 ∧ i = .int .i64 k ∧ Steps w r.testBit (fun _ => false) (fun i => decide (i < k) && r.testBit (i + 1)) wr) (fun i _ => 31 - (intOf i).toNat)
  case atStart => exact ⟨0, by omega, rfl, HST.out⟩
  case round =>
    obtain ⟨k, hk, rfl, hs⟩ := hrel
    have HS := Lib.hid hs
    clear hs
    by_cases hlt : k < 31
    · have hc1 : wr.cell? ⟨w.heap.size, k + 1, none⟩ = some (.bool (r.testBit (k + 1))) := by rw [HS.out.1.cell, rowF_get _ _ (by omega)]
      have hc2 : ∃ u, wr.cell? ⟨w.heap.size + 1 + 1, k, none⟩ = some u := ⟨_, by rw [HS.out.2.2.1.cell, rowF_get _ _ (by omega)]⟩
      obtain ⟨u, hc2⟩ := hc2
      have hf2 := HS.out.2.2.1.loose k
      have HN := Lib.hid (HS.out.put k (r.testBit (k + 1)))
      rw [loop1] at HN
      generalize r.testBit (k + 1) = bk at *
      go_wp2_with fail
      go_roundw
      case rel => exact ⟨k + 1, by omega, by go_num, HN.out⟩
      case measure => simp [intOf]; omega
    · obtain rfl : k = 31 := by omega
      go_wp2_with fail
      have HS0 := Lib.hid ((HS.out.same HSH.out).same (half_start (r / 2) lf))
      clear HS HSH HST
      generalize r / 2 = q at *
      generalize r.testBit = fr at *
      obtain ⟨wo, rfl⟩ : ∃ wo : World, wo = wr := ⟨_, rfl⟩
      go_loopw [8, 9] (fun p i wr => ∃ k : Nat, k ≤ 32 ∧ i = .int .i64 k ∧ p = .int .u32 ((poly / 2 ^ k : Nat) : Int) ∧ Steps w fr (fun _ => false) (half q lf k) wr) (fun _ i _ => 32 - (intOf i).toNat)
      case atStart => exact ⟨0, by omega, rfl, rfl, HS0.out⟩
      case round =>
        obtain ⟨k, hk, rfl, rfl, hs⟩ := hrel
        have HS := Lib.hid hs
        clear hs HS0
        by_cases hlt : k < 32
        · have hpn := poly_next k
          have hpb := poly_bit k
          have hpl := poly_le k
          obtain ⟨p2, hp2⟩ : ∃ p2, poly / 2 ^ (k + 1) = p2 := ⟨_, rfl⟩
          rw [hp2] at hpn
          have HP2 := Lib.hid hp2
          clear hp2
          generalize poly / 2 ^ k = p at *
          have hp0 : (0 : Int) ≤ (p : Int) := by omega
          cases hcond : (lf && poly.testBit k)
          · have HN := Lib.hid (HS.out.stay hcond)
            cases lf
            · go_wp2_with fail
              go_roundw
              case rel => exact ⟨k + 1, by omega, by go_num, by rw [HP2.out], HN.out⟩
              case measure => simp [intOf]; omega
            · simp only [Bool.true_and] at hcond
              rw [hcond] at hpb
              go_wp2_with fail
              go_roundw
              case rel => exact ⟨k + 1, by omega, by go_num, by rw [HP2.out], HN.out⟩
              case measure => simp [intOf]; omega
          · have HN := Lib.hid (HS.out.turn hcond)
            have hc2 : wr.cell? ⟨w.heap.size + 1 + 1, k, none⟩ = some (.bool (half q lf k k)) := by rw [HS.out.2.2.1.cell, rowF_get _ _ (by omega)]
            have hf2 := HS.out.2.2.1.loose k
            generalize half q lf k k = bk at *
            simp only [Bool.and_eq_true] at hcond
            obtain ⟨rfl, hpt⟩ := hcond
            rw [hpt] at hpb
            clear hpt
            go_wp2_with fail
            go_roundw
            case rel => exact ⟨k + 1, by omega, by go_num, by rw [HP2.out], HN.out⟩
            case measure => simp [intOf]; omega
        · obtain rfl : k = 32 := by omega
          have HB := Lib.hid HS.out.2.2.2
          have hrow := HS.out.2.2.1
          rw [show rowF (half q lf 32) = rowF (stp r x).testBit from HEND.out] at hrow
          have HR := Lib.hid hrow
          have HR2 := Lib.hid HS.out.2.1
          have HLEN := Lib.hid (show (Tryd.prog.info? 83).map (·.size) = some (rowF (stp r x).testBit).toArray.size by rw [List.size_toArray, rowF_length]; exact Tryd.size_row)
          have HONE := Lib.hid (show (rowF (stp r x).testBit).toArray.all (·.oneCell') = true by rw [Array.all_eq_true_iff_forall_mem]; intro v hv; exact rowF_one _ v (by simpa using hv))
          have HLL := Lib.hid (show (rowF fun _ => false).toArray.size = (rowF (stp r x).testBit).toArray.size by rw [List.size_toArray, List.size_toArray, rowF_length, rowF_length])
          clear hrow HS HEND
          generalize hcs : rowF (stp r x).testBit = cs at *
          have HCS := Lib.hid hcs
          clear hcs
          go_wp2_with (first
            | (with_reducible refine wpList_load_row rfl 83 (.tmp 5) rfl (w.heap.size + 1 + 1) rfl 83 cs.toArray (0, 0) _ ?hg1 Tryd.underlying83 rfl ?hi1 ?_)
            | (with_reducible refine wpList_store_rowTo rfl 83 (.tmp 4) (.tmp 42) rfl rfl (w.heap.size + 1) cs.toArray ?hx2 ?hy2 83 (rowF fun _ => false).toArray ?hg2 ?hi2 ?ho2 ?h12 ?_))
          case hg1 => exact HR.out
          case hi1 => exact HLEN.out
          case hg2 => exact HR2.out
          case hi2 => exact HLEN.out
          case ho2 => exact HLL.out
          case h12 => exact HONE.out
          have HRS := Lib.hid (show Row (wr.setRow (w.heap.size + 1) cs.toArray) (w.heap.size + 1) 83 cs (0, 0) from setRow_heap wr _ _ _ _ _ HR2.out)
          have HBS := Lib.hid (show Below w.heap.size w (wr.setRow (w.heap.size + 1) cs.toArray) from below_setRow HB.out (by omega) _)
          go_wp2_with fail
          exact bodyPost_ret (v := .agg cs.toArray) (results_cell_row rfl _ _ (w.heap.size + 1) 83 cs.toArray (0, 0) _ rfl HRS.out Tryd.underlying83 rfl HLEN.out) rfl ⟨by rw [HCS.out], HBS.out⟩

end Go.Proofs.YtlhcacancnmhcaaDoor
