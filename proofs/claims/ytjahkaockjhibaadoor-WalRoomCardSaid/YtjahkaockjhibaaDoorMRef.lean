/-
  Plain facts on the document's register, a row of 32 bits: as a function of the place. No program is read here.
-/
import Derived.Test.YtjahkaockjhibaaDoorMPlain
import Derived.Test.YtjahkaockjhibaaDoorMCrc
import Derived.Great.BuildSlice
import Derived.Laws.AppendOwnNone
namespace Go.Proofs.YtjahkaockjhibaaDoor
open Go.RowKit

/-- A row of 32 bits, as cells. -/
def rowF (f : Nat → Bool) : List Value := (List.range 32).map fun i => .bool (f i)

theorem rowF_length (f : Nat → Bool) : (rowF f).length = 32 := by simp [rowF]
theorem rowF_get (f : Nat → Bool) (i : Nat) (h : i < 32) : (rowF f)[i]? = some (.bool (f i)) := by simp [rowF, h]
theorem rowF_same {f g : Nat → Bool} (h : ∀ i, i < 32 → f i = g i) : rowF f = rowF g := by
  unfold rowF
  apply List.map_congr_left
  intro i hi
  rw [h i (List.mem_range.1 hi)]
theorem rowF_set (f : Nat → Bool) (k : Nat) (b : Bool) : (rowF f).set k (.bool b) = rowF fun i => if i = k then b else f i := by
  apply List.ext_getElem?
  intro i
  rw [List.getElem?_set, rowF_length]
  by_cases hi : i < 32
  · rw [rowF_get _ i hi, rowF_get _ i hi]
    by_cases hk : k = i
    · subst hk; simp [hi]
    · rw [if_neg hk, if_neg (fun e => hk e.symm)]
  · rw [List.getElem?_eq_none (by rw [rowF_length]; omega), List.getElem?_eq_none (by rw [rowF_length]; omega)]
    by_cases hk : k = i
    · subst hk; simp [hi]
    · simp [hk]
theorem rowF_one (f : Nat → Bool) : ∀ v ∈ rowF f, v.oneCell' = true := by
  intro v hv
  obtain ⟨_, _, rfl⟩ := List.mem_map.1 hv
  rfl

theorem tb_zero (r : Nat) : r.testBit 0 = (r % 2 == 1) := by rw [Nat.testBit_zero]; rcases Nat.mod_two_eq_zero_or_one r with h | h <;> simp [h]
theorem tb_div (r k : Nat) : (r / 2 ^ k % 2 == 1) = r.testBit k := by
  have := tb_zero (r / 2 ^ k)
  rw [Nat.testBit_div_two_pow, Nat.zero_add] at this
  exact this.symm
theorem tb_half (r i : Nat) : (r / 2).testBit i = r.testBit (i + 1) := by
  have := Nat.testBit_div_two_pow (x := r) (n := 1) i
  simpa using this

/-- Behind the first loop: shifted by one. -/
theorem shifted (r : Nat) (h : r < 4294967296) : rowF (fun i => decide (i < 31) && r.testBit (i + 1)) = rowF (r / 2).testBit := by
  apply rowF_same
  intro i hi
  rw [tb_half]
  by_cases h31 : i < 31
  · simp [h31]
  · have : i = 31 := by omega
    subst this
    have e : r.testBit 32 = false := Nat.testBit_lt_two_pow (by omega)
    simp [e]

/-- Behind the second loop: the step. -/
theorem stepped (r : Nat) (x : Bool) : rowF (fun i => if i < 32 then ((r / 2).testBit i != ((r.testBit 0 != x) && poly.testBit i)) else (r / 2).testBit i) = rowF (stp r x).testBit := by
  apply rowF_same
  intro i hi
  rw [if_pos hi]
  have e1 : (r ^^^ x.toNat) / 2 = r / 2 := by
    rw [Nat.xor_div_two]
    cases x <;> simp
  have e2 : ((r ^^^ x.toNat) % 2 = 1) ↔ (r.testBit 0 != x) = true := by
    rw [xor_two, tb_zero]
    rcases Nat.mod_two_eq_zero_or_one r with h | h <;> cases x <;> simp [Nat.add_mod, h]
  unfold stp s0
  rw [e1]
  cases hl : (r.testBit 0 != x)
  · rw [if_neg (fun h => by rw [e2.1 h] at hl; cases hl)]
    simp
  · rw [if_pos (e2.2 hl), Nat.testBit_xor]
    simp

/-- One round of the second loop. -/
theorem loop2 (q k : Nat) (left : Bool) : (fun i => if i = k then (q.testBit k != (left && poly.testBit k)) else (if i < k then (q.testBit i != (left && poly.testBit i)) else q.testBit i)) = fun i => if i < k + 1 then (q.testBit i != (left && poly.testBit i)) else q.testBit i := by
  funext i
  by_cases h : i = k
  · subst h; simp
  · rw [if_neg h]
    by_cases h2 : i < k
    · rw [if_pos h2, if_pos (by omega)]
    · rw [if_neg h2, if_neg (by omega)]

theorem loop1 (r k : Nat) : (fun i => if i = k then r.testBit (k + 1) else decide (i < k) && r.testBit (i + 1)) = fun i => decide (i < k + 1) && r.testBit (i + 1) := by
  funext i
  by_cases h : i = k
  · subst h; simp
  · rw [if_neg h]
    by_cases h2 : i < k
    · simp [h2, show i < k + 1 by omega]
    · simp [h2, show ¬ i < k + 1 by omega]

theorem started (s : Nat) : rowF (fun i => decide (i < 32) && !s.testBit i) = rowF (s ^^^ ones).testBit := by
  apply rowF_same
  intro i hi
  rw [Nat.testBit_xor, show ones = 2 ^ 32 - 1 from rfl, Nat.testBit_two_pow_sub_one]
  simp [hi]

theorem loop0 (s k : Nat) : (fun i => if i = k then !s.testBit k else decide (i < k) && !s.testBit i) = fun i => decide (i < k + 1) && !s.testBit i := by
  funext i
  by_cases h : i = k
  · subst h; simp
  · rw [if_neg h]
    by_cases h2 : i < k
    · simp [h2, show i < k + 1 by omega]
    · simp [h2, show ¬ i < k + 1 by omega]

theorem bitsN_succ : ∀ k c, bitsN (k + 1) c = bitsN k c ++ [(c / 2 ^ k % 2 == 1)]
  | 0, c => by simp [bitsN]
  | k + 1, c => by
    show (c % 2 == 1) :: bitsN (k + 1) (c / 2) = ((c % 2 == 1) :: bitsN k (c / 2)) ++ _
    rw [bitsN_succ k (c / 2), Nat.div_div_eq_div_mul, ← Nat.pow_succ']
    rfl

theorem reg_succ (r c k : Nat) : reg r (bitsN (k + 1) c) = stp (reg r (bitsN k c)) (c / 2 ^ k % 2 == 1) := by
  rw [bitsN_succ, reg_app]
  rfl

theorem reg_byte (r : Nat) (l : List UInt8) (i : Nat) (h : i < l.length) : reg r (bits (l.take (i + 1))) = reg (reg r (bits (l.take i))) (bitsN 8 l[i].toNat) := by
  rw [List.take_succ_eq_append_getElem h, bits_append, reg_app]
  show reg _ (bitsN 8 l[i].toNat ++ []) = _
  rw [List.append_nil]

/-- The number is read off from the top. -/
theorem top_down (x j : Nat) : x / 2 ^ j = 2 * (x / 2 ^ (j + 1)) + (if x.testBit j then 1 else 0) := by
  have h := tb_div x j
  rw [Nat.pow_succ, ← Nat.div_div_eq_div_mul]
  cases hb : x.testBit j
  · rw [hb] at h
    have : x / 2 ^ j % 2 ≠ 1 := by simpa using h
    simp
    omega
  · rw [hb] at h
    have : x / 2 ^ j % 2 = 1 := by simpa using h
    simp
    omega

end Go.Proofs.YtjahkaockjhibaaDoor

/-
  The walks over the document's answer for package crc, part A: a bit's step.
-/
namespace Go.Proofs.YtjahkaockjhibaaDoor
open Go.RowKit

theorem size_new (w : World) (o : Obj) : (w.alloc o).heap.size = w.heap.size + 1 := by simp

theorem falses_row : [Value.bool false, .bool false, .bool false, .bool false, .bool false, .bool false, .bool false, .bool false, .bool false, .bool false, .bool false, .bool false, .bool false, .bool false, .bool false, .bool false, .bool false, .bool false, .bool false, .bool false, .bool false, .bool false, .bool false, .bool false, .bool false, .bool false, .bool false, .bool false, .bool false, .bool false, .bool false, .bool false] = rowF fun _ => false := rfl

set_option maxRecDepth 100000 in
theorem Tryd.size_row : (Tryd.prog.info? 154).map (·.size) = some 32 := by kernel_rfl

/-- What holds in the step: three rows of the call's own. -/
def Steps (w : World) (f g h : Nat → Bool) (wr : World) : Prop :=
  Row wr w.heap.size 154 (rowF f) (0, 0) ∧ Row wr (w.heap.size + 1) 154 (rowF g) (0, 0) ∧ Row wr (w.heap.size + 1 + 1) 154 (rowF h) (0, 0) ∧ Below w.heap.size w wr

theorem Steps.put {w wr : World} {f g h : Nat → Bool} (hs : Steps w f g h wr) (k : Nat) (b : Bool) : Steps w f g (fun i => if i = k then b else h i) (wr.setCell ⟨w.heap.size + 1 + 1, k, none⟩ (.bool b)) := by
  obtain ⟨h1, h2, h3, hb⟩ := hs
  exact ⟨h1.far (by show w.heap.size ≠ w.heap.size + 1 + 1; omega) _, h2.far (by show w.heap.size + 1 ≠ w.heap.size + 1 + 1; omega) _, by rw [← rowF_set]; exact h3.put k _, hb.setCell (by show w.heap.size ≤ w.heap.size + 1 + 1; omega) _⟩

/-- The bits of the second loop at a round's head. -/
def half (q : Nat) (lf : Bool) (k : Nat) (i : Nat) : Bool := if i < k then (q.testBit i != (lf && poly.testBit i)) else q.testBit i

theorem Steps.same {w wr : World} {f g h h' : Nat → Bool} (hs : Steps w f g h wr) (e : rowF h = rowF h') : Steps w f g h' wr := ⟨hs.1, hs.2.1, by rw [← e]; exact hs.2.2.1, hs.2.2.2⟩

theorem half_start (q : Nat) (lf : Bool) : rowF q.testBit = rowF (half q lf 0) := rowF_same fun i _ => by simp [half]

theorem Steps.stay {w wr : World} {f g : Nat → Bool} {q k : Nat} {lf : Bool} (hs : Steps w f g (half q lf k) wr) (hb : (lf && poly.testBit k) = false) : Steps w f g (half q lf (k + 1)) wr :=
  hs.same (rowF_same fun i _ => by
    unfold half
    by_cases h : i < k
    · rw [if_pos h, if_pos (by omega)]
    · by_cases h2 : i = k
      · subst h2
        rw [if_neg h, if_pos (by omega), hb]
        simp
      · rw [if_neg h, if_neg (by omega)])

theorem Steps.turn {w wr : World} {f g : Nat → Bool} {q k : Nat} {lf : Bool} (hs : Steps w f g (half q lf k) wr) (hb : (lf && poly.testBit k) = true) : Steps w f g (half q lf (k + 1)) (wr.setCell ⟨w.heap.size + 1 + 1, k, none⟩ (.bool (!half q lf k k))) :=
  (hs.put k (!half q lf k k)).same (rowF_same fun i _ => by
    unfold half
    by_cases h2 : i = k
    · subst h2
      rw [if_pos rfl, if_neg (by omega), if_pos (by omega), hb]
      cases q.testBit i <;> rfl
    · rw [if_neg h2]
      by_cases h : i < k
      · rw [if_pos h, if_pos (by omega)]
      · rw [if_neg h, if_neg (by omega)])

theorem poly_next (k : Nat) : ((poly / 2 ^ k : Nat) : Int) / 2 = ((poly / 2 ^ (k + 1) : Nat) : Int) := by
  rw [Nat.pow_succ, ← Nat.div_div_eq_div_mul]
  simp
theorem poly_bit (k : Nat) : (((poly / 2 ^ k : Nat) : Int) % 2 == 1) = poly.testBit k := by
  rw [← tb_div]
  generalize poly / 2 ^ k = n
  have e : ((n : Nat) : Int) % 2 = ((n % 2 : Nat) : Int) := by omega
  rw [e]
  rcases Nat.mod_two_eq_zero_or_one n with h | h <;> rw [h] <;> rfl
theorem poly_le (k : Nat) : poly / 2 ^ k < 4294967296 := Nat.lt_of_le_of_lt (Nat.div_le_self _ _) (by decide)

theorem steps_start (w : World) (f : Nat → Bool) (o : Obj) (ho : o = .cells (rowF fun _ => false).toArray 154) : Steps w f (fun _ => false) (fun i => decide (i < 0) && f (i + 1)) (((w.alloc (.cells (rowF f).toArray 154)).alloc o).alloc o) := by
  subst ho
  have e : rowF (fun i => decide (i < 0) && f (i + 1)) = rowF fun _ => false := rowF_same fun i _ => by simp
  refine ⟨((Row.new w 154 (rowF f) (0, 0)).alloc _).alloc _, ?_, ?_, (((Below.refl _ _).alloc (Nat.le_refl _) _).alloc (by rw [size_new]; omega) _).alloc (by rw [size_new, size_new]; omega) _⟩
  · have := (Row.new (w.alloc (.cells (rowF f).toArray 154)) 154 (rowF fun _ => false) (0, 0)).alloc (.cells (rowF fun _ => false).toArray 154)
    rw [size_new] at this
    exact this
  · rw [e]
    have := Row.new ((w.alloc (.cells (rowF f).toArray 154)).alloc (.cells (rowF fun _ => false).toArray 154)) 154 (rowF fun _ => false) (0, 0)
    rw [size_new, size_new] at this
    exact this

set_option maxRecDepth 100000 in
set_option maxHeartbeats 1000000 in
theorem rstep_any (r : Nat) (x : Bool) (w : World) (hr : r < 4294967296) :
    Calls Tryd.prog 103 #[.agg (rowF r.testBit).toArray, .bool x] w fun e w' => e = .returned (.agg (rowF (stp r x).testBit).toArray) ∧ Below w.heap.size w w' := by
  have HEND := Lib.hid (stepped r x)
  have HSH := Lib.hid (shifted r hr)
  have HST := Lib.hid (steps_start w r.testBit _ rfl)
  have hget := rowF_get r.testBit 0 (by decide)
  obtain ⟨b0, hb0⟩ : ∃ b, r.testBit 0 = b := ⟨_, rfl⟩
  obtain ⟨lf, hlf⟩ : ∃ b, (!b0 == x) = b := ⟨_, rfl⟩
  rw [hb0] at hget HEND
  rw [show (b0 != x) = lf from hlf] at HEND
  clear hb0
  go_enter Tryd.func103, Tryd.ntmps103
  go_wp2_with fail
  clear hlf hget
  go_loopw [7] (fun i wr => ∃ k : Nat, k ≤ 31 ∧ i = .int .i64 k ∧ Steps w r.testBit (fun _ => false) (fun i => decide (i < k) && r.testBit (i + 1)) wr) (fun i _ => 31 - (intOf i).toNat)
  case atStart => exact ⟨0, by omega, rfl, HST.out⟩
  case round =>
    obtain ⟨k, hk, rfl, hs⟩ := hrel
    have HS := Lib.hid hs
    clear hs
    by_cases hlt : k < 31
    · have hc1 : wr.cell? ⟨w.heap.size, k + 1, none⟩ = some (.bool (r.testBit (k + 1))) := by rw [HS.out.1.cell, rowF_get _ _ (by omega)]
      have hc2 : ∃ u, wr.cell? ⟨w.heap.size + 1 + 1, k, none⟩ = some u := ⟨_, by rw [HS.out.2.2.1.cell, rowF_get _ _ (by omega)]⟩
      obtain ⟨u, hc2⟩ := hc2
      have hf2 := HS.out.2.2.1.loose k
      have HN := Lib.hid (HS.out.put k (r.testBit (k + 1)))
      rw [loop1] at HN
      generalize r.testBit (k + 1) = bk at *
      go_wp2_with fail
      go_roundw
      case rel => exact ⟨k + 1, by omega, by go_num, HN.out⟩
      case measure => simp [intOf]; omega
    · obtain rfl : k = 31 := by omega
      go_wp2_with fail
      have HS0 := Lib.hid ((HS.out.same HSH.out).same (half_start (r / 2) lf))
      clear HS HSH HST
      generalize r / 2 = q at *
      generalize r.testBit = fr at *
      obtain ⟨wo, rfl⟩ : ∃ wo : World, wo = wr := ⟨_, rfl⟩
      go_loopw [8, 9] (fun p i wr => ∃ k : Nat, k ≤ 32 ∧ i = .int .i64 k ∧ p = .int .u32 ((poly / 2 ^ k : Nat) : Int) ∧ Steps w fr (fun _ => false) (half q lf k) wr) (fun _ i _ => 32 - (intOf i).toNat)
      case atStart => exact ⟨0, by omega, rfl, rfl, HS0.out⟩
      case round =>
        obtain ⟨k, hk, rfl, rfl, hs⟩ := hrel
        have HS := Lib.hid hs
        clear hs HS0
        by_cases hlt : k < 32
        · have hpn := poly_next k
          have hpb := poly_bit k
          have hpl := poly_le k
          obtain ⟨p2, hp2⟩ : ∃ p2, poly / 2 ^ (k + 1) = p2 := ⟨_, rfl⟩
          rw [hp2] at hpn
          have HP2 := Lib.hid hp2
          clear hp2
          generalize poly / 2 ^ k = p at *
          have hp0 : (0 : Int) ≤ (p : Int) := by omega
          cases hcond : (lf && poly.testBit k)
          · have HN := Lib.hid (HS.out.stay hcond)
            cases lf
            · go_wp2_with fail
              go_roundw
              case rel => exact ⟨k + 1, by omega, by go_num, by rw [HP2.out], HN.out⟩
              case measure => simp [intOf]; omega
            · simp only [Bool.true_and] at hcond
              rw [hcond] at hpb
              go_wp2_with fail
              go_roundw
              case rel => exact ⟨k + 1, by omega, by go_num, by rw [HP2.out], HN.out⟩
              case measure => simp [intOf]; omega
          · have HN := Lib.hid (HS.out.turn hcond)
            have hc2 : wr.cell? ⟨w.heap.size + 1 + 1, k, none⟩ = some (.bool (half q lf k k)) := by rw [HS.out.2.2.1.cell, rowF_get _ _ (by omega)]
            have hf2 := HS.out.2.2.1.loose k
            generalize half q lf k k = bk at *
            simp only [Bool.and_eq_true] at hcond
            obtain ⟨rfl, hpt⟩ := hcond
            rw [hpt] at hpb
            clear hpt
            go_wp2_with fail
            go_roundw
            case rel => exact ⟨k + 1, by omega, by go_num, by rw [HP2.out], HN.out⟩
            case measure => simp [intOf]; omega
        · obtain rfl : k = 32 := by omega
          have HB := Lib.hid HS.out.2.2.2
          have hrow := HS.out.2.2.1
          rw [show rowF (half q lf 32) = rowF (stp r x).testBit from HEND.out] at hrow
          have HR := Lib.hid hrow
          have HR2 := Lib.hid HS.out.2.1
          have HLEN := Lib.hid (show (Tryd.prog.info? 154).map (·.size) = some (rowF (stp r x).testBit).toArray.size by rw [List.size_toArray, rowF_length]; exact Tryd.size_row)
          have HONE := Lib.hid (show (rowF (stp r x).testBit).toArray.all (·.oneCell') = true by rw [Array.all_eq_true_iff_forall_mem]; intro v hv; exact rowF_one _ v (by simpa using hv))
          have HLL := Lib.hid (show (rowF fun _ => false).toArray.size = (rowF (stp r x).testBit).toArray.size by rw [List.size_toArray, List.size_toArray, rowF_length, rowF_length])
          clear hrow HS HEND
          generalize hcs : rowF (stp r x).testBit = cs at *
          have HCS := Lib.hid hcs
          clear hcs
          go_wp2_with (first
            | (with_reducible refine wpList_load_row rfl 154 (.tmp 5) rfl (w.heap.size + 1 + 1) rfl 154 cs.toArray (0, 0) _ ?hg1 Tryd.underlying154 rfl ?hi1 ?_)
            | (with_reducible refine wpList_store_rowTo rfl 154 (.tmp 4) (.tmp 42) rfl rfl (w.heap.size + 1) cs.toArray ?hx2 ?hy2 154 (rowF fun _ => false).toArray ?hg2 ?hi2 ?ho2 ?h12 ?_))
          case hg1 => exact HR.out
          case hi1 => exact HLEN.out
          case hg2 => exact HR2.out
          case hi2 => exact HLEN.out
          case ho2 => exact HLL.out
          case h12 => exact HONE.out
          have HRS := Lib.hid (show Row (wr.setRow (w.heap.size + 1) cs.toArray) (w.heap.size + 1) 154 cs (0, 0) from setRow_heap wr _ _ _ _ _ HR2.out)
          have HBS := Lib.hid (show Below w.heap.size w (wr.setRow (w.heap.size + 1) cs.toArray) from below_setRow HB.out (by omega) _)
          go_wp2_with fail
          exact bodyPost_ret (v := .agg cs.toArray) (results_cell_row rfl _ _ (w.heap.size + 1) 154 cs.toArray (0, 0) _ rfl HRS.out Tryd.underlying154 rfl HLEN.out) rfl ⟨by rw [HCS.out], HBS.out⟩

end Go.Proofs.YtjahkaockjhibaaDoor

/-
  The walks over the document's answer for package crc, part B: More, bit by bit.
-/
namespace Go.Proofs.YtjahkaockjhibaaDoor
open Go.RowKit

/-- The register lies in a row of the call's own; nothing else has turned. -/
def Regd (w : World) (f : Nat → Bool) (wr : World) : Prop := Row wr w.heap.size 154 (rowF f) (0, 0) ∧ Below w.heap.size w wr

theorem Regd.put {w wr : World} {f : Nat → Bool} (h : Regd w f wr) (k : Nat) (b : Bool) : Regd w (fun i => if i = k then b else f i) (wr.setCell ⟨w.heap.size, k, none⟩ (.bool b)) :=
  ⟨by rw [← rowF_set]; exact h.1.put k _, h.2.setCell (Nat.le_refl _) _⟩
theorem Regd.same {w wr : World} {f g : Nat → Bool} (h : Regd w f wr) (e : rowF f = rowF g) : Regd w g wr := ⟨by rw [← e]; exact h.1, h.2⟩
theorem Regd.row {w wr w1 : World} {f g : Nat → Bool} (h : Regd w f wr) (hb : Below wr.heap.size wr w1) : Regd w g (w1.setRow w.heap.size (rowF g).toArray) := by
  have hb1 : Below w.heap.size w w1 := h.2.trans (hb.mono h.2.size)
  exact ⟨setRow_heap w1 _ _ _ _ _ (h.1.below hb h.1.lt), below_setRow hb1 (Nat.le_refl _) _⟩
theorem regd_start (f : Nat → Bool) (w : World) : Regd w (fun i => decide (i < 0) && !f i) (w.alloc (.cells (rowF fun _ => false).toArray 154)) :=
  ⟨by
    have e : rowF (fun i => decide (i < 0) && !f i) = rowF fun _ => false := rowF_same fun i _ => by simp
    rw [e]
    exact Row.new w 154 _ (0, 0), (Below.refl _ _).alloc (Nat.le_refl _) _⟩

theorem half_next (s k : Nat) : ((s / 2 ^ k : Nat) : Int) / 2 = ((s / 2 ^ (k + 1) : Nat) : Int) := by
  rw [Nat.pow_succ, ← Nat.div_div_eq_div_mul]
  simp
theorem half_even (s k : Nat) : (((s / 2 ^ k : Nat) : Int) % 2 == 0) = !s.testBit k := by
  rw [← tb_div]
  generalize s / 2 ^ k = n
  have e : ((n : Nat) : Int) % 2 = ((n % 2 : Nat) : Int) := by omega
  rw [e]
  rcases Nat.mod_two_eq_zero_or_one n with h | h <;> rw [h] <;> rfl
theorem half_odd (s k : Nat) : (((s / 2 ^ k : Nat) : Int) % 2 == 1) = s.testBit k := by
  rw [← tb_div]
  generalize s / 2 ^ k = n
  have e : ((n : Nat) : Int) % 2 = ((n % 2 : Nat) : Int) := by omega
  rw [e]
  rcases Nat.mod_two_eq_zero_or_one n with h | h <;> rw [h] <;> rfl
theorem half_le (s k : Nat) : s / 2 ^ k ≤ s := Nat.div_le_self _ _

theorem rowF_size (f : Nat → Bool) : (Tryd.prog.info? 154).map (·.size) = some (rowF f).toArray.size := by rw [List.size_toArray, rowF_length]; exact Tryd.size_row
theorem rowF_all (f : Nat → Bool) : (rowF f).toArray.all (·.oneCell') = true := by rw [Array.all_eq_true_iff_forall_mem]; intro v hv; exact rowF_one _ v (by simpa using hv)
theorem rowF_sizes (f g : Nat → Bool) : (rowF f).toArray.size = (rowF g).toArray.size := by rw [List.size_toArray, List.size_toArray, rowF_length, rowF_length]

set_option maxRecDepth 100000 in
set_option maxHeartbeats 2000000 in
theorem rmore_any {T : TypeId} (A : Option Addr) (l : List UInt8) (c s : Nat) (w : World) (hr : Reads T w A l) (hs : s < 4294967296) (hl : l.length ≤ 140737488355328) :
    Calls Tryd.prog 95 #[.int .u32 (s : Int), .slice A l.length c] w fun e w' => e = .returned (.int .u32 (more_ s l : Int)) ∧ Below w.heap.size w w' := by
  have HR := Lib.hid hr
  have HST := Lib.hid (regd_start s.testBit w)
  have HGO := Lib.hid (started s)
  have HQ := Lib.hid (show s ^^^ ones < 4294967296 from Nat.xor_lt_two_pow (n := 32) hs (by decide))
  have HM := Lib.hid (show reg (s ^^^ ones) (bits l) ^^^ ones = more_ s l from rfl)
  generalize s ^^^ ones = q at *
  clear hr
  go_enter Tryd.func95, Tryd.ntmps95
  go_wp2_with fail
  go_loopw [0, 6] (fun p i wr => ∃ k : Nat, k ≤ 32 ∧ i = .int .i64 k ∧ p = .int .u32 ((s / 2 ^ k : Nat) : Int) ∧ Regd w (fun i => decide (i < k) && !s.testBit i) wr) (fun _ i _ => 32 - (intOf i).toNat)
  case atStart => exact ⟨0, by omega, rfl, by simp, HST.out⟩
  case round =>
    obtain ⟨k, hk, rfl, rfl, hrg⟩ := hrel
    have HRG := Lib.hid hrg
    clear hrg HST
    by_cases hlt : k < 32
    · have hpn := half_next s k
      have hpb := half_even s k
      have hpl := half_le s k
      obtain ⟨p2, hp2⟩ : ∃ p2, s / 2 ^ (k + 1) = p2 := ⟨_, rfl⟩
      rw [hp2] at hpn
      have HP2 := Lib.hid hp2
      clear hp2
      have hc2 : ∃ u, wr.cell? ⟨w.heap.size, k, none⟩ = some u := ⟨_, by rw [HRG.out.1.cell, rowF_get _ _ (by omega)]⟩
      obtain ⟨u, hc2⟩ := hc2
      have hf2 := HRG.out.1.loose k
      have HN := Lib.hid (HRG.out.put k (!s.testBit k))
      rw [loop0] at HN
      generalize s / 2 ^ k = p at *
      generalize (!s.testBit k) = bk at *
      have hp0 : (0 : Int) ≤ (p : Int) := by omega
      go_wp2_with fail
      go_roundw
      case rel => exact ⟨k + 1, by omega, by go_num, by rw [HP2.out], HN.out⟩
      case measure => simp [intOf]; omega
    · obtain rfl : k = 32 := by omega
      have HRQ := Lib.hid (HRG.out.same HGO.out)
      clear HRG HGO hlt
      generalize s / 2 ^ 32 = s32 at *
      go_wp2_with fail
      obtain ⟨wo, rfl⟩ : ∃ wo : World, wo = wr := ⟨_, rfl⟩
      go_loopw [7, 8, 9] (fun i _ _ wr => ∃ k : Nat, k ≤ l.length ∧ i = .int .i64 k ∧ Regd w (reg q (bits (l.take k))).testBit wr) (fun i _ _ _ => l.length - (intOf i).toNat)
      case atStart => exact ⟨0, by omega, rfl, HRQ.out⟩
      case round =>
        obtain ⟨i, hi, rfl, hrg⟩ := hrel
        have HRG := Lib.hid hrg
        clear hrg HRQ
        by_cases hlt : i < l.length
        · obtain ⟨g, off, rfl, hcell⟩ := (HR.out.below HRG.out.2 (Nat.le_refl _)).cell hlt
          have HBY := Lib.hid (reg_byte q l i hlt)
          have HQR := Lib.hid (reg_lt (bits (l.take i)) q HQ.out)
          have hcl := (l[i]'hlt).toNat_lt
          generalize (l[i]'hlt).toNat = c0 at *
          obtain ⟨R, hR⟩ : ∃ R, reg q (bits (l.take i)) = R := ⟨_, rfl⟩
          rw [hR] at HRG HQR HBY
          have HRR := Lib.hid hR
          clear hR
          go_wp2_with fail
          obtain ⟨wo2, rfl⟩ : ∃ wo2 : World, wo2 = wr := ⟨_, rfl⟩
          go_loopw [8, 9] (fun p j wr => ∃ k : Nat, k ≤ 8 ∧ j = .int .i64 k ∧ p = .int .u8 ((c0 / 2 ^ k : Nat) : Int) ∧ Regd w (reg R (bitsN k c0)).testBit wr) (fun _ j _ => 8 - (intOf j).toNat)
          case atStart => exact ⟨0, by omega, rfl, by simp, HRG.out⟩
          case round =>
            obtain ⟨k, hk, rfl, rfl, hrg⟩ := hrel
            have HRH := Lib.hid hrg
            clear hrg
            by_cases hlt8 : k < 8
            · have hpn := half_next c0 k
              have hpb := half_odd c0 k
              have hpl := half_le c0 k
              obtain ⟨p2, hp2⟩ : ∃ p2, c0 / 2 ^ (k + 1) = p2 := ⟨_, rfl⟩
              rw [hp2] at hpn
              have HP2 := Lib.hid hp2
              clear hp2
              have HSU := Lib.hid (reg_succ R c0 k)
              rw [tb_div] at HSU
              have HRL := Lib.hid (reg_lt (bitsN k c0) R HQR.out)
              generalize reg R (bitsN k c0) = rk at *
              generalize c0.testBit k = bk at *
              generalize c0 / 2 ^ k = p at *
              have hp0 : (0 : Int) ≤ (p : Int) := by omega
              have HCALL := Lib.hid (rstep_any rk bk wr HRL.out)
              go_wp2_with (first
                | (with_reducible refine wpList_load_row rfl 154 (.tmp 5) rfl w.heap.size rfl 154 (rowF rk.testBit).toArray (0, 0) _ ?hg1 Tryd.underlying154 rfl ?hi1 ?_)
                | (go_at_call 103; refine HCALL.out.mono ?_; rintro e w1 ⟨rfl, hb1⟩)
                | (with_reducible refine wpList_store_rowTo rfl 154 (.tmp 5) (.tmp 41) rfl rfl w.heap.size (rowF (stp rk bk).testBit).toArray rfl rfl 154 (rowF rk.testBit).toArray ?hg2 ?hi2 ?ho2 ?h12 ?_))
              case hg1 => exact HRH.out.1
              case hi1 => exact rowF_size _
              case hg2 => exact HRH.out.1.below hb1 HRH.out.1.lt
              case hi2 => exact rowF_size _
              case ho2 => exact rowF_sizes _ _
              case h12 => exact rowF_all _
              have HN := Lib.hid (show Regd w (reg R (bitsN (k + 1) c0)).testBit (w1.setRow w.heap.size (rowF (stp rk bk).testBit).toArray) by rw [HSU.out]; exact HRH.out.row hb1)
              go_wp2_with fail
              go_roundw
              case rel =>
                (repeat apply Exists.intro)
                refine ⟨⟨k + 1, by omega, ?_, ?_, HN.out⟩, rfl⟩
                · go_num
                · rw [HP2.out]
              case measure => simp [intOf]; omega
            · obtain rfl : k = 8 := by omega
              have HN := Lib.hid HRH.out
              rw [← HBY.out] at HN
              generalize c0 / 2 ^ 8 = c8 at *
              go_wp2_with fail
              go_roundw
              case rel => exact ⟨i + 1, by omega, by go_num, HN.out⟩
              case measure => simp [intOf]; omega
        · obtain rfl : i = l.length := by omega
          rw [List.take_length] at HRG
          have HL := Lib.hid HRG.out
          have HB := Lib.hid HRG.out.2
          obtain ⟨x, hx⟩ : ∃ x, reg q (bits l) ^^^ ones = x := ⟨_, rfl⟩
          have HX := Lib.hid hx
          have hxl : x < 4294967296 := by rw [← hx]; exact Nat.xor_lt_two_pow (n := 32) (reg_lt _ _ HQ.out) (by decide)
          have HROW := Lib.hid (show Row wr w.heap.size 154 (rowF fun i => !x.testBit i) (0, 0) by
            have h := HRG.out.1
            rw [rowF_same (g := fun i => !x.testBit i) (fun i hi => by
              rw [← hx, Nat.testBit_xor, show ones = 2 ^ 32 - 1 from rfl, Nat.testBit_two_pow_sub_one]
              simp [hi])] at h
            exact h)
          clear hx HL HRG
          go_wp2_with fail
          obtain ⟨wo2, rfl⟩ : ∃ wo2 : World, wo2 = wr := ⟨_, rfl⟩
          go_loopw [10, 11] (fun n j wr => wo2 = wr ∧ ∃ k : Nat, k ≤ 32 ∧ j = .int .i64 ((k : Int) - 1) ∧ n = .int .u32 ((x / 2 ^ k : Nat) : Int)) (fun _ j _ => (intOf j + 1).toNat)
          case atStart => exact ⟨rfl, 32, by omega, rfl, by rw [Nat.div_eq_of_lt (by omega)]; rfl⟩
          case round =>
            obtain ⟨rfl, k, hk, rfl, rfl⟩ := hrel
            by_cases hpos : 1 ≤ k
            · obtain ⟨j, rfl⟩ : ∃ j, k = j + 1 := ⟨k - 1, by omega⟩
              have ej : (((j + 1 : Nat) : Int) - 1) = (j : Int) := by omega
              rw [ej]
              have htd := top_down x j
              have hle := half_le x j
              have hcell : wo2.cell? ⟨w.heap.size, j, none⟩ = some (.bool (!x.testBit j)) := by rw [HROW.out.cell, rowF_get _ _ (by omega)]
              obtain ⟨y, hy⟩ : ∃ y, x / 2 ^ j = y := ⟨_, rfl⟩
              rw [hy] at htd hle
              have HY := Lib.hid hy
              clear hy ej
              generalize x / 2 ^ (j + 1) = p at *
              have hp0 : (0 : Int) ≤ (p : Int) := by omega
              have hp2 : (p : Int) * 2 + 1 ≤ 4294967295 := by
                have : 2 * p ≤ y := by rw [htd]; omega
                omega
              cases hb : x.testBit j
              · rw [hb] at hcell htd
                have HTD := Lib.hid htd
                clear htd hb
                go_wp2_with fail
                go_roundw
                case rel => exact ⟨trivial, j, by omega, rfl, by rw [HY.out]; have := HTD.out; simp at this; rw [this]; go_num⟩
                case measure => simp [intOf]
              · rw [hb] at hcell htd
                have HTD := Lib.hid htd
                clear htd hb
                go_wp2_with fail
                go_roundw
                case rel => exact ⟨trivial, j, by omega, rfl, by rw [HY.out]; have := HTD.out; simp at this; rw [this]; go_num⟩
                case measure => simp [intOf]
            · obtain rfl : k = 0 := by omega
              rw [show (((0 : Nat) : Int) - 1) = -1 from rfl, show x / 2 ^ 0 = more_ s l by rw [Nat.pow_zero, Nat.div_one, ← HX.out]; exact HM.out]
              obtain ⟨m, hm⟩ : ∃ m, more_ s l = m := ⟨_, rfl⟩
              have HMM := Lib.hid hm
              rw [hm]
              clear hm HM
              go_wp2_with fail
              go_ret
              exact ⟨by rw [HMM.out]; rfl, HB.out⟩

end Go.Proofs.YtjahkaockjhibaaDoor

/-
  The walks over the document's answer for package crc, part C: Seal, Open.
-/
namespace Go.Proofs.YtjahkaockjhibaaDoor
open Go.RowKit

theorem reads_none {T : TypeId} {w : World} {l : List UInt8} (h : Reads T w none l) : l = [] := by
  rcases Nat.eq_zero_or_pos l.length with h0 | h0
  · exact List.eq_nil_of_length_eq_zero h0
  · obtain ⟨g, off, cs, m, hA, _⟩ := h h0
    cases hA

section
variable {P : Program} {w : World}

/-- Append onto a row of the call's own, of any bytes, nil ones too. -/
theorem run_own_src (t ty : TypeId) (base : Nat) (e : TypeId) (i : TypeInfo) (ht : P.underlying t = some (.slice e)) (hi : P.info? e = some i) (hz : i.zero = some (.int .u8 0))
    (hsize : i.size = 1) (hby : i.bytes = 1) (g0 n c0 : Nat) (xs : List Value) (hown : w.ownsRow base e 1 (.slice (some ⟨g0, 0, none⟩) n c0) n xs)
    {T : TypeId} (A : Option Addr) (l : List UInt8) (m c : Nat) (hm : l.length = m) (hr : Reads T w A l) (hA : A = none → c = 0) (h63 : n + m ≤ 100000) (hbase : base ≤ w.heap.size) :
    ∃ g cap w', (Builtin.append_ #[t, t] ty #[.slice (some ⟨g0, 0, none⟩) n c0, .slice A m c]).run P w = .ok (.slice (some ⟨g, 0, none⟩) (n + m) cap) w' ∧
      w'.ownsRow base e 1 (.slice (some ⟨g, 0, none⟩) (n + m) cap) (n + m) (xs ++ byt l) ∧ w.grownBy w' (some g0) := by
  subst hm
  cases A with
  | none =>
    obtain rfl := reads_none hr
    obtain rfl := hA rfl
    have hrun := run_append_owned_none (P := P) (w := w) base t ty e i 1 ht hi (.slice (some ⟨g0, 0, none⟩) n c0) n xs hown
    exact ⟨g0, c0, w, hrun, by simpa [byt] using hown, only_refl w _⟩
  | some ad => exact run_own t ty base e i _ ht hi hz hsize hby rfl g0 n c0 xs hown ad l.length c (byt l) (byt_length l) (reads_news hr) (byt_one l) h63 hbase

theorem wpList_own_src {ops : Array Oper} {rest : List Oper} {o : Oper} {a : Act} {Q : Exit → Act → World → Prop} (hgd : o.guard = none) (s x : Operand) (t : TypeId)
    (ho : o.op = .call { callee := .builtin .append, args := #[s, x], argTypes := #[t, t] })
    (base : Nat) (e : TypeId) (i : TypeInfo) (ht : P.underlying t = some (.slice e)) (hi : P.info? e = some i) (hz : i.zero = some (.int .u8 0))
    (hsize : i.size = 1) (hby : i.bytes = 1) (g0 n c0 : Nat) (xs : List Value) (hs : a.eval s = .slice (some ⟨g0, 0, none⟩) n c0) (hown : w.ownsRow base e 1 (.slice (some ⟨g0, 0, none⟩) n c0) n xs)
    {T : TypeId} (A : Option Addr) (l : List UInt8) (m c : Nat) (hx : a.eval x = .slice A m c) (hm : l.length = m) (hr : Reads T w A l) (hA : A = none → c = 0) (h63 : n + m ≤ 100000) (hbase : base ≤ w.heap.size)
    (h : ∀ g cap w', w'.ownsRow base e 1 (.slice (some ⟨g, 0, none⟩) (n + m) cap) (n + m) (xs ++ byt l) → w.grownBy w' (some g0) → wpList P ops Q rest (a.put o.dst (.slice (some ⟨g, 0, none⟩) (n + m) cap)) w') : wpList P ops Q (o :: rest) a w := by
  refine wpList_plain hgd fun K hK => ?_
  obtain ⟨g, cap, w', hr, h2, h3⟩ := run_own_src (P := P) (w := w) t o.type base e i ht hi hz hsize hby g0 n c0 xs hown A l m c hm hr hA h63 hbase
  unfold Oper.wp execOp
  simp only [ho, resolve, invoke, builtin, Sem.run_bind, Sem.run_pure, Result.andThen_ok, List.map_toArray, List.map_cons, List.map_nil, hs, hx, hr]
  exact hK _ _ (h g cap w' h2 h3)
end

/-- A row of the call's own that holds so many bytes; nothing else has turned. -/
def Owns (w : World) (n : Nat) (l : List UInt8) (v : Value) (wr : World) : Prop :=
  ∃ g cap, v = .slice (some ⟨g, 0, none⟩) n cap ∧ wr.ownsRow w.heap.size 5 1 (.slice (some ⟨g, 0, none⟩) n cap) n (byt l) ∧ Below w.heap.size w wr

theorem Owns.new {w wr : World} {n : Nat} {l : List UInt8} {v : Value} (h : Owns w n l v wr) : ∃ g cap, v = .slice (some ⟨g, 0, none⟩) n cap ∧ l.length = n ∧ n ≤ cap ∧ Reads 5 wr (some ⟨g, 0, none⟩) l ∧ Below w.heap.size w wr := by
  obtain ⟨g, cap, rfl, ho, hb⟩ := h
  obtain ⟨g', cap', hv, _, _, hl, hc, hr⟩ := owns_reads ho (by intro h; cases h)
  injection hv with hv _ hv2
  obtain rfl : g = g' := by simpa using hv
  subst hv2
  exact ⟨g, cap, rfl, hl, hc, hr, hb⟩

theorem own_block {w : World} {base n g cap : Nat} {e : TypeId} {xs : List Value} (h : w.ownsRow base e 1 (.slice (some ⟨g, 0, none⟩) n cap) n xs) : base ≤ g := by
  rcases h.2 with ⟨h0, _⟩ | ⟨g', cap', cur, hv, hb, _⟩
  · cases h0
  · injection hv with hv
    obtain rfl : g = g' := by simpa using hv
    exact hb

theorem owns_src {w : World} {n g cap : Nat} {l : List UInt8} {w' : World} {o : Obj} (h : w'.ownsRow w.heap.size 5 1 (.slice (some ⟨g, 0, none⟩) n cap) n ([] ++ byt l)) {w1 : World} (hb : Below w.heap.size w w1) (hg : (w1.alloc o).grownBy w' (some w1.heap.size)) : Owns w n l (.slice (some ⟨g, 0, none⟩) n cap) w' := by
  rw [List.nil_append] at h
  exact ⟨g, cap, rfl, h, (hb.alloc hb.size o).grown hg (by rw [size_new]; have := hb.size; omega) (fun k hk => by injection hk with hk; have := hb.size; omega)⟩

theorem owns_more {w wr w' : World} {n g g0 cap c0 : Nat} {l : List UInt8} {u : Value} {b : UInt8} {o : Obj} (h0 : wr.ownsRow w.heap.size 5 1 (.slice (some ⟨g0, 0, none⟩) n c0) n (byt l)) (hb : Below w.heap.size w wr)
    (h : w'.ownsRow w.heap.size 5 1 (.slice (some ⟨g, 0, none⟩) (n + 1) cap) (n + 1) (byt l ++ [u])) (hg : (wr.alloc o).grownBy w' (some g0)) (hu : u = .int .u8 (b.toNat : Int)) : Owns w (n + 1) (l ++ [b]) (.slice (some ⟨g, 0, none⟩) (n + 1) cap) w' := by
  subst hu
  refine ⟨g, cap, rfl, by rw [byt_append]; exact h, (hb.alloc hb.size o).grown hg (by rw [size_new]; have := hb.size; omega) (fun k hk => by injection hk with hk; subst hk; exact own_block h0)⟩

theorem div256 (m k : Nat) : ((m / 256 ^ k : Nat) : Int) / 256 = ((m / 256 ^ (k + 1) : Nat) : Int) := by
  rw [Nat.pow_succ, ← Nat.div_div_eq_div_mul]
  simp
theorem le4_take (m k : Nat) (hk : k < 4) : (le4 m).take (k + 1) = (le4 m).take k ++ [(le4 m)[k]'hk] := List.take_succ_eq_append_getElem (by exact hk)
theorem le4_at (m k : Nat) (hk : k < 4) : ((m / 256 ^ k % 256 : Nat) : Int) = (((le4 m)[k]'hk).toNat : Int) := by
  have hc : k = 0 ∨ k = 1 ∨ k = 2 ∨ k = 3 := by omega
  rcases hc with rfl | rfl | rfl | rfl
  all_goals
    simp only [le4, List.getElem_cons_zero, List.getElem_cons_succ, UInt8.toNat_ofNat']
    try omega

set_option maxRecDepth 100000 in
set_option maxHeartbeats 1000000 in
theorem rseal_any {T : TypeId} (A : Option Addr) (l : List UInt8) (n c : Nat) (w : World) (hln : l.length = n) (hr : Reads T w A l) (hA : A = none → c = 0) (hl : n ≤ 50000) :
    Calls Tryd.prog 81 #[.slice A n c] w (NewB w (n + 4) (sealL l)) := by
  obtain ⟨i0, hi0, hz0, hz1, hz2⟩ := info_parts Tryd.info_u8
  subst hln
  have HS := Lib.hid (rmore_any A l c 0 w hr (by decide) (by omega))
  have HR := Lib.hid hr
  have HA := Lib.hid hA
  have HL := Lib.hid (more_lt 0 l (by decide))
  obtain ⟨m, hm⟩ : ∃ m, more_ 0 l = m := ⟨_, rfl⟩
  rw [hm] at HS HL
  have HM := Lib.hid hm
  clear hr hm hA
  go_enter Tryd.func81, Tryd.ntmps81
  go_wp2_with fail
  refine HS.out.mono ?_
  rintro e w1 ⟨rfl, hb1⟩
  have HB1 := Lib.hid hb1
  clear hb1
  go_wp2_with (at_builtin; refine wpList_own_src rfl (.tmp 8) (.tmp 9) 80 rfl w.heap.size 5 i0 Tryd.underlying80 hi0 hz0 hz1 hz2 w1.heap.size 0 0 [] rfl (World.ownsRow_made w1 #[] 0 HB1.out.size (by simp [maxLen]) rfl) A l l.length c rfl rfl (HR.out.below (HB1.out.alloc HB1.out.size _) (Nat.le_refl _)) HA.out (by omega) ?hba ?_)
  case hba => rw [size_new]; have := HB1.out.size; omega
  intro g cap w2 hown hgr
  have HO := Lib.hid (owns_src hown HB1.out hgr)
  clear hown hgr
  go_wp2_with fail
  go_loopw [3, 4, 5] (fun vn vo vi wr => ∃ k : Nat, k ≤ 4 ∧ vi = .int .i64 k ∧ vn = .int .u32 ((m / 256 ^ k : Nat) : Int) ∧ Owns w (l.length + k) (l ++ (le4 m).take k) vo wr) (fun _ _ vi _ => 4 - (intOf vi).toNat)
  case atStart => exact ⟨0, by omega, rfl, by simp, by rw [List.take_zero, List.append_nil]; exact HO.out⟩
  case round =>
    obtain ⟨k, hk, rfl, rfl, hown⟩ := hrel
    have HOW := Lib.hid hown
    clear hown HO
    by_cases hlt : k < 4
    · obtain ⟨g1, c1, rfl, ho1, hb1⟩ := HOW.out
      have HO1 := Lib.hid ho1
      have HB := Lib.hid hb1
      have HT1 := Lib.hid (le4_take m k hlt)
      have hat := le4_at m k hlt
      have hdv := div256 m k
      have hle : m / 256 ^ k ≤ m := Nat.div_le_self _ _
      have hmod : ((m / 256 ^ k % 256 : Nat) : Int) = ((m / 256 ^ k : Nat) : Int) % 256 := by omega
      rw [hmod] at hat
      clear hmod ho1 hb1
      obtain ⟨q2, hq2⟩ : ∃ q2, m / 256 ^ (k + 1) = q2 := ⟨_, rfl⟩
      rw [hq2] at hdv
      have HQ2 := Lib.hid hq2
      clear hq2
      generalize m / 256 ^ k = q at *
      generalize hbk : (le4 m)[k]'hlt = bk at *
      have hq0 : (0 : Int) ≤ (q : Int) := by omega
      have hml := HL.out
      have HBK := Lib.hid hbk
      clear hbk
      go_wp2_with (at_builtin; refine wpList_append_lies _ rfl (.tmp 15) (.tmp 19) 80 rfl w.heap.size 5 i0 _ 1 1 Tryd.underlying80 hi0 hz0 hz1 hz2 rfl (by decide) (.slice (some ⟨g1, 0, none⟩) (l.length + k) c1) (l.length + k) (byt (l ++ (le4 m).take k)) rfl (HO1.out.alloc _) ⟨wr.heap.size, 0, none⟩ 1 1 [.int .u8 (bk.toNat : Int)] rfl rfl (cell_one_new _ _ _) ?o1 (by decide) ?h63 ?hby ?hba _ (size_new _ _) ?_)
      case o1 => simp; rfl
      case h63 => unfold maxLen; omega
      case hby => omega
      case hba => rw [size_new]; have := HB.out.size; omega
      intro g2 c2 w3 hown2 hgrow2 _ _
      have HN := Lib.hid (show Owns w (l.length + (k + 1)) (l ++ (le4 m).take (k + 1)) (.slice (some ⟨g2, 0, none⟩) (l.length + (k + 1)) c2) w3 by
        rw [HT1.out, ← List.append_assoc]
        exact owns_more HO1.out HB.out hown2 hgrow2 rfl)
      clear hown2 hgrow2
      go_wp2_with fail
      go_roundw
      case rel => exact ⟨k + 1, by omega, by go_num, by rw [HQ2.out], HN.out⟩
      case measure => simp [intOf]; omega
    · obtain rfl : k = 4 := by omega
      obtain ⟨g1, c1, rfl, hl1, hc1, hr1, hb1⟩ := HOW.out.new
      generalize m / 256 ^ 4 = q at *
      have HRD := Lib.hid (show Reads 5 wr (some ⟨g1, 0, none⟩) (sealL l) by
        have h := hr1
        rw [List.take_of_length_le (by exact Nat.le_refl 4)] at h
        unfold sealL
        rw [HM.out]
        exact h)
      have HB := Lib.hid hb1
      clear hr1 hl1 hb1 HOW
      go_wp2_with fail
      go_ret
      exact ⟨g1, c1, rfl, sealL_length l, hc1, HRD.out, HB.out⟩

end Go.Proofs.YtjahkaockjhibaaDoor
