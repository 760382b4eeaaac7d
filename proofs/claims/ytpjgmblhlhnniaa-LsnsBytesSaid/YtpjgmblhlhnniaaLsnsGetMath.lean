/-
  Plain facts on a set's bytes: what bytes tell, by the document, and by a reader.
-/
import Derived.Test.YtpjgmblhlhnniaaLsnsLaw
import Derived.Test.YtpjgmblhlhnniaaLsnsOctR
namespace Go.Proofs.Ytpjgmblhlhnniaa
open Go.RowKit

/-- The numbers that lie behind the first ten bytes. -/
def nums (b : List UInt8) (k : Nat) : List Nat := (List.range k).map fun i => val ((b.drop (10 + 8 * i)).take 8)
/-- What bytes tell: a set, how many bytes it has, an error's number. -/
def getS (b : List UInt8) : LS × Nat × Nat :=
  if b.length < 10 then (LS.zero, 0, 4) else
  if 1000 < val ((b.drop 8).take 2) then (LS.zero, 0, 40) else
  if b.length < 10 + 8 * val ((b.drop 8).take 2) then (LS.zero, 0, 4) else
  if LS.right ⟨val (b.take 8), nums b (val ((b.drop 8).take 2))⟩ then (⟨val (b.take 8), nums b (val ((b.drop 8).take 2))⟩, 10 + 8 * val ((b.drop 8).take 2), 0) else (LS.zero, 0, 40)

theorem nums_succ (b : List UInt8) (k : Nat) : nums b (k + 1) = nums b k ++ [val ((b.drop (10 + 8 * k)).take 8)] := by
  unfold nums; rw [List.range_succ, List.map_append]; rfl
theorem nums_length (b : List UInt8) (k : Nat) : (nums b k).length = k := by simp [nums]
theorem nums_get (b : List UInt8) (k i : Nat) (h : i < (nums b k).length) : (nums b k)[i] = val ((b.drop (10 + 8 * i)).take 8) := by simp [nums]
theorem val_take8 (l : List UInt8) : val (l.take 8) < 18446744073709551616 := by
  have := val_le (l := l.take 8) (by rw [List.length_take]; omega)
  exact this
theorem nums_fit (b : List UInt8) (k : Nat) : ∀ x ∈ nums b k, x < 18446744073709551616 := by
  intro x hx
  obtain ⟨i, _, rfl⟩ := List.mem_map.1 hx
  exact val_take8 _
theorem getS_cases (b : List UInt8) : ((getS b).1.right = true) ∧ (getS b).1.Fits ∧ (getS b).1.ins.length ≤ 1000 := by
  have hz : LS.zero.right = true ∧ LS.zero.Fits ∧ LS.zero.ins.length ≤ 1000 := ⟨rfl, ⟨by decide, fun k hk => by cases hk⟩, by decide⟩
  unfold getS
  split
  · exact hz
  · split
    · exact hz
    · split
      · exact hz
      · split
        · rename_i h1 _ h3
          refine ⟨h3, ⟨val_take8 _, nums_fit _ _⟩, ?_⟩
          show (nums b _).length ≤ 1000
          rw [nums_length]
          omega
        · exact hz

/-- A reader behind so many readings, and what they tell. -/
def stN (st : Option (List UInt8)) : Nat → Option (List UInt8)
  | 0 => st
  | k + 1 => (rnum (stN st k) 8).2
def numN (st : Option (List UInt8)) (k : Nat) : Nat := (rnum (stN st k) 8).1
def numsN (st : Option (List UInt8)) (k : Nat) : List Nat := (List.range k).map (numN st)
theorem numsN_succ (st : Option (List UInt8)) (k : Nat) : numsN st (k + 1) = numsN st k ++ [numN st k] := by
  unfold numsN; rw [List.range_succ, List.map_append]; rfl
theorem numsN_length (st : Option (List UInt8)) (k : Nat) : (numsN st k).length = k := by simp [numsN]
theorem rnum_some (l : List UInt8) (n : Nat) (hn : isW n = true) (h : n ≤ l.length) : rnum (some l) n = (val (l.take n), some (l.drop n)) := by
  show (if isW (n : Int) = true ∧ (n : Int) ≤ (l.length : Int) then (val (l.take (n : Int).toNat), some (l.drop (n : Int).toNat)) else (0, none)) = _
  rw [if_pos ⟨hn, by omega⟩, Int.toNat_natCast]
theorem rnum_short (l : List UInt8) (n : Nat) (h : l.length < n) : rnum (some l) n = (0, none) := by
  show (if isW (n : Int) = true ∧ (n : Int) ≤ (l.length : Int) then (val (l.take (n : Int).toNat), some (l.drop (n : Int).toNat)) else (0, none)) = _
  rw [if_neg (by omega)]
theorem rnum_lt (st : Option (List UInt8)) (n : Int) : (rnum st n).1 < 18446744073709551616 := by
  unfold rnum
  split
  · decide
  · split
    · rename_i l h
      have h8 : n.toNat ≤ 8 := by have := isW_cases h.1; omega
      exact val_le (by rw [List.length_take]; omega)
    · decide
theorem numsN_fit (st : Option (List UInt8)) (k : Nat) : ∀ x ∈ numsN st k, x < 18446744073709551616 := by
  intro x hx
  obtain ⟨i, _, rfl⟩ := List.mem_map.1 hx
  exact rnum_lt _ _
theorem stN_none : ∀ k, stN none k = none
  | 0 => rfl
  | k + 1 => by rw [stN, stN_none k]; rfl
theorem stN_some (l : List UInt8) : ∀ k, 8 * k ≤ l.length → stN (some l) k = some (l.drop (8 * k))
  | 0, _ => by simp [stN]
  | k + 1, h => by
    rw [stN, stN_some l k (by omega)]
    have := rnum_some (l.drop (8 * k)) 8 rfl (by rw [List.length_drop]; omega)
    rw [show (8 : Int) = ((8 : Nat) : Int) from rfl, this, List.drop_drop]
    rfl
theorem stN_short (l : List UInt8) : ∀ k, l.length < 8 * k → stN (some l) k = none
  | 0, h => by omega
  | k + 1, h => by
    rw [stN]
    rcases Nat.lt_or_ge l.length (8 * k) with h1 | h1
    · rw [stN_short l k h1]; rfl
    · rw [stN_some l k h1]
      have := rnum_short (l.drop (8 * k)) 8 (by rw [List.length_drop]; omega)
      rw [show (8 : Int) = ((8 : Nat) : Int) from rfl, this]
theorem numN_some (l : List UInt8) (k : Nat) (h : 8 * k + 8 ≤ l.length) : numN (some l) k = val ((l.drop (8 * k)).take 8) := by
  unfold numN
  rw [stN_some l k (by omega)]
  have := rnum_some (l.drop (8 * k)) 8 rfl (by rw [List.length_drop]; omega)
  rw [show (8 : Int) = ((8 : Nat) : Int) from rfl, this]

/-- What a reader's way tells. -/
def codeG (c : List UInt8) : LS × Nat × Nat :=
  if 1000 < (rnum (rnum (some c) 8).2 2).1 then (LS.zero, 0, 40) else
  if stN (rnum (rnum (some c) 8).2 2).2 (rnum (rnum (some c) 8).2 2).1 = none then (LS.zero, 0, 4) else
  if LS.right ⟨(rnum (some c) 8).1, numsN (rnum (rnum (some c) 8).2 2).2 (rnum (rnum (some c) 8).2 2).1⟩ then
    (⟨(rnum (some c) 8).1, numsN (rnum (rnum (some c) 8).2 2).2 (rnum (rnum (some c) 8).2 2).1⟩, 10 + 8 * (rnum (rnum (some c) 8).2 2).1, 0) else (LS.zero, 0, 40)

theorem codeG_eq (b : List UInt8) : codeG (b.take 8010) = getS b := by
  obtain ⟨c, hc⟩ : ∃ c, b.take 8010 = c := ⟨_, rfl⟩
  have hl : c.length = min 8010 b.length := by rw [← hc, List.length_take]
  rw [hc]
  unfold getS
  by_cases h8 : c.length < 8
  · have e1 : rnum (some c) 8 = (0, none) := rnum_short c 8 h8
    have e2 : rnum none 2 = (0, none) := rfl
    rw [if_pos (by omega)]
    unfold codeG
    rw [e1]
    simp only [e2]
    rw [if_neg (by omega), if_pos (stN_none 0)]
  · have e1 : rnum (some c) 8 = (val (c.take 8), some (c.drop 8)) := rnum_some c 8 rfl (by omega)
    by_cases h10 : c.length < 10
    · have e2 : rnum (some (c.drop 8)) 2 = (0, none) := rnum_short _ 2 (by rw [List.length_drop]; omega)
      rw [if_pos (by omega)]
      unfold codeG
      rw [e1]
      simp only [e2]
      rw [if_neg (by omega), if_pos (stN_none 0)]
    · have e2 : rnum (some (c.drop 8)) 2 = (val ((c.drop 8).take 2), some (c.drop 10)) := by
        have := rnum_some (c.drop 8) 2 rfl (by rw [List.length_drop]; omega)
        rw [List.drop_drop] at this
        exact this
      have f1 : c.take 8 = b.take 8 := by rw [← hc, List.take_take]; rfl
      have f2 : (c.drop 8).take 2 = (b.drop 8).take 2 := by
        rw [← hc, List.drop_take, List.take_take]
        rfl
      rw [if_neg (by omega)]
      unfold codeG
      rw [e1]
      simp only [e2]
      rw [f1, f2]
      obtain ⟨K, hK⟩ : ∃ K, val ((b.drop 8).take 2) = K := ⟨_, rfl⟩
      rw [hK]
      by_cases hk : 1000 < K
      · rw [if_pos hk, if_pos hk]
      · rw [if_neg hk, if_neg hk]
        by_cases hs : b.length < 10 + 8 * K
        · rw [if_pos hs, if_pos (stN_short _ _ (by rw [List.length_drop]; omega))]
        · have hn : numsN (some (c.drop 10)) K = nums b K := by
            unfold numsN nums
            refine List.map_congr_left fun i hi => ?_
            have hi := List.mem_range.1 hi
            rw [numN_some _ _ (by rw [List.length_drop]; omega), List.drop_drop, ← hc, List.drop_take, List.take_take, Nat.min_eq_left (by omega)]
          rw [if_neg hs, if_neg (by rw [stN_some _ _ (by rw [List.length_drop]; omega)]; simp), hn]

theorem be_rest (v k : Nat) : v % 256 ^ (k + 1) = (UInt8.ofNat (v / 256 ^ k)).toNat * 256 ^ k + v % 256 ^ k := by
  rw [UInt8.toNat_ofNat', Nat.pow_succ, Nat.mod_mul, Nat.mul_comm, Nat.add_comm]
theorem fold_be (v : Nat) : ∀ k acc, (be v k).foldl (fun n c => n * 256 + c.toNat) acc = acc * 256 ^ k + v % 256 ^ k
  | 0, acc => by simp [be, Nat.mod_one]
  | k + 1, acc => by
    rw [be, List.foldl_cons, fold_be v k, be_rest v k, Nat.add_mul, Nat.pow_succ, Nat.mul_assoc, Nat.mul_comm 256, Nat.add_assoc]
theorem val_be (v k : Nat) (h : v < 256 ^ k) : val (be v k) = v := by
  unfold val
  rw [fold_be, Nat.zero_mul, Nat.zero_add, Nat.mod_eq_of_lt h]
theorem flat_drop : ∀ (l : List Nat) (i : Nat) (h : i < l.length) (r : List UInt8), ((l.flatMap (fun n => be n 8) ++ r).drop (8 * i)).take 8 = be l[i] 8
  | [], _, h, _ => by simp at h
  | x :: l, 0, _, r => by
    rw [List.flatMap_cons, List.append_assoc, Nat.mul_zero, List.drop_zero, List.take_left' (be_length x 8)]
    rfl
  | x :: l, i + 1, h, r => by
    rw [List.flatMap_cons, List.append_assoc, Nat.mul_succ, Nat.add_comm, ← List.drop_drop, List.drop_left' (be_length x 8), flat_drop l i (by simpa using h) r]
    rfl
theorem flat_length (l : List Nat) : (l.flatMap (fun n => be n 8)).length = 8 * l.length := by
  induction l with
  | nil => rfl
  | cons x l ih => rw [List.flatMap_cons, List.length_append, ih, be_length, List.length_cons]; omega

/-- What Put's bytes tell. -/
theorem getS_bytes (s : LS) (h : s.right = true) (hf : s.Fits) (b : List UInt8) : getS (s.bytes ++ b) = (s, s.bytes.length, 0) := by
  obtain ⟨low, l⟩ := s
  have hl := ((LS.right_iff _).1 h).1
  have hlow : low < 256 ^ 8 := hf.1
  have hlen : (LS.bytes ⟨low, l⟩).length = 10 + 8 * l.length := by
    show (be low 8 ++ be l.length 2 ++ l.flatMap (fun n => be n 8)).length = _
    rw [List.length_append, List.length_append, be_length, be_length, flat_length]
  have e : LS.bytes ⟨low, l⟩ ++ b = be low 8 ++ (be l.length 2 ++ (l.flatMap (fun n => be n 8) ++ b)) := by
    show be low 8 ++ be l.length 2 ++ l.flatMap (fun n => be n 8) ++ b = _
    rw [List.append_assoc, List.append_assoc]
  have t1 : (LS.bytes ⟨low, l⟩ ++ b).take 8 = be low 8 := by rw [e, List.take_left' (be_length low 8)]
  have t2 : ((LS.bytes ⟨low, l⟩ ++ b).drop 8).take 2 = be l.length 2 := by rw [e, List.drop_left' (be_length low 8), List.take_left' (be_length _ 2)]
  have t3 : (LS.bytes ⟨low, l⟩ ++ b).drop 10 = l.flatMap (fun n => be n 8) ++ b := by
    rw [show 10 = 8 + 2 from rfl, ← List.drop_drop, e, List.drop_left' (be_length low 8), List.drop_left' (be_length _ 2)]
  have v1 : val (be low 8) = low := val_be _ _ hlow
  have v2 : val (be l.length 2) = l.length := val_be _ _ (by simp only at hl; omega)
  have hn : nums (LS.bytes ⟨low, l⟩ ++ b) l.length = l := by
    refine List.ext_getElem (nums_length _ _) fun i h1 h2 => ?_
    rw [nums_get, ← List.drop_drop, t3, flat_drop l i h2 b]
    exact val_be _ _ (hf.2 _ (List.getElem_mem h2))
  unfold getS
  rw [t1, t2, v1, v2, hn, List.length_append, hlen, if_neg (by omega), if_neg (by simp only at hl; omega), if_neg (by omega), if_pos h]

end Go.Proofs.Ytpjgmblhlhnniaa
