/-
  Plain facts on bits of a record that are turned within 32 of each other: such a record is bad. No program is read here.
-/
import Derived.Test.YtlhcacancnmhcaaDoorRecMath
namespace Go.Proofs.YtlhcacancnmhcaaDoor

theorem bits_of : ∀ B : List Bool, ∃ c, c < 2 ^ B.length ∧ bitsN B.length c = B ∧ (true ∈ B → c ≠ 0)
  | [] => ⟨0, by simp, rfl, by simp⟩
  | x :: B => by
    obtain ⟨c, h1, h2, h3⟩ := bits_of B
    refine ⟨2 * c + x.toNat, ?_, ?_, ?_⟩
    · rw [List.length_cons, Nat.pow_succ]; cases x <;> simp only [Bool.toNat_false, Bool.toNat_true] <;> omega
    · rw [List.length_cons]
      show ((2 * c + x.toNat) % 2 == 1) :: bitsN B.length ((2 * c + x.toNat) / 2) = x :: B
      have e1 : (2 * c + x.toNat) / 2 = c := by cases x <;> simp only [Bool.toNat_false, Bool.toNat_true] <;> omega
      have e2 : ((2 * c + x.toNat) % 2 == 1) = x := by
        cases x
        · have : (2 * c + false.toNat) % 2 = 0 := by simp only [Bool.toNat_false]; omega
          rw [this]; rfl
        · have : (2 * c + true.toNat) % 2 = 1 := by simp only [Bool.toNat_true]; omega
          rw [this]; rfl
      rw [e1, e2, h2]
    · intro h
      cases x
      · have := h3 (by simpa using h)
        simp only [Bool.toNat_false]; omega
      · simp only [Bool.toNat_true]; omega

/-- All set bits lie within 32, from a on. -/
def Near (D : List Bool) (a : Nat) : Prop := ∀ p, D[p]? = some true → a ≤ p ∧ p < a + 32

theorem none_set {D : List Bool} (h : ∀ p : Nat, D[p]? ≠ some true) : D = List.replicate D.length false := by
  refine List.eq_replicate_iff.2 ⟨rfl, fun b hb => ?_⟩
  obtain ⟨p, hp⟩ := List.mem_iff_getElem?.1 hb
  cases b with
  | false => rfl
  | true => exact absurd hp (h p)

theorem near_reg {D : List Bool} {a : Nat} (h : Near D a) (ht : ∃ p : Nat, D[p]? = some true) : reg 0 D ≠ 0 := by
  obtain ⟨p, hp⟩ := ht
  have hB : ((D.drop a).take 32).length ≤ 32 := by rw [List.length_take]; omega
  obtain ⟨c, h1, h2, h3⟩ := bits_of ((D.drop a).take 32)
  have e1 : D.take a = List.replicate (D.take a).length false := none_set (fun q hq => by
    rw [List.getElem?_take] at hq
    split at hq
    · have := h q hq; omega
    · cases hq)
  have e2 : (D.drop a).drop 32 = List.replicate ((D.drop a).drop 32).length false := none_set (fun q hq => by
    rw [List.getElem?_drop, List.getElem?_drop] at hq
    have := h _ hq; omega)
  have e : D = List.replicate (D.take a).length false ++ (bitsN ((D.drop a).take 32).length c ++ List.replicate ((D.drop a).drop 32).length false) := by
    rw [h2, ← e1, ← e2, List.take_append_drop, List.take_append_drop]
  have hc : c ≠ 0 := by
    refine h3 (List.mem_iff_getElem?.2 ⟨p - a, ?_⟩)
    have := h p hp
    rw [List.getElem?_take, if_pos (by omega), List.getElem?_drop, show a + (p - a) = p by omega]
    exact hp
  rw [e]
  exact burst _ _ _ _ hB h1 hc

theorem near_take {D : List Bool} {a : Nat} (h : Near D a) (m : Nat) : Near (D.take m) a := fun p hp => by
  rw [List.getElem?_take] at hp
  split at hp
  · exact h p hp
  · cases hp
theorem near_drop {D : List Bool} {a : Nat} (h : Near D a) (m : Nat) : Near (D.drop m) (a - m) := fun p hp => by
  rw [List.getElem?_drop] at hp
  have := h _ hp; omega

theorem diff_get : ∀ (xs ys : List Bool) (_ : xs.length = ys.length) (p : Nat), (diff xs ys)[p]? = some true ↔ ∃ x, xs[p]? = some x ∧ ys[p]? = some !x
  | [], [], _, p => by simp [diff]
  | [], y :: ys, h, _ => by simp at h
  | x :: xs, [], h, _ => by simp at h
  | x :: xs, y :: ys, h, 0 => by
    show some (x != y) = some true ↔ _
    cases x <;> cases y <;> simp
  | x :: xs, y :: ys, h, p + 1 => by
    have := diff_get xs ys (by simpa using h) p
    simpa [diff] using this

theorem flip_get : ∀ (xs : List Bool) (n p : Nat), (flipAt xs n)[p]? = if p = n then (xs[p]?).map not else xs[p]?
  | [], n, p => by simp [flipAt]
  | x :: xs, 0, 0 => rfl
  | x :: xs, 0, p + 1 => by simp [flipAt]
  | x :: xs, n + 1, 0 => by simp [flipAt]
  | x :: xs, n + 1, p + 1 => by
    have := flip_get xs n p
    simp only [flipAt, List.getElem?_cons_succ, this, Nat.add_right_cancel_iff]

/-- The first k bits of a number c, where set, turn a text's bits from a on. -/
def turns (c a : Nat) : Nat → List UInt8 → List UInt8
  | 0, l => l
  | k + 1, l => if c / 2 ^ k % 2 = 1 then flipL (turns c a k l) (a + k) else turns c a k l
theorem turns_length (c a : Nat) (l : List UInt8) : ∀ k, (turns c a k l).length = l.length
  | 0 => rfl
  | k + 1 => by
    unfold turns
    split
    · rw [flipL_length, turns_length c a l k]
    · exact turns_length c a l k
theorem turns_get (c a : Nat) (l : List UInt8) : ∀ (k : Nat) (_ : a + k ≤ 8 * l.length) (p : Nat), (bits (turns c a k l))[p]? = if a ≤ p ∧ p < a + k ∧ c / 2 ^ (p - a) % 2 = 1 then ((bits l)[p]?).map not else (bits l)[p]?
  | 0, _, p => by
    rw [if_neg (by omega)]; rfl
  | k + 1, h, p => by
    have ih := turns_get c a l k (by omega) p
    unfold turns
    split
    · rename_i hk
      rw [bits_flip _ _ (by rw [turns_length]; omega), flip_get, ih]
      by_cases hp : p = a + k
      · subst hp
        rw [if_pos rfl, if_neg (by omega), if_pos ⟨by omega, by omega, by rw [show a + k - a = k by omega]; exact hk⟩]
      · rw [if_neg hp]
        by_cases h2 : a ≤ p ∧ p < a + k ∧ c / 2 ^ (p - a) % 2 = 1
        · rw [if_pos h2, if_pos ⟨h2.1, by omega, h2.2.2⟩]
        · rw [if_neg h2, if_neg (fun x => h2 ⟨x.1, by omega, x.2.2⟩)]
    · rename_i hk
      rw [ih]
      by_cases hp : p = a + k
      · subst hp
        rw [if_neg (by omega), if_neg (fun x => hk (by have := x.2.2; rw [show a + k - a = k by omega] at this; exact this))]
      · by_cases h2 : a ≤ p ∧ p < a + k ∧ c / 2 ^ (p - a) % 2 = 1
        · rw [if_pos h2, if_pos ⟨h2.1, by omega, h2.2.2⟩]
        · rw [if_neg h2, if_neg (fun x => h2 ⟨x.1, by omega, x.2.2⟩)]

theorem turns_near (c a : Nat) (l : List UInt8) (h : a + 32 ≤ 8 * l.length) : Near (diff (bits l) (bits (turns c a 32 l))) a := fun p hp => by
  rw [diff_get _ _ (by rw [bits_length, bits_length, turns_length])] at hp
  obtain ⟨x, h1, h2⟩ := hp
  rw [turns_get c a l 32 h, h1] at h2
  split at h2
  · rename_i h3; exact ⟨h3.1, h3.2.1⟩
  · injection h2 with h2; cases x <;> cases h2

theorem some_bit : ∀ (n c : Nat) (_ : c < 2 ^ n) (_ : c ≠ 0), ∃ i, i < n ∧ c / 2 ^ i % 2 = 1
  | 0, c, h, h0 => by simp at h; omega
  | n + 1, c, h, h0 => by
    by_cases h1 : c % 2 = 1
    · exact ⟨0, by omega, by simpa using h1⟩
    · rw [Nat.pow_succ] at h
      obtain ⟨i, hi, hj⟩ := some_bit n (c / 2) (by omega) (by omega)
      refine ⟨i + 1, by omega, ?_⟩
      rw [Nat.pow_succ, Nat.mul_comm, ← Nat.div_div_eq_div_mul]
      exact hj

theorem turns_some (c a : Nat) (l : List UInt8) (h : a + 32 ≤ 8 * l.length) (hc : c < 4294967296) (h0 : c ≠ 0) : ∃ p : Nat, (diff (bits l) (bits (turns c a 32 l)))[p]? = some true := by
  obtain ⟨i, hi, hb⟩ := some_bit 32 c hc h0
  refine ⟨a + i, ?_⟩
  rw [diff_get _ _ (by rw [bits_length, bits_length, turns_length])]
  have hl : a + i < (bits l).length := by rw [bits_length]; omega
  refine ⟨(bits l)[a + i], List.getElem?_eq_getElem hl, ?_⟩
  rw [turns_get c a l 32 h, if_pos ⟨by omega, by omega, by rw [show a + i - a = i by omega]; exact hb⟩, List.getElem?_eq_getElem hl]
  rfl

theorem bits_take : ∀ (l : List UInt8) (m : Nat), bits (l.take m) = (bits l).take (8 * m)
  | [], m => by simp [bits]
  | c :: l, 0 => by simp [bits]
  | c :: l, m + 1 => by
    show bitsN 8 c.toNat ++ bits (l.take m) = (bitsN 8 c.toNat ++ bits l).take (8 * (m + 1))
    rw [bits_take l m, List.take_append, bitsN_length, List.take_of_length_le (l := bitsN 8 c.toNat) (by rw [bitsN_length]; omega), show 8 * (m + 1) - 8 = 8 * m by omega]
theorem bits_drop (l : List UInt8) (m : Nat) (h : m ≤ l.length) : bits (l.drop m) = (bits l).drop (8 * m) := by
  have e : bits l = bits (l.take m) ++ bits (l.drop m) := by rw [← bits_append, List.take_append_drop]
  have hl : (bits (l.take m)).length = 8 * m := by rw [bits_length, List.length_take, Nat.min_eq_left h]
  rw [e, ← hl, List.drop_left]
theorem diff_take : ∀ (m : Nat) (xs ys : List Bool), diff (xs.take m) (ys.take m) = (diff xs ys).take m
  | 0, xs, ys => by simp [diff]
  | m + 1, [], ys => by simp [diff]
  | m + 1, x :: xs, [] => by simp [diff]
  | m + 1, x :: xs, y :: ys => by simp [diff, diff_take m xs ys]
theorem diff_drop : ∀ (m : Nat) (xs ys : List Bool), diff (xs.drop m) (ys.drop m) = (diff xs ys).drop m
  | 0, xs, ys => by simp
  | m + 1, [], ys => by simp [diff]
  | m + 1, x :: xs, [] => by
    cases hxs : xs.drop m <;> simp [diff, hxs]
  | m + 1, x :: xs, y :: ys => by simp [diff, diff_drop m xs ys]

theorem byte_bits : ∀ a : Nat, a < 256 → ∀ b : Nat, b < 256 → bitsN 8 a = bitsN 8 b → a = b := by
  intro a ha b hb h
  simp only [bitsN, List.cons.injEq, and_true] at h
  obtain ⟨h0, h1, h2, h3, h4, h5, h6, h7⟩ := h
  have t : ∀ m n : Nat, (m % 2 == 1) = (n % 2 == 1) → m % 2 = n % 2 := fun m n e => by
    have e' : (m % 2 = 1) ↔ (n % 2 = 1) := by rw [← beq_iff_eq (a := m % 2), ← beq_iff_eq (a := n % 2), e]
    omega
  replace h0 := t _ _ h0
  replace h1 := t _ _ h1
  replace h2 := t _ _ h2
  replace h3 := t _ _ h3
  replace h4 := t _ _ h4
  replace h5 := t _ _ h5
  replace h6 := t _ _ h6
  replace h7 := t _ _ h7
  omega
theorem bits_inj : ∀ (x y : List UInt8) (_ : x.length = y.length) (_ : bits x = bits y), x = y
  | [], [], _, _ => rfl
  | [], _ :: _, h, _ => by simp at h
  | _ :: _, [], h, _ => by simp at h
  | a :: x, b :: y, h, e => by
    have e' : bitsN 8 a.toNat ++ bits x = bitsN 8 b.toNat ++ bits y := e
    obtain ⟨e1, e2⟩ := List.append_inj e' (by rw [bitsN_length, bitsN_length])
    rw [UInt8.toNat.inj (byte_bits _ a.toNat_lt _ b.toNat_lt e1), bits_inj x y (by simpa using h) e2]
theorem diff_none : ∀ (xs ys : List Bool) (_ : xs.length = ys.length) (_ : ∀ p : Nat, (diff xs ys)[p]? ≠ some true), xs = ys
  | [], [], _, _ => rfl
  | [], _ :: _, h, _ => by simp at h
  | _ :: _, [], h, _ => by simp at h
  | x :: xs, y :: ys, h, hn => by
    have h0 : (x != y) ≠ true := fun e => hn 0 (by show some (x != y) = some true; rw [e])
    have e : x = y := by cases x <;> cases y <;> first | rfl | exact absurd rfl h0
    rw [e, diff_none xs ys (by simpa using h) (fun p => by have := hn (p + 1); simpa [diff] using this)]

/-- Bits of sealed bytes that are turned near each other: no longer sealed. -/
theorem near_unseals {z x : List UInt8} {a : Nat} (hz : Sealed z) (hx : x.length = z.length) (hn : Near (diff (bits z) (bits x)) a) (ht : ∃ p : Nat, (diff (bits z) (bits x))[p]? = some true) : ¬ Sealed x := fun h =>
  near_reg hn ht ((error_iff hz hx).1 h)

/-- A record, bits of which are turned within 32, is bad. -/
theorem turned_bad (r : Rec) (hr : r.d.length ≤ 262144) (c a : Nat) (h : a + 32 ≤ 8 * (one r).length) (hc : c < 4294967296) (h0 : c ≠ 0) : lookR (turns c a 32 (one r)) = .bad := by
  have hl := one_length r
  have hh := headR_length r
  have hnear := turns_near c a (one r) h
  obtain ⟨p, hp⟩ := turns_some c a (one r) h hc h0
  have hxl := turns_length c a (one r) 32
  generalize turns c a 32 (one r) = x at hnear hp hxl ⊢
  have e9 : (one r).take 9 = headR r := by unfold one; rw [← hh, List.take_left]
  have ed : (one r).drop 9 = sealed r.d := by unfold one; rw [← hh, List.drop_left]
  have d9 : diff (bits (headR r)) (bits (x.take 9)) = (diff (bits (one r)) (bits x)).take 72 := by
    rw [← e9, bits_take, bits_take, diff_take]
  have dd : diff (bits (sealed r.d)) (bits (x.drop 9)) = (diff (bits (one r)) (bits x)).drop 72 := by
    rw [← ed, bits_drop _ _ (by omega), bits_drop _ _ (by omega), diff_drop]
  have hsl := sealed_length r.d
  by_cases hq : ∃ q : Nat, (diff (bits (headR r)) (bits (x.take 9)))[q]? = some true
  · have hn : ¬ Sealed (x.take 9) := near_unseals (z := headR r) (a := a) (sealed_is _) (by rw [hh, List.length_take]; omega) (by rw [d9]; exact near_take hnear 72) hq
    unfold lookR
    rw [if_neg (by omega), if_neg (by omega), if_pos (.inl hn)]
  · have he : bits (headR r) = bits (x.take 9) := diff_none _ _ (by rw [bits_length, bits_length, hh, List.length_take, Nat.min_eq_left (by omega)]) (fun q e => hq ⟨q, e⟩)
    have he : headR r = x.take 9 := bits_inj _ _ (by rw [hh, List.length_take]; omega) he
    have h5 : lenOf x = r.d.length := by
      have h := look_one r hr []
      obtain ⟨_, h2, _⟩ := look_rec h
      rw [List.append_nil] at h2
      rw [h2]
      have t : ∀ y : List UInt8, lenOf y = val (((y.take 9).drop 1).take 4) := fun y => by
        unfold lenOf
        rw [List.drop_take, List.take_take, Nat.min_eq_left (by omega)]
      rw [t, t, ← he, e9]
    have hpp : 72 ≤ p := by
      refine Nat.le_of_not_lt (fun hlt => hq ⟨p, ?_⟩)
      rw [d9, List.getElem?_take, if_pos hlt]
      exact hp
    have hn : ¬ Sealed (x.drop 9) := near_unseals (z := sealed r.d) (a := a - 72) (sealed_is _) (by rw [hsl, List.length_drop]; omega) (by rw [dd]; exact near_drop hnear 72) ⟨p - 72, by rw [dd, List.getElem?_drop, show 72 + (p - 72) = p by omega]; exact hp⟩
    unfold lookR
    rw [if_neg (by omega), if_neg (by omega), h5, if_neg (fun y => by rcases y with y | y; exact y (he ▸ sealed_is _); omega), if_neg (by omega), List.take_of_length_le (by rw [List.length_drop]; omega), if_pos hn]
/-- Just the records ahead are told, and the rest is bad. -/
theorem scan_turned (l : List Rec) (hl : Fit l) (r : Rec) (hr : r.d.length ≤ 262144) (c a : Nat) (h : a + 32 ≤ 8 * (one r).length) (hc : c < 4294967296) (h0 : c ≠ 0) (t : List UInt8) : scan (allR l ++ (turns c a 32 (one r) ++ t)) = (l, (allR l).length, 2) := by
  rw [scan_all l hl, scan_of_bad (look_bad_more (turned_bad r hr c a h hc h0) t), List.append_nil, Nat.add_zero]
end Go.Proofs.YtlhcacancnmhcaaDoor
