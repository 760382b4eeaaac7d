/-
  Plain facts on the checksum, third part: bytes as bits, four bytes as a word, when sealed bytes open, and what errors do. No program is read here.
-/
import Derived.Test.YtlhcacancnmhcaaDoorCrcTwo
namespace Go.Proofs.YtlhcacancnmhcaaDoor

/-- The lowest k bits of a number, the lowest first. -/
def bitsN : Nat → Nat → List Bool
  | 0, _ => []
  | k + 1, c => (c % 2 == 1) :: bitsN k (c / 2)

theorem bitsN_length : ∀ k c, (bitsN k c).length = k
  | 0, _ => rfl
  | k + 1, c => by simp [bitsN, bitsN_length k]

theorem s0_even (y : Nat) : s0 (2 * y) = y := by
  unfold s0
  rw [if_neg (by omega)]
  omega

theorem bit_join (b : Bool) (y : Nat) : b.toNat ^^^ (2 * y) = 2 * y + b.toNat := by
  cases b with
  | false => simp
  | true =>
    have h1 : (1 ^^^ (2 * y)) % 2 = 1 := by rw [xor_two]; omega
    have h2 : (1 ^^^ (2 * y)) / 2 = y := by rw [Nat.xor_div_two]; simp
    show 1 ^^^ (2 * y) = 2 * y + 1
    omega

theorem reg_bitsN : ∀ (k c r : Nat), c < 2 ^ k → reg r (bitsN k c) = zs k (r ^^^ c)
  | 0, c, r, h => by
    obtain rfl : c = 0 := by simpa using h
    rw [Nat.xor_zero]; rfl
  | k + 1, c, r, h => by
    have hc : c / 2 < 2 ^ k := by rw [Nat.pow_succ] at h; omega
    show reg (stp r (c % 2 == 1)) (bitsN k (c / 2)) = zs k (s0 (r ^^^ c))
    rw [reg_bitsN k _ _ hc]
    congr 1
    have e : c = (c % 2 == 1).toNat ^^^ (2 * (c / 2)) := by
      rw [bit_join]
      rcases Nat.mod_two_eq_zero_or_one c with h0 | h0 <;> rw [h0] <;> simp <;> omega
    have e2 : s0 (r ^^^ c) = s0 ((r ^^^ (c % 2 == 1).toNat) ^^^ (2 * (c / 2))) := by rw [Nat.xor_assoc, ← e]
    rw [e2, s0_xor, s0_even]
    rfl

theorem bitsN_app : ∀ (j k a b : Nat), a < 2 ^ j → bitsN (j + k) (a + 2 ^ j * b) = bitsN j a ++ bitsN k b
  | 0, k, a, b, h => by
    obtain rfl : a = 0 := by simpa using h
    simp [bitsN]
  | j + 1, k, a, b, h => by
    have ha : a / 2 < 2 ^ j := by rw [Nat.pow_succ] at h; omega
    have e0 : 2 ^ (j + 1) * b = 2 * (2 ^ j * b) := by rw [Nat.pow_succ, Nat.mul_comm (2 ^ j) 2, Nat.mul_assoc]
    have e1 : (a + 2 ^ (j + 1) * b) % 2 = a % 2 := by rw [e0]; omega
    have e2 : (a + 2 ^ (j + 1) * b) / 2 = a / 2 + 2 ^ j * b := by rw [e0]; omega
    rw [Nat.add_right_comm]
    show ((a + 2 ^ (j + 1) * b) % 2 == 1) :: bitsN (j + k) ((a + 2 ^ (j + 1) * b) / 2) = ((a % 2 == 1) :: bitsN j (a / 2)) ++ bitsN k b
    rw [e1, e2, bitsN_app j k _ _ ha]
    rfl

/-- The bits of bytes. -/
def bits (l : List UInt8) : List Bool := l.flatMap fun c => bitsN 8 c.toNat

theorem bits_length (l : List UInt8) : (bits l).length = 8 * l.length := by
  induction l with
  | nil => rfl
  | cons c l ih =>
    show (bitsN 8 c.toNat ++ bits l).length = _
    rw [List.length_append, bitsN_length, ih, List.length_cons]; omega
theorem bits_append (a b : List UInt8) : bits (a ++ b) = bits a ++ bits b := by simp [bits]

/-- The register behind a byte. -/
def breg (r : Nat) (c : UInt8) : Nat := zs 8 (r ^^^ c.toNat)

theorem reg_bits : ∀ (l : List UInt8) (r : Nat), reg r (bits l) = l.foldl breg r
  | [], _ => rfl
  | c :: l, r => by
    show reg r (bitsN 8 c.toNat ++ bits l) = _
    rw [reg_app, reg_bitsN 8 _ _ c.toNat_lt, reg_bits l]
    rfl

/-- Four bytes, the lowest first, as a number. -/
def word : List UInt8 → Nat
  | [a, b, c, d] => a.toNat + 256 * (b.toNat + 256 * (c.toNat + 256 * d.toNat))
  | _ => 0

/-- A number's four bytes, the lowest first. -/
def le4 (n : Nat) : List UInt8 := [UInt8.ofNat n, UInt8.ofNat (n / 256), UInt8.ofNat (n / 256 / 256), UInt8.ofNat (n / 256 / 256 / 256)]

theorem word_lt : ∀ l : List UInt8, word l < 4294967296
  | [a, b, c, d] => by
    have ha := a.toNat_lt; have hb := b.toNat_lt; have hc := c.toNat_lt; have hd := d.toNat_lt
    show a.toNat + 256 * (b.toNat + 256 * (c.toNat + 256 * d.toNat)) < _
    omega
  | [] => by decide
  | [_] => by show 0 < _; decide
  | [_, _] => by show 0 < _; decide
  | [_, _, _] => by show 0 < _; decide
  | _ :: _ :: _ :: _ :: _ :: _ => by show 0 < _; decide

theorem word_le4 (n : Nat) (h : n < 4294967296) : word (le4 n) = n := by
  show (UInt8.ofNat n).toNat + 256 * ((UInt8.ofNat (n / 256)).toNat + 256 * ((UInt8.ofNat (n / 256 / 256)).toNat + 256 * (UInt8.ofNat (n / 256 / 256 / 256)).toNat)) = n
  simp only [UInt8.toNat_ofNat']
  omega

theorem word_inj {a b : List UInt8} (ha : a.length = 4) (hb : b.length = 4) (h : word a = word b) : a = b := by
  match a, ha, b, hb, h with
  | [a0, a1, a2, a3], _, [b0, b1, b2, b3], _, h =>
    have ha := a0.toNat_lt; have hb := a1.toNat_lt; have hc := a2.toNat_lt; have hd := a3.toNat_lt
    have ka := b0.toNat_lt; have kb := b1.toNat_lt; have kc := b2.toNat_lt; have kd := b3.toNat_lt
    have h' : a0.toNat + 256 * (a1.toNat + 256 * (a2.toNat + 256 * a3.toNat)) = b0.toNat + 256 * (b1.toNat + 256 * (b2.toNat + 256 * b3.toNat)) := h
    have e0 : a0 = b0 := UInt8.toNat_inj.1 (by omega)
    have e1 : a1 = b1 := UInt8.toNat_inj.1 (by omega)
    have e2 : a2 = b2 := UInt8.toNat_inj.1 (by omega)
    have e3 : a3 = b3 := UInt8.toNat_inj.1 (by omega)
    rw [e0, e1, e2, e3]

theorem reg_word {l : List UInt8} (h : l.length = 4) (r : Nat) : reg r (bits l) = zs 32 (r ^^^ word l) := by
  match l, h with
  | [a, b, c, d], _ =>
    have ha := a.toNat_lt; have hb := b.toNat_lt; have hc := c.toNat_lt; have hd := d.toNat_lt
    have e : bits [a, b, c, d] = bitsN 32 (word [a, b, c, d]) := by
      show bitsN 8 a.toNat ++ (bitsN 8 b.toNat ++ (bitsN 8 c.toNat ++ (bitsN 8 d.toNat ++ []))) = bitsN (8 + 24) (a.toNat + 2 ^ 8 * (b.toNat + 256 * (c.toNat + 256 * d.toNat)))
      rw [bitsN_app 8 24 _ _ ha]
      congr 1
      show _ = bitsN (8 + 16) (b.toNat + 2 ^ 8 * (c.toNat + 256 * d.toNat))
      rw [bitsN_app 8 16 _ _ hb]
      congr 1
      show _ = bitsN (8 + 8) (c.toNat + 2 ^ 8 * d.toNat)
      rw [bitsN_app 8 8 _ _ hc, List.append_nil]
    rw [e, reg_bitsN 32 _ _ (word_lt _)]

def ones : Nat := 4294967295

/-- The checksum of bytes, going on from another one. -/
def more_ (s : Nat) (l : List UInt8) : Nat := reg (s ^^^ ones) (bits l) ^^^ ones

theorem xor_back (a : Nat) : (a ^^^ ones) ^^^ ones = a := by rw [Nat.xor_assoc, Nat.xor_self, Nat.xor_zero]

theorem more_app (s : Nat) (a b : List UInt8) : more_ s (a ++ b) = more_ (more_ s a) b := by
  unfold more_
  rw [xor_back, bits_append, reg_app]

theorem more_lt (s : Nat) (l : List UInt8) (h : s < 4294967296) : more_ s l < 4294967296 :=
  Nat.xor_lt_two_pow (n := 32) (reg_lt _ _ (Nat.xor_lt_two_pow (n := 32) h (by decide))) (by decide)

/-- Sealed bytes. -/
def Sealed (z : List UInt8) : Prop := 4 ≤ z.length ∧ z.drop (z.length - 4) = le4 (more_ 0 (z.take (z.length - 4)))

theorem seal_sealed (b : List UInt8) : Sealed (b ++ le4 (more_ 0 b)) := by
  have h : (b ++ le4 (more_ 0 b)).length - 4 = b.length := by rw [List.length_append]; show b.length + 4 - 4 = _; omega
  refine ⟨by rw [List.length_append]; show 4 ≤ b.length + 4; omega, ?_⟩
  rw [h, List.drop_left, List.take_left]

/-- Sealed bytes are those behind which the register is always the same. -/
theorem sealed_iff (z : List UInt8) (h : 4 ≤ z.length) : Sealed z ↔ reg ones (bits z) = zs 32 ones := by
  have hz : z = z.take (z.length - 4) ++ z.drop (z.length - 4) := (List.take_append_drop _ _).symm
  have h4 : (z.drop (z.length - 4)).length = 4 := by rw [List.length_drop]; omega
  generalize hf : z.take (z.length - 4) = f at *
  generalize ht : z.drop (z.length - 4) = t at *
  have hR : reg ones (bits f) < 4294967296 := reg_lt _ _ (by decide)
  have hm : more_ 0 f = reg ones (bits f) ^^^ ones := by unfold more_; rw [Nat.zero_xor]
  have hw := word_lt t
  unfold Sealed
  rw [hf, ht, hz, bits_append, reg_app, reg_word h4]
  constructor
  · rintro ⟨_, e⟩
    have hx : reg ones (bits f) ^^^ ones < 4294967296 := Nat.xor_lt_two_pow (n := 32) hR (by decide)
    rw [e, hm, word_le4 _ hx, ← Nat.xor_assoc, Nat.xor_self, Nat.zero_xor]
  · intro e
    refine ⟨by rw [← hz]; exact h, ?_⟩
    have e1 := zs_inj 32 _ _ (Nat.xor_lt_two_pow (n := 32) hR hw) (by decide) e
    have e2 : word t = reg ones (bits f) ^^^ ones := by
      have := congrArg (fun n => reg ones (bits f) ^^^ n) e1
      simpa only [← Nat.xor_assoc, Nat.xor_self, Nat.zero_xor] using this
    apply word_inj h4 rfl
    rw [hm, word_le4 _ (by rw [← e2]; exact hw), e2]

/-- What errors do: behind them sealed bytes are sealed just if the errors alone leave 0. -/
theorem error_iff {z x : List UInt8} (hz : Sealed z) (hx : x.length = z.length) : Sealed x ↔ reg 0 (diff (bits z) (bits x)) = 0 := by
  have h4 := hz.1
  rw [sealed_iff x (by omega)]
  rw [sealed_iff z h4] at hz
  have e := reg_xor (bits z) (bits x) ones ones (by rw [bits_length, bits_length, hx])
  rw [Nat.xor_self, hz] at e
  rw [e]
  constructor
  · intro h; rw [h, Nat.xor_self]
  · intro h; exact (xor_none h).symm

/-- Going on from two registers with the same bits is one to one. -/
theorem reg_inj (xs : List Bool) (a b : Nat) (ha : a < 4294967296) (hb : b < 4294967296) (h : reg a xs = reg b xs) : a = b := by
  have hd : ∀ ys : List Bool, diff ys ys = List.replicate ys.length false := by
    intro ys
    induction ys with
    | nil => rfl
    | cons y ys ih => show (y != y) :: diff ys ys = _; rw [ih]; simp [List.replicate_succ]
  have e := reg_xor xs xs a b rfl
  rw [h, Nat.xor_self, hd, reg_zeros] at e
  exact xor_none (zs_zero _ _ (Nat.xor_lt_two_pow (n := 32) ha hb) e)

/-- Four bytes that are others, behind the same bytes, give another sum. -/
theorem tails_differ (s : Nat) (hs : s < 4294967296) {x y : List UInt8} (hx : x.length = 4) (hy : y.length = 4) (h : more_ s x = more_ s y) : x = y := by
  unfold more_ at h
  have hr : s ^^^ ones < 4294967296 := Nat.xor_lt_two_pow (n := 32) hs (by decide)
  have e : reg (s ^^^ ones) (bits x) = reg (s ^^^ ones) (bits y) := by
    have := congrArg (· ^^^ ones) h
    simpa only [xor_back] using this
  rw [reg_word hx, reg_word hy] at e
  have e1 := zs_inj 32 _ _ (Nat.xor_lt_two_pow (n := 32) hr (word_lt x)) (Nat.xor_lt_two_pow (n := 32) hr (word_lt y)) e
  have e2 : word x = word y := by
    have := congrArg (fun n => (s ^^^ ones) ^^^ n) e1
    simpa only [← Nat.xor_assoc, Nat.xor_self, Nat.zero_xor] using this
  exact word_inj hx hy e2

/-- Of sealed bytes four behind one another can be no others. -/
theorem middle_iff {f x y t : List UInt8} (hx : x.length = 4) (hy : y.length = 4) (h : Sealed (f ++ (y ++ t))) : Sealed (f ++ (x ++ t)) ↔ y = x := by
  constructor
  · intro h2
    have h4 := h.1
    have h42 := h2.1
    rw [sealed_iff _ h4] at h
    rw [sealed_iff _ h42] at h2
    rw [← h, bits_append, bits_append, bits_append, bits_append, reg_app, reg_app, reg_app, reg_app] at h2
    have hR : reg ones (bits f) < 4294967296 := reg_lt _ _ (by decide)
    have e := reg_inj _ _ _ (reg_lt _ _ hR) (reg_lt _ _ hR) h2
    rw [reg_word hx, reg_word hy] at e
    have e1 := zs_inj 32 _ _ (Nat.xor_lt_two_pow (n := 32) hR (word_lt x)) (Nat.xor_lt_two_pow (n := 32) hR (word_lt y)) e
    have e2 : word x = word y := by
      have := congrArg (fun n => reg ones (bits f) ^^^ n) e1
      simpa only [← Nat.xor_assoc, Nat.xor_self, Nat.zero_xor] using this
    exact (word_inj hx hy e2).symm
  · rintro rfl; exact h

/-- Two bits that are turned leave a register that is not 0. -/
theorem two_error (i d j : Nat) (hd : d + 1 ≤ 4864) : reg 0 (List.replicate i false ++ (true :: (List.replicate d false ++ (true :: List.replicate j false)))) ≠ 0 := by
  intro h
  rw [reg_app, reg_zeros] at h
  have hz : ∀ n, zs n 0 = 0 := fun n => by
    induction n with
    | zero => rfl
    | succ n ih => exact ih
  rw [hz] at h
  have h1 : reg (stp 0 true) (List.replicate d false ++ (true :: List.replicate j false)) = 0 := h
  have hp : stp 0 true = poly := by decide
  rw [hp, reg_app, reg_zeros] at h1
  have h2 : reg (stp (zs d poly) true) (List.replicate j false) = 0 := h1
  rw [reg_zeros] at h2
  have hlt : zs d poly < 4294967296 := zs_lt d _ (by decide)
  have h3 := zs_zero j _ (stp_lt _ _ hlt) h2
  have h4 : stp (zs d poly) true = s0 (zs d poly) ^^^ poly := by
    unfold stp
    rw [s0_xor]
    rfl
  rw [h4] at h3
  have h5 := xor_none h3
  rw [← zs_s0] at h5
  exact no_return (d + 1) (by omega) hd h5

/-- Four bits at once: by a table of 16. -/
def tab4 : List Nat := [0, 274646895, 549293790, 820201905, 1098587580, 1361435347, 1640403810, 1905808397, 2197175160, 2460548119, 2722870694, 2987750089, 3280807620, 3553878443, 3811616794, 4084100981]

theorem zs4 (r : Nat) : zs 4 r = (tab4.getD (r % 16) 0) ^^^ (r / 16) := by
  have hh : ∀ h : Nat, zs 4 (16 * h) = h := fun h => by
    show s0 (s0 (s0 (s0 (16 * h)))) = h
    rw [show 16 * h = 2 * (8 * h) by omega, s0_even, show 8 * h = 2 * (4 * h) by omega, s0_even, show 4 * h = 2 * (2 * h) by omega, s0_even, s0_even]
  have hl : ∀ l : Nat, l < 16 → zs 4 l = tab4.getD l 0 := by decide
  have hj : ∀ l h : Nat, l < 16 → l ^^^ (16 * h) = l + 16 * h := fun l h hlt => by
    have := Nat.two_pow_add_eq_or_of_lt (i := 4) (b := l) hlt h
    rw [Nat.add_comm, show 16 * h = 2 ^ 4 * h from rfl, this]
    apply Nat.eq_of_testBit_eq
    intro i
    rw [Nat.testBit_xor, Nat.testBit_or, Nat.testBit_two_pow_mul]
    by_cases hi : 4 ≤ i
    · have : l.testBit i = false := Nat.testBit_lt_two_pow (Nat.lt_of_lt_of_le hlt (Nat.pow_le_pow_right (n := 2) (by omega) hi))
      simp [this, hi]
    · simp [hi]
  have e : r = r % 16 ^^^ (16 * (r / 16)) := by rw [hj _ _ (Nat.mod_lt _ (by decide))]; omega
  have e2 : zs 4 r = zs 4 (r % 16 ^^^ (16 * (r / 16))) := by rw [← e]
  rw [e2, zs_xor, hh, hl _ (Nat.mod_lt _ (by decide))]

end Go.Proofs.YtlhcacancnmhcaaDoor
