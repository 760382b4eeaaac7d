/-
  Plain facts on the checksum: the register as a number, a bit's step is linear and one to one; odd errors, two errors, errors within 32 bits leave a register that is not 0. No program is read here.
-/
import Derived.Test.YtlhcacancnmhcaaDoorBase
namespace Go.Proofs.YtlhcacancnmhcaaDoor

/-- The polynomial, turned round. -/
def poly : Nat := 2197175160

/-- The register behind a bit 0. -/
def s0 (r : Nat) : Nat := if r % 2 = 1 then (r / 2) ^^^ poly else r / 2

/-- The register behind a bit. -/
def stp (r : Nat) (b : Bool) : Nat := s0 (r ^^^ b.toNat)

def reg (r : Nat) (bits : List Bool) : Nat := bits.foldl stp r

/-- So many bits 0. -/
def zs : Nat → Nat → Nat
  | 0, r => r
  | n + 1, r => zs n (s0 r)

theorem xor_swap (a b c d : Nat) : (a ^^^ b) ^^^ (c ^^^ d) = (a ^^^ c) ^^^ (b ^^^ d) := by
  rw [Nat.xor_assoc, Nat.xor_assoc, ← Nat.xor_assoc b c d, Nat.xor_comm b c, Nat.xor_assoc c b d]

theorem xor_two (a b : Nat) : (a ^^^ b) % 2 = (a + b) % 2 := by
  have h := Nat.xor_mod_two_pow (a := a) (b := b) (n := 1)
  rw [Nat.pow_one] at h
  rw [h, Nat.add_mod]
  rcases Nat.mod_two_eq_zero_or_one a with ha | ha <;> rcases Nat.mod_two_eq_zero_or_one b with hb | hb <;> rw [ha, hb] <;> rfl

theorem xor_none {a b : Nat} (h : a ^^^ b = 0) : a = b := by
  have e : a = (a ^^^ b) ^^^ b := by rw [Nat.xor_assoc, Nat.xor_self, Nat.xor_zero]
  rw [e, h, Nat.zero_xor]

theorem s0_xor (a b : Nat) : s0 (a ^^^ b) = s0 a ^^^ s0 b := by
  have hd : (a ^^^ b) / 2 = a / 2 ^^^ b / 2 := Nat.xor_div_two
  have hm : (a ^^^ b) % 2 = (a + b) % 2 := xor_two a b
  unfold s0
  rw [hd, hm]
  rcases Nat.mod_two_eq_zero_or_one a with ha | ha <;> rcases Nat.mod_two_eq_zero_or_one b with hb | hb
  · rw [if_neg (by omega), if_neg (by omega), if_neg (by omega)]
  · rw [if_pos (by omega), if_neg (by omega), if_pos (by omega), Nat.xor_assoc]
  · rw [if_pos (by omega), if_pos (by omega), if_neg (by omega), Nat.xor_assoc, Nat.xor_comm (b / 2) poly, ← Nat.xor_assoc]
  · rw [if_neg (by omega), if_pos (by omega), if_pos (by omega), xor_swap, Nat.xor_self, Nat.xor_zero]

theorem stp_xor (a b : Nat) (x y : Bool) : stp (a ^^^ b) (x != y) = stp a x ^^^ stp b y := by
  unfold stp
  rw [← s0_xor]
  congr 1
  rw [xor_swap]
  congr 1
  cases x <;> cases y <;> rfl

/-- Bits, one against the other. -/
def diff : List Bool → List Bool → List Bool
  | x :: xs, y :: ys => (x != y) :: diff xs ys
  | _, _ => []

theorem reg_xor : ∀ (xs ys : List Bool) (a b : Nat), xs.length = ys.length → reg (a ^^^ b) (diff xs ys) = reg a xs ^^^ reg b ys
  | [], [], a, b, _ => rfl
  | x :: xs, y :: ys, a, b, h => by
    show reg (stp (a ^^^ b) (x != y)) (diff xs ys) = reg (stp a x) xs ^^^ reg (stp b y) ys
    rw [stp_xor]
    exact reg_xor xs ys _ _ (by simpa using h)

theorem s0_lt (r : Nat) (h : r < 4294967296) : s0 r < 4294967296 := by
  unfold s0
  split
  · exact Nat.xor_lt_two_pow (n := 32) (by omega) (by decide)
  · omega
theorem stp_lt (r : Nat) (b : Bool) (h : r < 4294967296) : stp r b < 4294967296 :=
  s0_lt _ (Nat.xor_lt_two_pow (n := 32) h (by cases b <;> decide))
theorem reg_lt : ∀ (xs : List Bool) (r : Nat), r < 4294967296 → reg r xs < 4294967296
  | [], _, h => h
  | x :: xs, r, h => reg_lt xs (stp r x) (stp_lt r x h)

/-- A bit's step is one to one: only 0 goes to 0. -/
theorem s0_zero (r : Nat) (h : r < 4294967296) (h0 : s0 r = 0) : r = 0 := by
  unfold s0 at h0
  split at h0
  · exfalso
    have h1 : r / 2 = poly := xor_none h0
    unfold poly at h1
    omega
  · omega

theorem zs_zero : ∀ (n : Nat) (r : Nat), r < 4294967296 → zs n r = 0 → r = 0
  | 0, _, _, h => h
  | n + 1, r, hr, h => s0_zero r hr (zs_zero n (s0 r) (s0_lt r hr) h)

theorem reg_app (r : Nat) (xs ys : List Bool) : reg r (xs ++ ys) = reg (reg r xs) ys := by unfold reg; rw [List.foldl_append]
theorem reg_zeros : ∀ (n r : Nat), reg r (List.replicate n false) = zs n r
  | 0, _ => rfl
  | n + 1, r => by
    rw [List.replicate_succ]
    show reg (stp r false) (List.replicate n false) = zs n (s0 r)
    rw [reg_zeros n]
    simp [stp]

/-- How many bits of a number, of at most 32, are set: is it odd? -/
def odd : Nat → Nat → Bool
  | 0, _ => false
  | n + 1, r => (r % 2 == 1) != odd n (r / 2)

theorem odd_xor : ∀ (n a b : Nat), odd n (a ^^^ b) = (odd n a != odd n b)
  | 0, _, _ => rfl
  | n + 1, a, b => by
    unfold odd
    rw [Nat.xor_div_two, odd_xor n, xor_two _ _]
    have e : ((a + b) % 2 == 1) = ((a % 2 == 1) != (b % 2 == 1)) := by
      rcases Nat.mod_two_eq_zero_or_one a with ha | ha <;> rcases Nat.mod_two_eq_zero_or_one b with hb | hb <;> simp [Nat.add_mod, ha, hb]
    rw [e]
    cases (a % 2 == 1) <;> cases (b % 2 == 1) <;> cases odd n (a / 2) <;> cases odd n (b / 2) <;> rfl

theorem odd_top : ∀ (n r : Nat), r < 2 ^ n → odd (n + 1) r = odd n r
  | 0, r, h => by
    obtain rfl : r = 0 := by simpa using h
    rfl
  | n + 1, r, h => by
    rw [odd, odd_top n (r / 2) (by rw [Nat.pow_succ] at h; omega), odd]

theorem odd_s0 (r : Nat) (h : r < 4294967296) : odd 32 (s0 r) = odd 32 r := by
  have e : odd 32 r = ((r % 2 == 1) != odd 31 (r / 2)) := rfl
  have e2 : odd 32 (r / 2) = odd 31 (r / 2) := odd_top 31 (r / 2) (by omega)
  unfold s0
  split
  · rename_i h1
    rw [odd_xor, e2, e, h1]
    have e3 : odd 32 poly = true := by decide +kernel
    rw [e3]
    cases odd 31 (r / 2) <;> rfl
  · have h1 : r % 2 = 0 := by omega
    rw [e2, e, h1]
    cases odd 31 (r / 2) <;> rfl

/-- The number of bits that are set, odd or not. -/
def par (xs : List Bool) : Bool := xs.foldl (fun p x => p != x) false

theorem odd_reg : ∀ (xs : List Bool) (r : Nat), r < 4294967296 → odd 32 (reg r xs) = (odd 32 r != par xs)
  | [], r, _ => by cases h : odd 32 r <;> simp [reg, par, h]
  | x :: xs, r, h => by
    have hp : ∀ (ys : List Bool) (p : Bool), ys.foldl (fun p x => p != x) p = (p != ys.foldl (fun p x => p != x) false) := by
      intro ys
      induction ys with
      | nil => intro p; cases p <;> rfl
      | cons y ys ih =>
        intro p
        rw [List.foldl_cons, List.foldl_cons, ih (p != y), ih (false != y)]
        cases p <;> cases y <;> cases (ys.foldl (fun p x => p != x) false) <;> rfl
    show odd 32 (reg (stp r x) xs) = _
    have hx : r ^^^ x.toNat < 4294967296 := Nat.xor_lt_two_pow (n := 32) h (by cases x <;> decide)
    rw [odd_reg xs _ (stp_lt r x h), stp, odd_s0 _ hx, odd_xor]
    have e : odd 32 x.toNat = x := by cases x <;> rfl
    rw [e]
    unfold par
    rw [List.foldl_cons, hp xs (false != x)]
    cases odd 32 r <;> cases x <;> cases (xs.foldl (fun p x => p != x) false) <;> rfl

/-- An odd number of errors leaves a register that is not 0. -/
theorem odd_error (xs : List Bool) (h : par xs = true) : reg 0 xs ≠ 0 := by
  intro h0
  have h1 := odd_reg xs 0 (by omega)
  rw [h0, h] at h1
  exact absurd h1 (by decide)

end Go.Proofs.YtlhcacancnmhcaaDoor
