/-
  Plain facts on bits that are turned: of bytes, of their bits; one turns the number of set bits from odd to even, two leave the pattern that the checksum tells. No program is read here.
-/
import Derived.Test.YtlhcacancnmhcaaDoorCrcBits
namespace Go.Proofs.YtlhcacancnmhcaaDoor

def flipAt : List Bool → Nat → List Bool
  | [], _ => []
  | x :: xs, 0 => (!x) :: xs
  | x :: xs, n + 1 => x :: flipAt xs n

theorem flipAt_length : ∀ (xs : List Bool) (n : Nat), (flipAt xs n).length = xs.length
  | [], _ => rfl
  | _ :: _, 0 => rfl
  | x :: xs, n + 1 => by simp [flipAt, flipAt_length xs n]

theorem flipAt_app_left : ∀ (xs ys : List Bool) (n : Nat), n < xs.length → flipAt (xs ++ ys) n = flipAt xs n ++ ys
  | [], _, n, h => by simp at h
  | _ :: _, _, 0, _ => rfl
  | x :: xs, ys, n + 1, h => by
    show x :: flipAt (xs ++ ys) n = x :: (flipAt xs n ++ ys)
    rw [flipAt_app_left xs ys n (by simpa using h)]
theorem flipAt_app_right : ∀ (xs ys : List Bool) (n : Nat), flipAt (xs ++ ys) (xs.length + n) = xs ++ flipAt ys n
  | [], _, _ => by simp
  | x :: xs, ys, n => by
    show flipAt (x :: (xs ++ ys)) (xs.length + 1 + n) = x :: (xs ++ flipAt ys n)
    rw [Nat.add_right_comm]
    show x :: flipAt (xs ++ ys) (xs.length + n) = _
    rw [flipAt_app_right xs ys n]

/-- Bytes, one bit of which is turned. -/
def flipL (l : List UInt8) (n : Nat) : List UInt8 := l.set (n / 8) (l.getD (n / 8) 0 ^^^ UInt8.ofNat (2 ^ (n % 8)))

theorem flipL_length (l : List UInt8) (n : Nat) : (flipL l n).length = l.length := by simp [flipL]

theorem flip_byte : ∀ c : Nat, c < 256 → ∀ k : Nat, k < 8 → bitsN 8 ((UInt8.ofNat c) ^^^ UInt8.ofNat (2 ^ k)).toNat = flipAt (bitsN 8 c) k := by decide +kernel

theorem bits_flip : ∀ (l : List UInt8) (n : Nat), n < 8 * l.length → bits (flipL l n) = flipAt (bits l) n
  | [], n, h => by simp at h
  | c :: l, n, h => by
    by_cases hn : n < 8
    · have h0 : n / 8 = 0 := by omega
      have h1 : n % 8 = n := by omega
      have e : flipL (c :: l) n = (c ^^^ UInt8.ofNat (2 ^ n)) :: l := by unfold flipL; rw [h0, h1]; rfl
      have hb := flip_byte c.toNat c.toNat_lt n hn
      rw [UInt8.ofNat_toNat] at hb
      rw [e]
      show bitsN 8 _ ++ bits l = flipAt (bitsN 8 c.toNat ++ bits l) n
      rw [flipAt_app_left _ _ _ (by rw [bitsN_length]; exact hn), hb]
    · obtain ⟨m, rfl⟩ : ∃ m, n = 8 + m := ⟨n - 8, by omega⟩
      have h0 : (8 + m) / 8 = m / 8 + 1 := by omega
      have h1 : (8 + m) % 8 = m % 8 := by omega
      have e : flipL (c :: l) (8 + m) = c :: flipL l m := by unfold flipL; rw [h0, h1]; rfl
      rw [e]
      show bitsN 8 c.toNat ++ bits (flipL l m) = flipAt (bitsN 8 c.toNat ++ bits l) (8 + m)
      have := flipAt_app_right (bitsN 8 c.toNat) (bits l) m
      rw [bitsN_length] at this
      rw [this, bits_flip l m (by rw [List.length_cons] at h; omega)]

theorem par_cons (x : Bool) (xs : List Bool) : par (x :: xs) = (x != par xs) := by
  have hp : ∀ (ys : List Bool) (p : Bool), ys.foldl (fun p x => p != x) p = (p != ys.foldl (fun p x => p != x) false) := by
    intro ys
    induction ys with
    | nil => intro p; cases p <;> rfl
    | cons y ys ih =>
      intro p
      rw [List.foldl_cons, List.foldl_cons, ih (p != y), ih (false != y)]
      cases p <;> cases y <;> cases (ys.foldl (fun p x => p != x) false) <;> rfl
  show xs.foldl (fun p x => p != x) (false != x) = _
  rw [hp]
  unfold par
  cases x <;> cases (xs.foldl (fun p x => p != x) false) <;> rfl

theorem par_flip : ∀ (xs : List Bool) (n : Nat), n < xs.length → par (flipAt xs n) = !par xs
  | [], n, h => by simp at h
  | x :: xs, 0, _ => by
    show par ((!x) :: xs) = _
    rw [par_cons, par_cons]
    cases x <;> cases par xs <;> rfl
  | x :: xs, n + 1, h => by
    show par (x :: flipAt xs n) = _
    rw [par_cons, par_cons, par_flip xs n (by simpa using h)]
    cases x <;> cases par xs <;> rfl

theorem par_diff : ∀ (xs ys : List Bool), xs.length = ys.length → par (diff xs ys) = (par xs != par ys)
  | [], [], _ => rfl
  | x :: xs, y :: ys, h => by
    show par ((x != y) :: diff xs ys) = _
    rw [par_cons, par_cons, par_cons, par_diff xs ys (by simpa using h)]
    cases x <;> cases y <;> cases par xs <;> cases par ys <;> rfl

theorem diff_same : ∀ xs : List Bool, diff xs xs = List.replicate xs.length false
  | [] => rfl
  | x :: xs => by
    show (x != x) :: diff xs xs = _
    rw [diff_same xs]
    simp [List.replicate_succ]

theorem diff_one : ∀ (xs : List Bool) (n : Nat), n < xs.length → ∃ j, diff xs (flipAt xs n) = List.replicate n false ++ (true :: List.replicate j false)
  | [], n, h => by simp at h
  | x :: xs, 0, _ => ⟨xs.length, by
    show (x != !x) :: diff xs xs = _
    rw [diff_same]
    cases x <;> rfl⟩
  | x :: xs, n + 1, h => by
    obtain ⟨j, hj⟩ := diff_one xs n (by simpa using h)
    refine ⟨j, ?_⟩
    show (x != x) :: diff xs (flipAt xs n) = _
    rw [hj]
    simp [List.replicate_succ]

theorem flip_comm : ∀ (xs : List Bool) (p q : Nat), flipAt (flipAt xs p) q = flipAt (flipAt xs q) p
  | [], _, _ => rfl
  | _ :: _, 0, 0 => rfl
  | _ :: _, 0, _ + 1 => rfl
  | _ :: _, _ + 1, 0 => rfl
  | x :: xs, p + 1, q + 1 => by
    show x :: flipAt (flipAt xs p) q = x :: flipAt (flipAt xs q) p
    rw [flip_comm xs p q]

theorem diff_two : ∀ (xs : List Bool) (p q : Nat), p < q → q < xs.length → ∃ j, diff xs (flipAt (flipAt xs p) q) = List.replicate p false ++ (true :: (List.replicate (q - p - 1) false ++ (true :: List.replicate j false)))
  | [], p, q, _, h => by simp at h
  | x :: xs, 0, 0, h, _ => by omega
  | x :: xs, 0, q + 1, _, h => by
    obtain ⟨j, hj⟩ := diff_one xs q (by simpa using h)
    refine ⟨j, ?_⟩
    show (x != !x) :: diff xs (flipAt xs q) = _
    rw [hj]
    cases x <;> simp
  | x :: xs, p + 1, 0, h, _ => by omega
  | x :: xs, p + 1, q + 1, h, hl => by
    obtain ⟨j, hj⟩ := diff_two xs p q (by omega) (by simpa using hl)
    refine ⟨j, ?_⟩
    show (x != x) :: diff xs (flipAt (flipAt xs p) q) = _
    rw [hj, show q + 1 - (p + 1) - 1 = q - p - 1 by omega]
    simp [List.replicate_succ]

/-- Sealed bytes with two bits turned are not sealed (of at most 608 bytes). -/
theorem two_flips {z : List UInt8} (hz : Sealed z) (hl : z.length ≤ 608) {p q : Nat} (hp : p < 8 * z.length) (hq : q < 8 * z.length) (hne : p ≠ q) : ¬ Sealed (flipL (flipL z p) q) := by
  have hlen : (flipL (flipL z p) q).length = z.length := by rw [flipL_length, flipL_length]
  rw [error_iff hz hlen, bits_flip _ _ (by rw [flipL_length]; exact hq), bits_flip _ _ hp]
  rcases Nat.lt_or_gt_of_ne hne with h | h
  · obtain ⟨j, hj⟩ := diff_two (bits z) p q h (by rw [bits_length]; exact hq)
    rw [hj]
    exact two_error p (q - p - 1) j (by omega)
  · rw [flip_comm]
    obtain ⟨j, hj⟩ := diff_two (bits z) q p h (by rw [bits_length]; exact hp)
    rw [hj]
    exact two_error q (p - q - 1) j (by omega)

/-- Sealed bytes, an odd number of bits of which are other ones, are not sealed. -/
theorem odd_flips {z x : List UInt8} (hz : Sealed z) (hl : x.length = z.length) (hp : par (bits x) = !par (bits z)) : ¬ Sealed x := by
  rw [error_iff hz hl]
  apply odd_error
  rw [par_diff _ _ (by rw [bits_length, bits_length, hl]), hp]
  cases par (bits z) <;> rfl

end Go.Proofs.YtlhcacancnmhcaaDoor
