/-
  Plain facts on the checksum, second part: bytes as bits, four bytes as a word, when sealed bytes open, two errors, errors within four bytes. No program is read here.
-/
import Derived.Test.YtlhcacancnmhcaaDoorCrcMath
namespace Go.Proofs.YtlhcacancnmhcaaDoor

theorem zs_s0 : ∀ (n r : Nat), zs n (s0 r) = s0 (zs n r)
  | 0, _ => rfl
  | n + 1, r => zs_s0 n (s0 r)
theorem zs_add : ∀ (m n r : Nat), zs (m + n) r = zs n (zs m r)
  | 0, n, r => by rw [Nat.zero_add]; rfl
  | m + 1, n, r => by
    rw [Nat.add_right_comm]
    exact zs_add m n (s0 r)
theorem zs_xor : ∀ (n a b : Nat), zs n (a ^^^ b) = zs n a ^^^ zs n b
  | 0, _, _ => rfl
  | n + 1, a, b => by
    show zs n (s0 (a ^^^ b)) = _
    rw [s0_xor]
    exact zs_xor n _ _
theorem zs_lt : ∀ (n r : Nat), r < 4294967296 → zs n r < 4294967296
  | 0, _, h => h
  | n + 1, r, h => zs_lt n (s0 r) (s0_lt r h)

/-- Zero steps are one to one. -/
theorem zs_inj (n a b : Nat) (ha : a < 4294967296) (hb : b < 4294967296) (h : zs n a = zs n b) : a = b := by
  have h1 : zs n (a ^^^ b) = 0 := by rw [zs_xor, h, Nat.xor_self]
  exact xor_none (zs_zero n _ (Nat.xor_lt_two_pow (n := 32) ha hb) h1)

/-- Does none of the next n zero steps come back to the polynomial? -/
def away : Nat → Nat → Bool
  | 0, _ => true
  | n + 1, r => if s0 r = poly then false else away n (s0 r)

theorem away_at : ∀ (n r : Nat), away n r = true → ∀ d, 1 ≤ d → d ≤ n → zs d r ≠ poly
  | 0, _, _, d, h1, h2 => by omega
  | n + 1, r, h, d, h1, h2 => by
    unfold away at h
    split at h
    · cases h
    · rename_i hne
      obtain ⟨e, rfl⟩ : ∃ e, d = e + 1 := ⟨d - 1, by omega⟩
      rcases Nat.eq_zero_or_pos e with rfl | he
      · exact hne
      · exact away_at n (s0 r) h e he (by omega)

theorem away_add (m n r : Nat) (hm : away m r = true) (hn : away n (zs m r) = true) : ∀ d, 1 ≤ d → d ≤ m + n → zs d r ≠ poly := by
  intro d h1 h2
  by_cases h : d ≤ m
  · exact away_at m r hm d h1 h
  · have e : d = m + (d - m) := by omega
    rw [e, zs_add]
    exact away_at n _ hn (d - m) (by omega) (by omega)

theorem walk_0 : zs 256 2197175160 = 2619691805 := by decide +kernel
theorem away_0 : away 256 2197175160 = true := by decide +kernel
theorem walk_1 : zs 256 2619691805 = 973567873 := by decide +kernel
theorem away_1 : away 256 2619691805 = true := by decide +kernel
theorem walk_2 : zs 256 973567873 = 3770260683 := by decide +kernel
theorem away_2 : away 256 973567873 = true := by decide +kernel
theorem walk_3 : zs 256 3770260683 = 885614417 := by decide +kernel
theorem away_3 : away 256 3770260683 = true := by decide +kernel
theorem walk_4 : zs 256 885614417 = 2406022380 := by decide +kernel
theorem away_4 : away 256 885614417 = true := by decide +kernel
theorem walk_5 : zs 256 2406022380 = 1413307476 := by decide +kernel
theorem away_5 : away 256 2406022380 = true := by decide +kernel
theorem walk_6 : zs 256 1413307476 = 954763476 := by decide +kernel
theorem away_6 : away 256 1413307476 = true := by decide +kernel
theorem walk_7 : zs 256 954763476 = 1851309394 := by decide +kernel
theorem away_7 : away 256 954763476 = true := by decide +kernel
theorem walk_8 : zs 256 1851309394 = 807987921 := by decide +kernel
theorem away_8 : away 256 1851309394 = true := by decide +kernel
theorem walk_9 : zs 256 807987921 = 284814542 := by decide +kernel
theorem away_9 : away 256 807987921 = true := by decide +kernel
theorem walk_10 : zs 256 284814542 = 3539210371 := by decide +kernel
theorem away_10 : away 256 284814542 = true := by decide +kernel
theorem walk_11 : zs 256 3539210371 = 2191536031 := by decide +kernel
theorem away_11 : away 256 3539210371 = true := by decide +kernel
theorem walk_12 : zs 256 2191536031 = 1261553050 := by decide +kernel
theorem away_12 : away 256 2191536031 = true := by decide +kernel
theorem walk_13 : zs 256 1261553050 = 3482203374 := by decide +kernel
theorem away_13 : away 256 1261553050 = true := by decide +kernel
theorem walk_14 : zs 256 3482203374 = 1148792093 := by decide +kernel
theorem away_14 : away 256 3482203374 = true := by decide +kernel
theorem walk_15 : zs 256 1148792093 = 1589100796 := by decide +kernel
theorem away_15 : away 256 1148792093 = true := by decide +kernel
theorem walk_16 : zs 256 1589100796 = 3336159045 := by decide +kernel
theorem away_16 : away 256 1589100796 = true := by decide +kernel
theorem walk_17 : zs 256 3336159045 = 688539521 := by decide +kernel
theorem away_17 : away 256 3336159045 = true := by decide +kernel
theorem walk_18 : zs 256 688539521 = 3910537671 := by decide +kernel
theorem away_18 : away 256 688539521 = true := by decide +kernel

/-- Far enough: no number of zero steps up to 4864 comes back to the polynomial. -/
theorem no_return (d : Nat) (h1 : 1 ≤ d) (h2 : d ≤ 4864) : zs d poly ≠ poly := by
  have e0 : zs 0 poly = 2197175160 := rfl
  have e1 : zs 256 poly = 2619691805 := by rw [show 256 = 0 + 256 from rfl, zs_add, e0]; exact walk_0
  have e2 : zs 512 poly = 973567873 := by rw [show 512 = 256 + 256 from rfl, zs_add, e1]; exact walk_1
  have e3 : zs 768 poly = 3770260683 := by rw [show 768 = 512 + 256 from rfl, zs_add, e2]; exact walk_2
  have e4 : zs 1024 poly = 885614417 := by rw [show 1024 = 768 + 256 from rfl, zs_add, e3]; exact walk_3
  have e5 : zs 1280 poly = 2406022380 := by rw [show 1280 = 1024 + 256 from rfl, zs_add, e4]; exact walk_4
  have e6 : zs 1536 poly = 1413307476 := by rw [show 1536 = 1280 + 256 from rfl, zs_add, e5]; exact walk_5
  have e7 : zs 1792 poly = 954763476 := by rw [show 1792 = 1536 + 256 from rfl, zs_add, e6]; exact walk_6
  have e8 : zs 2048 poly = 1851309394 := by rw [show 2048 = 1792 + 256 from rfl, zs_add, e7]; exact walk_7
  have e9 : zs 2304 poly = 807987921 := by rw [show 2304 = 2048 + 256 from rfl, zs_add, e8]; exact walk_8
  have e10 : zs 2560 poly = 284814542 := by rw [show 2560 = 2304 + 256 from rfl, zs_add, e9]; exact walk_9
  have e11 : zs 2816 poly = 3539210371 := by rw [show 2816 = 2560 + 256 from rfl, zs_add, e10]; exact walk_10
  have e12 : zs 3072 poly = 2191536031 := by rw [show 3072 = 2816 + 256 from rfl, zs_add, e11]; exact walk_11
  have e13 : zs 3328 poly = 1261553050 := by rw [show 3328 = 3072 + 256 from rfl, zs_add, e12]; exact walk_12
  have e14 : zs 3584 poly = 3482203374 := by rw [show 3584 = 3328 + 256 from rfl, zs_add, e13]; exact walk_13
  have e15 : zs 3840 poly = 1148792093 := by rw [show 3840 = 3584 + 256 from rfl, zs_add, e14]; exact walk_14
  have e16 : zs 4096 poly = 1589100796 := by rw [show 4096 = 3840 + 256 from rfl, zs_add, e15]; exact walk_15
  have e17 : zs 4352 poly = 3336159045 := by rw [show 4352 = 4096 + 256 from rfl, zs_add, e16]; exact walk_16
  have e18 : zs 4608 poly = 688539521 := by rw [show 4608 = 4352 + 256 from rfl, zs_add, e17]; exact walk_17
  have e19 : zs 4864 poly = 3910537671 := by rw [show 4864 = 4608 + 256 from rfl, zs_add, e18]; exact walk_18
  have hd : ∃ k j, d = 256 * k + j ∧ 1 ≤ j ∧ j ≤ 256 ∧ k < 19 := ⟨(d - 1) / 256, (d - 1) % 256 + 1, by omega, by omega, by omega, by omega⟩
  obtain ⟨k, j, rfl, hj1, hj2, hk⟩ := hd
  rw [zs_add]
  have hk2 : k = 0 ∨ k = 1 ∨ k = 2 ∨ k = 3 ∨ k = 4 ∨ k = 5 ∨ k = 6 ∨ k = 7 ∨ k = 8 ∨ k = 9 ∨ k = 10 ∨ k = 11 ∨ k = 12 ∨ k = 13 ∨ k = 14 ∨ k = 15 ∨ k = 16 ∨ k = 17 ∨ k = 18 := by omega
  rcases hk2 with rfl | rfl | rfl | rfl | rfl | rfl | rfl | rfl | rfl | rfl | rfl | rfl | rfl | rfl | rfl | rfl | rfl | rfl | rfl
  · rw [show 256 * 0 = 0 from rfl, e0]; exact away_at 256 _ away_0 j hj1 hj2
  · rw [show 256 * 1 = 256 from rfl, e1]; exact away_at 256 _ away_1 j hj1 hj2
  · rw [show 256 * 2 = 512 from rfl, e2]; exact away_at 256 _ away_2 j hj1 hj2
  · rw [show 256 * 3 = 768 from rfl, e3]; exact away_at 256 _ away_3 j hj1 hj2
  · rw [show 256 * 4 = 1024 from rfl, e4]; exact away_at 256 _ away_4 j hj1 hj2
  · rw [show 256 * 5 = 1280 from rfl, e5]; exact away_at 256 _ away_5 j hj1 hj2
  · rw [show 256 * 6 = 1536 from rfl, e6]; exact away_at 256 _ away_6 j hj1 hj2
  · rw [show 256 * 7 = 1792 from rfl, e7]; exact away_at 256 _ away_7 j hj1 hj2
  · rw [show 256 * 8 = 2048 from rfl, e8]; exact away_at 256 _ away_8 j hj1 hj2
  · rw [show 256 * 9 = 2304 from rfl, e9]; exact away_at 256 _ away_9 j hj1 hj2
  · rw [show 256 * 10 = 2560 from rfl, e10]; exact away_at 256 _ away_10 j hj1 hj2
  · rw [show 256 * 11 = 2816 from rfl, e11]; exact away_at 256 _ away_11 j hj1 hj2
  · rw [show 256 * 12 = 3072 from rfl, e12]; exact away_at 256 _ away_12 j hj1 hj2
  · rw [show 256 * 13 = 3328 from rfl, e13]; exact away_at 256 _ away_13 j hj1 hj2
  · rw [show 256 * 14 = 3584 from rfl, e14]; exact away_at 256 _ away_14 j hj1 hj2
  · rw [show 256 * 15 = 3840 from rfl, e15]; exact away_at 256 _ away_15 j hj1 hj2
  · rw [show 256 * 16 = 4096 from rfl, e16]; exact away_at 256 _ away_16 j hj1 hj2
  · rw [show 256 * 17 = 4352 from rfl, e17]; exact away_at 256 _ away_17 j hj1 hj2
  · rw [show 256 * 18 = 4608 from rfl, e18]; exact away_at 256 _ away_18 j hj1 hj2

end Go.Proofs.YtlhcacancnmhcaaDoor
