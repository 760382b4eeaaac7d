/-
  Records in plain words: how one is written, how a text is looked at, what is told of a text; cut off, gone on with, turned. No program is read here.
-/
import Derived.Test.YtlhcacancnmhcaaDoorCrcFlip
namespace Go.Proofs.YtlhcacancnmhcaaDoor
open Go.RowKit

instance (z : List UInt8) : Decidable (Sealed z) := inferInstanceAs (Decidable (_ ∧ _))

/-- Bytes, sealed. -/
def sealed (b : List UInt8) : List UInt8 := b ++ le4 (more_ 0 b)
theorem sealed_length (b : List UInt8) : (sealed b).length = b.length + 4 := by unfold sealed; rw [List.length_append]; rfl
theorem sealed_is (b : List UInt8) : Sealed (sealed b) := seal_sealed b
theorem sealed_take (b : List UInt8) : (sealed b).take b.length = b := List.take_left
/-- What is sealed is some bytes' seal. -/
theorem sealed_of {z : List UInt8} (h : Sealed z) : z = sealed (z.take (z.length - 4)) := by
  unfold sealed
  rw [← h.2, List.take_append_drop]

structure Rec where
  k : UInt8
  d : List UInt8
deriving DecidableEq
instance : Inhabited Rec := ⟨⟨0, []⟩⟩

/-- A record's header, and all of it. -/
def headR (r : Rec) : List UInt8 := sealed (r.k :: be r.d.length 4)
def one (r : Rec) : List UInt8 := headR r ++ sealed r.d
def allR (l : List Rec) : List UInt8 := l.flatMap one
theorem headR_length (r : Rec) : (headR r).length = 9 := by unfold headR; rw [sealed_length, List.length_cons, be_length]
theorem one_length (r : Rec) : (one r).length = 13 + r.d.length := by unfold one; rw [List.length_append, headR_length, sealed_length]; omega
theorem allR_cons (r : Rec) (l : List Rec) : allR (r :: l) = one r ++ allR l := by simp [allR]
theorem allR_append (a b : List Rec) : allR (a ++ b) = allR a ++ allR b := by simp [allR]
theorem allR_nil : allR [] = [] := rfl

theorem val_be4 (n : Nat) (h : n < 4294967296) : val (be n 4) = n := by
  simp only [be, val, List.foldl_cons, List.foldl_nil, UInt8.toNat_ofNat']
  omega

/-- What stands at a text's beginning. -/
inductive LookR where
  | whole | torn | bad
  | told (r : Rec)
/-- The length that a header tells. -/
def lenOf (b : List UInt8) : Nat := val ((b.drop 1).take 4)
def lookR (b : List UInt8) : LookR :=
  if b.length = 0 then .whole
  else if b.length < 9 then .torn
  else if ¬ Sealed (b.take 9) ∨ 262144 < lenOf b then .bad
  else if b.length < 13 + lenOf b then .torn
  else if ¬ Sealed ((b.drop 9).take (lenOf b + 4)) then .bad
  else .told ⟨b.headD 0, (b.drop 9).take (lenOf b)⟩

theorem look_rec {b : List UInt8} {r : Rec} (h : lookR b = .told r) : 13 + r.d.length ≤ b.length ∧ r.d.length = lenOf b ∧ r.d.length ≤ 262144 ∧ Sealed (b.take 9) ∧ Sealed ((b.drop 9).take (lenOf b + 4)) ∧ r.k = b.headD 0 ∧ r.d = (b.drop 9).take (lenOf b) := by
  unfold lookR at h
  split at h
  · cases h
  split at h
  · cases h
  split at h
  · cases h
  split at h
  · cases h
  split at h
  · cases h
  · rename_i h1 h2 h3 h4 h5
    injection h with h
    subst h
    have hs : Sealed (b.take 9) := Classical.not_not.1 (fun x => h3 (.inl x))
    have hl : lenOf b ≤ 262144 := Nat.le_of_not_lt (fun x => h3 (.inr x))
    have hd : ((b.drop 9).take (lenOf b)).length = lenOf b := by rw [List.length_take, List.length_drop]; omega
    refine ⟨by show 13 + ((b.drop 9).take (lenOf b)).length ≤ _; rw [hd]; omega, hd, by show ((b.drop 9).take (lenOf b)).length ≤ _; rw [hd]; exact hl, hs, Classical.not_not.1 h5, rfl, rfl⟩

def scanF : Nat → List UInt8 → List Rec × Nat × Nat
  | 0, _ => ([], 0, 0)
  | f + 1, b => match lookR b with
    | .whole => ([], 0, 0)
    | .torn => ([], 0, 1)
    | .bad => ([], 0, 2)
    | .told r => (r :: (scanF f (b.drop (13 + r.d.length))).1, 13 + r.d.length + (scanF f (b.drop (13 + r.d.length))).2.1, (scanF f (b.drop (13 + r.d.length))).2.2)
def scan (b : List UInt8) : List Rec × Nat × Nat := scanF (b.length + 1) b
theorem scanF_fuel : ∀ (f g : Nat) (b : List UInt8), b.length < f → b.length < g → scanF f b = scanF g b
  | 0, _, _, h, _ => absurd h (Nat.not_lt_zero _)
  | _ + 1, 0, _, _, h => absurd h (Nat.not_lt_zero _)
  | f + 1, g + 1, b, h1, h2 => by
    unfold scanF
    split
    · rfl
    · rfl
    · rfl
    · rename_i r hr
      have hl := (look_rec hr).1
      rw [scanF_fuel f g (b.drop (13 + r.d.length)) (by rw [List.length_drop]; omega) (by rw [List.length_drop]; omega)]
theorem scan_of_rec {b : List UInt8} {r : Rec} (h : lookR b = .told r) : scan b = (r :: (scan (b.drop (13 + r.d.length))).1, 13 + r.d.length + (scan (b.drop (13 + r.d.length))).2.1, (scan (b.drop (13 + r.d.length))).2.2) := by
  have hl := (look_rec h).1
  have e : scanF b.length (b.drop (13 + r.d.length)) = scan (b.drop (13 + r.d.length)) := scanF_fuel _ _ _ (by rw [List.length_drop]; omega) (by omega)
  show scanF (b.length + 1) b = _
  unfold scanF
  rw [h]
  simp only [e]
theorem scan_of_whole {b : List UInt8} (h : lookR b = .whole) : scan b = ([], 0, 0) := by
  show scanF (b.length + 1) b = _
  unfold scanF; rw [h]
theorem scan_of_torn {b : List UInt8} (h : lookR b = .torn) : scan b = ([], 0, 1) := by
  show scanF (b.length + 1) b = _
  unfold scanF; rw [h]
theorem scan_of_bad {b : List UInt8} (h : lookR b = .bad) : scan b = ([], 0, 2) := by
  show scanF (b.length + 1) b = _
  unfold scanF; rw [h]

/-- A record that is written is told. -/
theorem look_one (r : Rec) (hr : r.d.length ≤ 262144) (t : List UInt8) : lookR (one r ++ t) = .told r := by
  have hl := one_length r
  have hh := headR_length r
  have h9 : (one r ++ t).take 9 = headR r := by
    unfold one
    rw [List.append_assoc, ← hh, List.take_left]
  have h5 : lenOf (one r ++ t) = r.d.length := by
    unfold lenOf one headR sealed
    rw [show ((((r.k :: be r.d.length 4) ++ le4 (more_ 0 (r.k :: be r.d.length 4))) ++ (r.d ++ le4 (more_ 0 r.d))) ++ t).drop 1 = be r.d.length 4 ++ (le4 (more_ 0 (r.k :: be r.d.length 4)) ++ ((r.d ++ le4 (more_ 0 r.d)) ++ t)) by simp]
    have h4 : (be r.d.length 4).length = 4 := be_length _ _
    have : (be r.d.length 4 ++ (le4 (more_ 0 (r.k :: be r.d.length 4)) ++ ((r.d ++ le4 (more_ 0 r.d)) ++ t))).take 4 = be r.d.length 4 := by
      conv => lhs; rw [← h4]
      exact List.take_left
    rw [this]
    exact val_be4 _ (by omega)
  have hd : (one r ++ t).drop 9 = sealed r.d ++ t := by
    unfold one
    rw [List.append_assoc, ← hh, List.drop_left]
  have hk : (one r ++ t).headD 0 = r.k := by unfold one headR sealed; rfl
  unfold lookR
  rw [List.length_append, hl, if_neg (by omega), if_neg (by omega), h9, h5, if_neg (fun x => by rcases x with x | x; exact x (sealed_is _); omega), if_neg (by omega), hd]
  have e1 : (sealed r.d ++ t).take (r.d.length + 4) = sealed r.d := by rw [← sealed_length, List.take_left]
  have e2 : (sealed r.d ++ t).take r.d.length = r.d := by
    unfold sealed
    rw [List.append_assoc, List.take_left]
  rw [e1, if_neg (fun x => x (sealed_is _)), e2, hk]
def Fit (l : List Rec) : Prop := ∀ r ∈ l, r.d.length ≤ 262144
theorem scan_one (r : Rec) (hr : r.d.length ≤ 262144) (t : List UInt8) : scan (one r ++ t) = (r :: (scan t).1, 13 + r.d.length + (scan t).2.1, (scan t).2.2) := by
  rw [scan_of_rec (look_one r hr t), ← one_length, List.drop_left]
/-- Behind whole records it goes on with what stands there. -/
theorem scan_all : ∀ (l : List Rec) (_ : Fit l) (t : List UInt8), scan (allR l ++ t) = (l ++ (scan t).1, (allR l).length + (scan t).2.1, (scan t).2.2)
  | [], _, t => by simp [allR]
  | r :: l, h, t => by
    rw [allR_cons, List.append_assoc, scan_one r (h r (by simp)), scan_all l (fun x hx => h x (by simp [hx])) t]
    simp only [List.cons_append, List.length_append, one_length]
    congr 2; omega
theorem scan_nil : scan [] = ([], 0, 0) := scan_of_whole (by simp [lookR])

/-- A text that is bad at its beginning stays so. -/
theorem look_bad_more {b : List UInt8} (h : lookR b = .bad) (t : List UInt8) : lookR (b ++ t) = .bad := by
  unfold lookR at h
  split at h
  · cases h
  split at h
  · cases h
  rename_i h1 h2
  have h9 : (b ++ t).take 9 = b.take 9 := List.take_append_of_le_length (by omega)
  have h5 : lenOf (b ++ t) = lenOf b := by
    unfold lenOf
    rw [List.drop_append_of_le_length (by omega), List.take_append_of_le_length (by rw [List.length_drop]; omega)]
  split at h
  · rename_i h3
    unfold lookR
    rw [List.length_append, if_neg (by omega), if_neg (by omega), h9, h5, if_pos h3]
  · rename_i h3
    split at h
    · cases h
    · rename_i h4
      split at h
      · rename_i h6
        unfold lookR
        rw [List.length_append, if_neg (by omega), if_neg (by omega), h9, h5, if_neg h3, if_neg (by omega), List.drop_append_of_le_length (by omega), List.take_append_of_le_length (by rw [List.length_drop]; omega), if_pos h6]
      · cases h
theorem look_rec_more {b : List UInt8} {r : Rec} (h : lookR b = .told r) (t : List UInt8) : lookR (b ++ t) = .told r := by
  obtain ⟨h1, h2, h3, h4, h5, h6, h7⟩ := look_rec h
  have h9 : (b ++ t).take 9 = b.take 9 := List.take_append_of_le_length (by omega)
  have h8 : lenOf (b ++ t) = lenOf b := by
    unfold lenOf
    rw [List.drop_append_of_le_length (by omega), List.take_append_of_le_length (by rw [List.length_drop]; omega)]
  have hh : (b ++ t).headD 0 = b.headD 0 := by
    cases b with
    | nil => simp at h1
    | cons x l => rfl
  unfold lookR
  rw [List.length_append, if_neg (by omega), if_neg (by omega), h9, h8, if_neg (fun x => by rcases x with x | x; exact x h4; omega), if_neg (by omega), List.drop_append_of_le_length (by omega), List.take_append_of_le_length (by rw [List.length_drop]; omega), if_neg (fun x => x h5), List.take_append_of_le_length (by rw [List.length_drop]; omega), hh, ← h6, ← h7]
/-- The whole: what is told of a text is told of it with more behind it; a bad rest stays bad. -/
theorem scan_more : ∀ (n : Nat) (b : List UInt8) (_ : b.length ≤ n) (t : List UInt8), (∃ m, (scan (b ++ t)).1 = (scan b).1 ++ m) ∧ ((scan b).2.2 = 2 → scan (b ++ t) = scan b) := by
  intro n
  induction n with
  | zero =>
    intro b hb t
    obtain rfl : b = [] := List.eq_nil_of_length_eq_zero (by omega)
    rw [scan_nil]
    exact ⟨⟨_, rfl⟩, fun h => by cases h⟩
  | succ n ih =>
    intro b hb t
    cases hl : lookR b with
    | whole => rw [scan_of_whole hl]; exact ⟨⟨_, rfl⟩, fun h => by cases h⟩
    | torn => rw [scan_of_torn hl]; exact ⟨⟨_, rfl⟩, fun h => by cases h⟩
    | bad => rw [scan_of_bad hl, scan_of_bad (look_bad_more hl t)]; exact ⟨⟨[], rfl⟩, fun _ => rfl⟩
    | told r =>
      have h1 := (look_rec hl).1
      obtain ⟨⟨m, hm⟩, h2⟩ := ih (b.drop (13 + r.d.length)) (by rw [List.length_drop]; omega) t
      rw [scan_of_rec hl, scan_of_rec (look_rec_more hl t), List.drop_append_of_le_length h1]
      refine ⟨⟨m, by show r :: _ = r :: _ ++ m; rw [hm]; rfl⟩, fun h => ?_⟩
      rw [h2 h]
/-- What it takes is no more than there is, and just all of it where the rest is whole. -/
theorem scan_takes : ∀ (n : Nat) (b : List UInt8) (_ : b.length ≤ n), (scan b).2.1 ≤ b.length ∧ ((scan b).2.2 = 0 ↔ (scan b).2.1 = b.length) ∧ (scan b).2.2 ≤ 2 ∧ Fit (scan b).1 := by
  intro n
  induction n with
  | zero =>
    intro b hb
    obtain rfl : b = [] := List.eq_nil_of_length_eq_zero (by omega)
    rw [scan_nil]
    exact ⟨Nat.le_refl _, by simp, by decide, fun r hr => by cases hr⟩
  | succ n ih =>
    intro b hb
    cases hl : lookR b with
    | whole =>
      have h0 : b.length = 0 := by
        unfold lookR at hl
        split at hl
        · assumption
        · repeat (first | (split at hl) | cases hl)
      rw [scan_of_whole hl]; exact ⟨Nat.zero_le _, by simp [h0], by show 0 ≤ 2; omega, fun r hr => by cases hr⟩
    | torn =>
      have h0 : b.length ≠ 0 := fun e => by unfold lookR at hl; rw [if_pos e] at hl; cases hl
      rw [scan_of_torn hl]; exact ⟨Nat.zero_le _, by show 1 = 0 ↔ 0 = b.length; omega, by show 1 ≤ 2; omega, fun r hr => by cases hr⟩
    | bad =>
      have h0 : b.length ≠ 0 := fun e => by unfold lookR at hl; rw [if_pos e] at hl; cases hl
      rw [scan_of_bad hl]; exact ⟨Nat.zero_le _, by show 2 = 0 ↔ 0 = b.length; omega, by show 2 ≤ 2; omega, fun r hr => by cases hr⟩
    | told r =>
      obtain ⟨h1, h2, h3, _⟩ := look_rec hl
      obtain ⟨k1, k2, k3, k4⟩ := ih (b.drop (13 + r.d.length)) (by rw [List.length_drop]; omega)
      rw [List.length_drop] at k1 k2
      rw [scan_of_rec hl]
      refine ⟨by show 13 + r.d.length + _ ≤ _; omega, ?_, k3, fun x hx => ?_⟩
      · show (scan (b.drop (13 + r.d.length))).2.2 = 0 ↔ 13 + r.d.length + (scan (b.drop (13 + r.d.length))).2.1 = b.length
        rw [k2]; omega
      · rcases List.mem_cons.1 hx with rfl | hx
        · exact h3
        · exact k4 x hx
/-- A beginning of a record that is not all of it is torn (or there is nothing). -/
theorem look_cut (r : Rec) (hr : r.d.length ≤ 262144) (k : Nat) (hk : k < (one r).length) : lookR ((one r).take k) = if k = 0 then .whole else .torn := by
  have hl := one_length r
  have hkl : ((one r).take k).length = k := by rw [List.length_take]; omega
  unfold lookR
  rw [hkl]
  by_cases h0 : k = 0
  · rw [if_pos h0, if_pos h0]
  rw [if_neg h0, if_neg h0]
  by_cases h9 : k < 9
  · rw [if_pos h9]
  have hh := headR_length r
  have e9 : ((one r).take k).take 9 = headR r := by
    rw [List.take_take, Nat.min_eq_left (by omega)]
    unfold one
    rw [← hh, List.take_left]
  have e5 : lenOf ((one r).take k) = r.d.length := by
    have h := look_one r hr []
    obtain ⟨_, h2, _⟩ := look_rec h
    rw [List.append_nil] at h2
    rw [h2]
    unfold lenOf
    rw [List.drop_take, List.take_take, Nat.min_eq_left (by omega)]
  rw [if_neg h9, e9, e5, if_neg (fun x => by rcases x with x | x; exact x (sealed_is _); omega), if_pos (by omega)]
/-- Cut off anywhere, just the records that are there whole are told, and the rest is torn or whole. -/
theorem scan_cut : ∀ (l : List Rec) (_ : Fit l) (k : Nat) (_ : k ≤ (allR l).length), ∃ j, j ≤ l.length ∧ (scan ((allR l).take k)).1 = l.take j ∧ (scan ((allR l).take k)).2.2 ≠ 2
  | [], _, k, hk => by
    have : k = 0 := by simpa [allR] using hk
    subst this
    refine ⟨0, Nat.le_refl _, ?_⟩
    rw [List.take_zero, scan_nil]
    exact ⟨rfl, by decide⟩
  | r :: l, h, k, hk => by
    have hr := h r (by simp)
    rw [allR_cons] at hk ⊢
    by_cases hlt : k < (one r).length
    · rw [List.take_append_of_le_length (by omega)]
      have := look_cut r hr k hlt
      refine ⟨0, Nat.zero_le _, ?_⟩
      by_cases h0 : k = 0
      · rw [if_pos h0] at this; rw [scan_of_whole this]; exact ⟨rfl, by decide⟩
      · rw [if_neg h0] at this; rw [scan_of_torn this]; exact ⟨rfl, by decide⟩
    · have hle : (one r).length ≤ k := by omega
      rw [List.length_append] at hk
      obtain ⟨j, h1, h2, h3⟩ := scan_cut l (fun x hx => h x (by simp [hx])) (k - (one r).length) (by omega)
      rw [List.take_append, List.take_of_length_le hle, scan_one r hr]
      exact ⟨j + 1, by simpa using h1, by show r :: _ = r :: _; rw [h2], h3⟩

/-- Bits that are turned within 32 are told. -/
theorem burst (i L c j : Nat) (hL : L ≤ 32) (hc : c < 2 ^ L) (h0 : c ≠ 0) : reg 0 (List.replicate i false ++ (bitsN L c ++ List.replicate j false)) ≠ 0 := by
  have hc32 : c < 4294967296 := Nat.lt_of_lt_of_le hc (Nat.pow_le_pow_right (by omega) hL)
  rw [reg_app, reg_app, reg_zeros, reg_zeros, reg_bitsN L c _ hc]
  have hz : zs i 0 = 0 := by
    have h1 := zs_xor i 0 0
    rw [Nat.xor_self, Nat.xor_self] at h1
    exact h1
  rw [hz, Nat.zero_xor]
  intro h
  have h1 := zs_zero j _ (zs_lt L c hc32) h
  exact h0 (zs_zero L c hc32 h1)
end Go.Proofs.YtlhcacancnmhcaaDoor
