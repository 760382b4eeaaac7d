/-
  Plain facts on texts in their order, and on ranges of them: what ranges have in common, being within, points, the shortest text that parts two. No program is read here.
-/
import Derived.WalkKit
import Derived.WalkLawsBesides
import Derived.Lib.Hide
namespace Go.Proofs.Ytbganaaiaokfmaa

abbrev Txt := List UInt8

def bl (a b : Txt) : Bool := Op.bytesLess a b
def ble (a b : Txt) : Bool := bl a b || a == b

theorem bl_nil (a : Txt) : bl a [] = false := by unfold bl; cases a <;> rfl
theorem bl_cons (x y : UInt8) (a b : Txt) : bl (x :: a) (y :: b) = true ↔ x.toNat < y.toNat ∨ (x = y ∧ bl a b = true) := by
  unfold bl
  rw [Op.bytesLess, Bool.or_eq_true, Bool.and_eq_true, decide_eq_true_eq, beq_iff_eq, UInt8.lt_iff_toNat_lt]
theorem bl_nil_cons (y : UInt8) (b : Txt) : bl [] (y :: b) = true := rfl

theorem bl_irrefl : ∀ a : Txt, bl a a = false
  | [] => rfl
  | x :: a => by
    rw [Bool.eq_false_iff]
    intro h
    rcases (bl_cons x x a a).1 h with h | ⟨_, h⟩
    · omega
    · rw [bl_irrefl a] at h; cases h

theorem bl_trans : ∀ {a b c : Txt}, bl a b = true → bl b c = true → bl a c = true
  | _, [], _, h, _ => by rw [bl_nil] at h; cases h
  | _, _ :: _, [], _, h => by rw [bl_nil] at h; cases h
  | [], _ :: _, _ :: _, _, _ => rfl
  | x :: a, y :: b, z :: c, h, k => by
    rw [bl_cons] at h k ⊢
    rcases h with h | ⟨rfl, h⟩
    · rcases k with k | ⟨rfl, _⟩
      · exact .inl (by omega)
      · exact .inl h
    · rcases k with k | ⟨rfl, k⟩
      · exact .inl k
      · exact .inr ⟨rfl, bl_trans h k⟩

theorem bl_tri : ∀ (a b : Txt), bl a b = true ∨ a = b ∨ bl b a = true
  | [], [] => .inr (.inl rfl)
  | [], _ :: _ => .inl rfl
  | _ :: _, [] => .inr (.inr rfl)
  | x :: a, y :: b => by
    rw [bl_cons, bl_cons]
    rcases Nat.lt_trichotomy x.toNat y.toNat with h | h | h
    · exact .inl (.inl h)
    · have e : x = y := UInt8.toNat_inj.1 h
      subst e
      rcases bl_tri a b with h | rfl | h
      · exact .inl (.inr ⟨rfl, h⟩)
      · exact .inr (.inl rfl)
      · exact .inr (.inr (.inr ⟨rfl, h⟩))
    · exact .inr (.inr (.inl h))

theorem bl_asymm {a b : Txt} (h : bl a b = true) : bl b a = false := by
  rw [Bool.eq_false_iff]
  intro k
  have := bl_trans h k
  rw [bl_irrefl] at this
  cases this

theorem ble_iff (a b : Txt) : ble a b = true ↔ bl b a = false := by
  unfold ble
  rw [Bool.or_eq_true, beq_iff_eq]
  constructor
  · rintro (h | rfl)
    · exact bl_asymm h
    · exact bl_irrefl _
  · intro h
    rcases bl_tri a b with k | k | k
    · exact .inl k
    · exact .inr k
    · rw [h] at k; cases k
theorem ble_not (a b : Txt) : ble a b = !bl b a := by
  cases h : bl b a
  · exact (ble_iff a b).2 h
  · have e : ble a b = false := Bool.eq_false_iff.2 (fun k => by rw [(ble_iff a b).1 k] at h; cases h)
    rw [e]; rfl
theorem ble_refl (a : Txt) : ble a a = true := (ble_iff a a).2 (bl_irrefl a)
theorem ble_trans {a b c : Txt} (h : ble a b = true) (k : ble b c = true) : ble a c = true := by
  rw [ble_iff] at h k ⊢
  rw [Bool.eq_false_iff]
  intro hc
  rcases bl_tri a b with h1 | rfl | h1
  · rw [bl_trans hc h1] at k; cases k
  · rw [hc] at k; cases k
  · rw [h] at h1; cases h1
theorem bl_of_ble {a b c : Txt} (h : ble a b = true) (k : bl b c = true) : bl a c = true := by
  rw [ble_iff] at h
  rcases bl_tri a b with h1 | rfl | h1
  · exact bl_trans h1 k
  · exact k
  · rw [h] at h1; cases h1
theorem bl_of_ble' {a b c : Txt} (h : bl a b = true) (k : ble b c = true) : bl a c = true := by
  rw [ble_iff] at k
  rcases bl_tri b c with h1 | rfl | h1
  · exact bl_trans h h1
  · exact h
  · rw [k] at h1; cases h1
theorem ble_antisymm {a b : Txt} (h : ble a b = true) (k : ble b a = true) : a = b := by
  rw [ble_iff] at h k
  rcases bl_tri a b with h1 | h1 | h1
  · rw [k] at h1; cases h1
  · exact h1
  · rw [h] at h1; cases h1

/-- Behind a text comes next the text followed by a byte 0. -/
theorem bl_next : ∀ (a x : Txt), bl x (a ++ [0]) = ble x a
  | [], [] => rfl
  | [], y :: x => by
    have e : bl (y :: x) ([] ++ [0]) = false := Bool.eq_false_iff.2 (fun h => by
      rcases (bl_cons y 0 x []).1 h with h | ⟨_, h⟩
      · exact absurd h (Nat.not_lt_zero _)
      · rw [bl_nil] at h; cases h)
    rw [e]
    rfl
  | b :: a, [] => by rw [ble_not, bl_nil]; rfl
  | b :: a, y :: x => by
    rw [Bool.eq_iff_iff, List.cons_append, bl_cons, bl_next a x, ble_iff x a, ble_iff (y :: x) (b :: a)]
    constructor
    · rintro (h | ⟨rfl, h⟩)
      · rw [Bool.eq_false_iff]
        intro k
        rcases (bl_cons b y a x).1 k with k | ⟨rfl, _⟩ <;> omega
      · rw [Bool.eq_false_iff]
        intro k
        rcases (bl_cons y y a x).1 k with k | ⟨_, k⟩
        · omega
        · rw [h] at k; cases k
    · intro h
      rcases Nat.lt_trichotomy y.toNat b.toNat with k | k | k
      · exact .inl k
      · have e : y = b := UInt8.toNat_inj.1 k
        subst e
        refine .inr ⟨rfl, ?_⟩
        rw [Bool.eq_false_iff]
        intro k2
        rw [(bl_cons y y a x).2 (.inr ⟨rfl, k2⟩)] at h
        cases h
      · rw [(bl_cons b y a x).2 (.inl k)] at h
        cases h
theorem bl_succ (a : Txt) : bl a (a ++ [0]) = true := by rw [bl_next]; exact ble_refl a

/-- A beginning is not behind. -/
theorem ble_take : ∀ (b : Txt) (n : Nat), ble (b.take n) b = true
  | [], n => by rw [List.take_nil]; exact ble_refl _
  | y :: b, 0 => rfl
  | y :: b, n + 1 => by
    rw [List.take_succ_cons, ble_iff, Bool.eq_false_iff]
    intro h
    rcases (bl_cons y y b (b.take n)).1 h with h | ⟨_, h⟩
    · omega
    · rw [(ble_iff _ _).1 (ble_take b n)] at h; cases h
theorem ble_takes (b : Txt) {m n : Nat} (h : m ≤ n) : ble (b.take m) (b.take n) = true := by
  have := ble_take (b.take n) m
  rwa [List.take_take, Nat.min_eq_left h] at this

/-- The shortest beginning of b that is behind a. -/
def IsCut (a b : Txt) (n : Nat) : Prop := n ≤ b.length ∧ bl a (b.take n) = true ∧ ∀ m, m < n → ble (b.take m) a = true

theorem IsCut.unique {a b : Txt} {n m : Nat} (h : IsCut a b n) (k : IsCut a b m) : n = m := by
  rcases Nat.lt_trichotomy n m with hlt | rfl | hlt
  · have := (ble_iff _ _).1 (k.2.2 n hlt)
    rw [h.2.1] at this; cases this
  · rfl
  · have := (ble_iff _ _).1 (h.2.2 m hlt)
    rw [k.2.1] at this; cases this
theorem IsCut.exists {a b : Txt} (h : bl a b = true) : ∃ n, IsCut a b n := by
  have hex : ∀ k, k ≤ b.length → bl a (b.take k) = true → ∃ n, IsCut a b n := by
    intro k
    induction k with
    | zero => intro _ h0; rw [List.take_zero, bl_nil] at h0; cases h0
    | succ k ih =>
      intro hk h1
      cases h2 : bl a (b.take k)
      · refine ⟨k + 1, hk, h1, fun m hm => ?_⟩
        exact ble_trans (ble_takes b (by omega : m ≤ k)) ((ble_iff _ _).2 h2)
      · exact ih (by omega) h2
  exact hex b.length (Nat.le_refl _) (by rw [List.take_length]; exact h)
theorem IsCut.pos {a b : Txt} {n : Nat} (h : IsCut a b n) : 0 < n := by
  rcases Nat.eq_zero_or_pos n with rfl | hp
  · have := h.2.1; rw [List.take_zero, bl_nil] at this; cases this
  · exact hp

/-- A range of texts. -/
structure Rng where
  f : Txt
  t : Txt
  e : Bool
deriving DecidableEq

def Rng.none : Rng := ⟨[], [], false⟩

def right (r : Rng) : Bool := decide (r.f.length ≤ 513) && decide (r.t.length ≤ 513) && (if r.e then bl r.f r.t else r.t == [])
def has (r : Rng) (k : Txt) : Bool := right r && ble r.f k && (!r.e || bl k r.t)

/-- The greater From. -/
def from2 (a b : Txt) : Txt := if bl a b then b else a
/-- What two ranges have: the greater From, the lesser To. -/
def cap (a b : Rng) : Rng := if b.e && (!a.e || bl b.t a.t) then ⟨from2 a.f b.f, b.t, true⟩ else ⟨from2 a.f b.f, a.t, a.e⟩
def both (a b : Rng) : Option Rng := if right a && right b && right (cap a b) then some (cap a b) else .none
def meets (a b : Rng) : Bool := (both a b).isSome
def within (a b : Rng) : Bool := both a b == some a
def point (k : Txt) : Rng := if 512 < k.length then Rng.none else ⟨k, k ++ [0], true⟩

/-- Is a key ahead of the end? -/
def ahead (r : Rng) (k : Txt) : Bool := !r.e || bl k r.t

theorem has_eq (r : Rng) (k : Txt) : has r k = (right r && ble r.f k && ahead r k) := rfl

theorem from2_le (a b k : Txt) : ble (from2 a b) k = (ble a k && ble b k) := by
  unfold from2
  cases h : bl a b
  · rw [if_neg (by simp)]
    have hba : ble b a = true := (ble_iff b a).2 h
    cases hk : ble a k
    · rfl
    · rw [ble_trans hba hk]; rfl
  · rw [if_pos rfl]
    have hab : ble a b = true := (ble_iff a b).2 (bl_asymm h)
    cases hk : ble b k
    · simp
    · rw [ble_trans hab hk]; rfl

theorem ahead_cap (a b : Rng) (k : Txt) : ahead (cap a b) k = (ahead a k && ahead b k) := by
  obtain ⟨af, at_, ae⟩ := a
  obtain ⟨bf, bt, be⟩ := b
  unfold cap ahead
  cases be
  · simp
  · cases ae
    · simp
    · cases h : bl bt at_
      · simp only [Bool.not_true, Bool.false_or, Bool.and_false, Bool.false_eq_true, if_false]
        have hab : ble at_ bt = true := (ble_iff _ _).2 h
        cases hk : bl k at_
        · rfl
        · rw [bl_of_ble' hk hab]; rfl
      · simp only [Bool.not_true, Bool.false_or, Bool.and_self, if_true]
        cases hk : bl k bt
        · simp
        · rw [bl_trans hk h]; rfl

theorem cap_f (a b : Rng) : (cap a b).f = from2 a.f b.f := by unfold cap; split <;> rfl

theorem right_iff (r : Rng) : right r = true ↔ r.f.length ≤ 513 ∧ r.t.length ≤ 513 ∧ ahead r r.f = true ∧ (r.e = false → r.t = []) := by
  obtain ⟨f, t, e⟩ := r
  unfold right ahead
  cases e <;> simp [and_assoc]

/-- Of right ranges what they have is right just if its From is ahead of its end. -/
theorem right_cap {a b : Rng} (ha : right a = true) (hb : right b = true) : right (cap a b) = ahead (cap a b) (cap a b).f := by
  rw [Bool.eq_iff_iff, right_iff]
  obtain ⟨a1, a2, _, a4⟩ := (right_iff a).1 ha
  obtain ⟨b1, b2, _, b4⟩ := (right_iff b).1 hb
  refine ⟨fun h => h.2.2.1, fun h => ⟨?_, ?_, h, ?_⟩⟩
  · rw [cap_f]; unfold from2; split <;> assumption
  · unfold cap; split <;> assumption
  · unfold cap
    split
    · intro h; cases h
    · intro h; exact a4 h

theorem both_some {a b x : Rng} (h : both a b = some x) : right a = true ∧ right b = true ∧ right x = true ∧ x = cap a b := by
  unfold both at h
  split at h
  · rename_i hc
    rw [Bool.and_eq_true, Bool.and_eq_true] at hc
    obtain rfl := Option.some.inj h
    exact ⟨hc.1.1, hc.1.2, hc.2, rfl⟩
  · cases h

/-- A key is in what both have just if it is in both. -/
theorem has_both {a b : Rng} (ha : right a = true) (hb : right b = true) (k : Txt) : (match both a b with | some x => has x k | .none => false) = (has a k && has b k) := by
  have hcore : (ble (cap a b).f k && ahead (cap a b) k) = ((ble a.f k && ahead a k) && (ble b.f k && ahead b k)) := by
    rw [cap_f, from2_le, ahead_cap]
    cases ble a.f k <;> cases ble b.f k <;> cases ahead a k <;> cases ahead b k <;> rfl
  have hr : (has a k && has b k) = (ble (cap a b).f k && ahead (cap a b) k) := by
    rw [hcore, has_eq, has_eq, ha, hb, Bool.true_and, Bool.true_and]
  rw [hr]
  unfold both
  rw [ha, hb]
  cases hc : right (cap a b)
  · -- nothing is in it: its From is not ahead of its end
    simp only [Bool.and_self, Bool.and_false, Bool.false_eq_true, if_false]
    rw [right_cap ha hb] at hc
    cases h1 : ble (cap a b).f k
    · rfl
    · have : ahead (cap a b) k = false := by
        unfold ahead at hc ⊢
        cases he : (cap a b).e
        · rw [he] at hc; cases hc
        · rw [he] at hc
          simp only [Bool.not_true, Bool.false_or] at hc ⊢
          rw [Bool.eq_false_iff]
          intro h2
          rw [bl_of_ble h1 h2] at hc
          cases hc
      rw [this]; rfl
  · simp only [Bool.and_self, if_true]
    rw [has_eq, hc, Bool.true_and]

theorem has_from {r : Rng} (h : right r = true) : has r r.f = true := by
  rw [has_eq, h, ble_refl, ((right_iff r).1 h).2.2.1]; rfl

/-- They meet just if one has the other's From. -/
theorem meets_iff {a b : Rng} (ha : right a = true) (hb : right b = true) : meets a b = (has a b.f || has b a.f) := by
  rw [Bool.eq_iff_iff]
  constructor
  · intro h
    unfold meets at h
    obtain ⟨x, hx⟩ := Option.isSome_iff_exists.1 h
    obtain ⟨_, _, hr, hxe⟩ := both_some hx
    have h2 := has_both ha hb x.f
    rw [hx] at h2
    simp only [has_from hr] at h2
    have h3 : has a x.f = true ∧ has b x.f = true := by
      have := h2.symm
      rwa [Bool.and_eq_true] at this
    rw [hxe, cap_f] at h3
    unfold from2 at h3
    rw [Bool.or_eq_true]
    split at h3
    · exact .inl h3.1
    · exact .inr h3.2
  · intro h
    have hsome : ∀ k, has a k = true → has b k = true → meets a b = true := by
      intro k h1 h2
      have h3 := has_both ha hb k
      rw [h1, h2] at h3
      unfold meets
      cases hx : both a b with
      | none => rw [hx] at h3; cases h3
      | some x => rfl
    rw [Bool.or_eq_true] at h
    rcases h with h | h
    · exact hsome _ h (has_from hb)
    · exact hsome _ (has_from ha) h

end Go.Proofs.Ytbganaaiaokfmaa
