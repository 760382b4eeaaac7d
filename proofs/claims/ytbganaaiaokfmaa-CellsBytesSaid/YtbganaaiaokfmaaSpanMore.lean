/-
  Plain facts on ranges, second part: the same both ways, being within is an order, points, what parts two keys. No program is read here.
-/
import Derived.Test.YtbganaaiaokfmaaSpanMath
namespace Go.Proofs.Ytbganaaiaokfmaa

/-- When what two ranges have is the first one. -/
theorem cap_self {a b : Rng} (ha : right a = true) : cap a b = a ↔ ble b.f a.f = true ∧ (b.e = true → a.e = true ∧ ble a.t b.t = true) := by
  obtain ⟨af, at_, ae⟩ := a
  obtain ⟨bf, bt, be⟩ := b
  have hfrom : from2 af bf = af ↔ ble bf af = true := by
    unfold from2
    cases h : bl af bf
    · rw [if_neg (by simp)]
      exact ⟨fun _ => (ble_iff _ _).2 h, fun _ => rfl⟩
    · rw [if_pos rfl]
      constructor
      · rintro rfl; exact ble_refl _
      · intro k; rw [(ble_iff _ _).1 k] at h; cases h
  unfold cap
  cases be
  · simp only [Bool.false_and, Bool.false_eq_true, if_false, Rng.mk.injEq, and_true, false_implies]
    exact hfrom
  · cases ae
    · simp only [Bool.not_false, Bool.true_or, Bool.and_self, if_true, Rng.mk.injEq]
      constructor
      · rintro ⟨_, _, h⟩; cases h
      · rintro ⟨_, h⟩; exact absurd (h trivial).1 (by simp)
    · cases h : bl bt at_
      · simp only [Bool.not_true, Bool.false_or, Bool.and_false, Bool.false_eq_true, if_false, Rng.mk.injEq, and_true]
        rw [hfrom]
        exact ⟨fun k => ⟨k, fun _ => ⟨trivial, (ble_iff _ _).2 h⟩⟩, fun k => k.1⟩
      · simp only [Bool.not_true, Bool.false_or, Bool.and_self, if_true, Rng.mk.injEq, and_true]
        rw [hfrom]
        constructor
        · rintro ⟨k, rfl⟩
          rw [bl_irrefl] at h; cases h
        · rintro ⟨_, k⟩
          rw [(ble_iff _ _).1 (k trivial).2] at h; cases h

theorem within_iff (a b : Rng) : within a b = true ↔ right a = true ∧ right b = true ∧ ble b.f a.f = true ∧ (b.e = true → a.e = true ∧ ble a.t b.t = true) := by
  unfold within
  rw [beq_iff_eq]
  constructor
  · intro h
    obtain ⟨ha, hb, _, hx⟩ := both_some h
    exact ⟨ha, hb, (cap_self ha).1 hx.symm⟩
  · rintro ⟨ha, hb, h⟩
    have e := (cap_self ha).2 h
    unfold both
    rw [e, ha, hb]
    rfl

theorem within_self {a : Rng} (h : right a = true) : within a a = true := (within_iff a a).2 ⟨h, h, ble_refl _, fun he => ⟨he, ble_refl _⟩⟩

theorem within_trans {a b c : Rng} (h : within a b = true) (k : within b c = true) : within a c = true := by
  rw [within_iff] at h k ⊢
  refine ⟨h.1, k.2.1, ble_trans k.2.2.1 h.2.2.1, fun hc => ?_⟩
  obtain ⟨hb, hbt⟩ := k.2.2.2 hc
  obtain ⟨ha, hat⟩ := h.2.2.2 hb
  exact ⟨ha, ble_trans hat hbt⟩

theorem cap_comm {a b : Rng} (ha : right a = true) (hb : right b = true) : cap a b = cap b a := by
  have hf : from2 a.f b.f = from2 b.f a.f := by
    unfold from2
    rcases bl_tri a.f b.f with h | h | h
    · rw [if_pos h, if_neg (by rw [bl_asymm h]; simp)]
    · rw [h]
    · rw [if_pos h, if_neg (by rw [bl_asymm h]; simp)]
  have a4 := ((right_iff a).1 ha).2.2.2
  have b4 := ((right_iff b).1 hb).2.2.2
  obtain ⟨af, at_, ae⟩ := a
  obtain ⟨bf, bt, be⟩ := b
  simp only at hf a4 b4
  unfold cap
  simp only [hf]
  cases ae <;> cases be
  · simp [a4 rfl, b4 rfl]
  · simp
  · simp
  · rcases bl_tri at_ bt with h | h | h
    · simp [h, bl_asymm h]
    · subst h; simp [bl_irrefl]
    · simp [h, bl_asymm h]

theorem both_comm (a b : Rng) : both a b = both b a := by
  unfold both
  cases ha : right a <;> cases hb : right b
  · rfl
  · rfl
  · rfl
  · rw [cap_comm ha hb]

theorem both_within {a b x : Rng} (h : both a b = some x) : within x a = true ∧ within x b = true := by
  have key : ∀ {a b x : Rng}, both a b = some x → within x a = true := by
    intro a b x h
    obtain ⟨ha, hb, hx, rfl⟩ := both_some h
    rw [within_iff]
    refine ⟨hx, ha, ?_, fun he => ?_⟩
    · have := ble_refl (cap a b).f
      rw [cap_f] at this ⊢
      rw [from2_le] at this
      rw [Bool.and_eq_true] at this
      exact this.1
    · unfold cap
      split
      · rename_i hc
        rw [Bool.and_eq_true, Bool.or_eq_true, he] at hc
        rcases hc.2 with h1 | h1
        · cases h1
        · exact ⟨rfl, (ble_iff _ _).2 (bl_asymm h1)⟩
      · exact ⟨he, ble_refl _⟩
  exact ⟨key h, key (by rw [both_comm]; exact h)⟩

theorem within_has {a b : Rng} (h : within a b = true) (k : Txt) (hk : has a k = true) : has b k = true := by
  have hw := h
  unfold within at h
  rw [beq_iff_eq] at h
  obtain ⟨ha, hb, _, _⟩ := both_some h
  have := has_both ha hb k
  rw [h] at this
  simp only [hk, Bool.true_and] at this
  exact this.symm

theorem meets_comm (a b : Rng) : meets a b = meets b a := by unfold meets; rw [both_comm]

theorem meets_wrong {a b : Rng} (h : right a = false ∨ right b = false) : meets a b = false ∧ within a b = false := by
  have : both a b = .none := by
    unfold both
    rcases h with h | h <;> rw [h] <;> simp
  unfold meets within
  rw [this]
  exact ⟨rfl, rfl⟩

/-! Points. -/
theorem point_eq {k : Txt} (h : k.length ≤ 512) : point k = ⟨k, k ++ [0], true⟩ := by unfold point; rw [if_neg (by omega)]
theorem point_right {k : Txt} (h : k.length ≤ 512) : right (point k) = true := by
  rw [point_eq h, right_iff]
  refine ⟨by show k.length ≤ 513; omega, by show (k ++ [0]).length ≤ 513; rw [List.length_append]; show k.length + 1 ≤ 513; omega, ?_, fun e => by cases e⟩
  show (!true || bl k (k ++ [0])) = true
  rw [bl_succ]; rfl
theorem point_has {k : Txt} (h : k.length ≤ 512) (x : Txt) : has (point k) x = (k == x) := by
  rw [has_eq, point_right h, point_eq h]
  show (true && ble k x && (!true || bl x (k ++ [0]))) = _
  rw [bl_next, Bool.true_and, Bool.not_true, Bool.false_or]
  cases h1 : ble k x
  · rw [Bool.false_and]
    symm
    rw [beq_eq_false_iff_ne]
    rintro rfl
    rw [ble_refl] at h1; cases h1
  · cases h2 : ble x k
    · symm
      rw [Bool.and_false, beq_eq_false_iff_ne]
      rintro rfl
      rw [ble_refl] at h2; cases h2
    · rw [ble_antisymm h1 h2]
      simp
theorem next_ne (k : Txt) : (k == k ++ [0]) = false := by
  rw [beq_eq_false_iff_ne]
  intro h
  have := congrArg List.length h
  rw [List.length_append] at this
  simp at this
theorem ble_next (k t : Txt) : ble (k ++ [0]) t = bl k t := by rw [ble_not, bl_next, ble_not, Bool.not_not]
theorem point_within {k : Txt} (h : k.length ≤ 512) {a : Rng} (ha : right a = true) : within (point k) a = has a k := by
  rw [Bool.eq_iff_iff, within_iff, has_eq, ha, point_right h, point_eq h]
  unfold ahead
  rw [Bool.true_and, Bool.and_eq_true, Bool.or_eq_true]
  show (true = true ∧ true = true ∧ ble a.f k = true ∧ (a.e = true → true = true ∧ ble (k ++ [0]) a.t = true)) ↔ _
  rw [ble_next]
  cases a.e <;> simp
theorem points_meet {a b : Txt} (ha : a.length ≤ 512) (hb : b.length ≤ 512) : meets (point a) (point b) = (a == b) := by
  rw [meets_iff (point_right ha) (point_right hb), point_has ha, point_has hb, point_eq ha, point_eq hb]
  show ((a == b) || (b == a)) = (a == b)
  cases h : (a == b)
  · have : (b == a) = false := by rw [beq_eq_false_iff_ne] at *; exact fun e => h e.symm
    rw [this]; rfl
  · rfl

/-! What parts two keys. -/
theorem part_l {s : Txt} (hs : s.length ≤ 513) (hp : 0 < s.length) (k : Txt) : has ⟨[], s, true⟩ k = bl k s := by
  have hr : right ⟨[], s, true⟩ = true := by
    rw [right_iff]
    refine ⟨by simp, hs, ?_, fun e => by cases e⟩
    show (!true || bl [] s) = true
    match s, hp with
    | y :: s, _ => rfl
  rw [has_eq, hr]
  have : ble [] k = true := by rw [ble_iff, bl_nil]
  show (true && ble [] k && (!true || bl k s)) = _
  rw [this]; simp
theorem part_r {s : Txt} (hs : s.length ≤ 513) (k : Txt) : has ⟨s, [], false⟩ k = ble s k := by
  have hr : right ⟨s, [], false⟩ = true := by
    rw [right_iff]
    exact ⟨hs, by simp, rfl, fun _ => rfl⟩
  rw [has_eq, hr]
  show (true && ble s k && (!false || bl k [])) = _
  simp
theorem parts_meet {s : Txt} (hs : s.length ≤ 513) (hp : 0 < s.length) : meets ⟨[], s, true⟩ ⟨s, [], false⟩ = false := by
  rw [Bool.eq_false_iff]
  intro h
  unfold meets at h
  obtain ⟨x, hx⟩ := Option.isSome_iff_exists.1 h
  obtain ⟨hw1, hw2⟩ := both_within hx
  obtain ⟨_, _, hr, _⟩ := both_some hx
  have h1 := within_has hw1 x.f (has_from hr)
  have h2 := within_has hw2 x.f (has_from hr)
  rw [part_l hs hp] at h1
  rw [part_r hs, ble_iff] at h2
  rw [h1] at h2; cases h2

end Go.Proofs.Ytbganaaiaokfmaa
