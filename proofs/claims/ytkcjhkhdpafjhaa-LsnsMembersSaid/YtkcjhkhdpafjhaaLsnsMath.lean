/-
  Plain facts on sets of numbers: all up to a low one, and some above it, in ascending order. No program is read here.
-/
import Derived.WalkKit
import Derived.Lib.Hide
namespace Go.Proofs.Ytkcjhkhdpafjhaa

/-- Ascending, all above lo. -/
def asc : Nat → List Nat → Bool
  | _, [] => true
  | lo, x :: l => decide (lo < x) && asc x l

theorem asc_cons (lo x : Nat) (l : List Nat) : asc lo (x :: l) = true ↔ lo < x ∧ asc x l = true := by
  rw [asc, Bool.and_eq_true, decide_eq_true_eq]
theorem asc_lower {lo lo' : Nat} (h : lo' ≤ lo) : ∀ {l : List Nat}, asc lo l = true → asc lo' l = true
  | [], _ => rfl
  | x :: l, k => by rw [asc_cons] at k ⊢; exact ⟨by omega, k.2⟩
theorem asc_mem : ∀ {lo : Nat} {l : List Nat}, asc lo l = true → ∀ x ∈ l, lo < x
  | _, [], _, _, hx => by cases hx
  | lo, y :: l, h, x, hx => by
    rw [asc_cons] at h
    rcases List.mem_cons.1 hx with rfl | hx
    · exact h.1
    · have := asc_mem h.2 x hx; omega
/-- From another low number. -/
theorem asc_from {lo lo' : Nat} {l : List Nat} (h : asc lo l = true) (hm : ∀ x ∈ l, lo' < x) : asc lo' l = true := by
  cases l with
  | nil => rfl
  | cons x l => rw [asc_cons] at h ⊢; exact ⟨hm x (by simp), h.2⟩
theorem asc_append {lo : Nat} {a b : List Nat} (ha : asc lo a = true) (hb : asc lo b = true) (h : ∀ x ∈ a, ∀ y ∈ b, x < y) : asc lo (a ++ b) = true := by
  induction a generalizing lo with
  | nil => exact hb
  | cons x a ih =>
    rw [List.cons_append]
    rw [asc_cons] at ha ⊢
    exact ⟨ha.1, ih ha.2 (asc_from hb (fun y hy => h x (by simp) y hy)) (fun z hz y hy => h z (by simp [hz]) y hy)⟩
theorem asc_left {lo : Nat} {a b : List Nat} (h : asc lo (a ++ b) = true) : asc lo a = true := by
  induction a generalizing lo with
  | nil => rfl
  | cons x a ih => rw [List.cons_append, asc_cons] at h; rw [asc_cons]; exact ⟨h.1, ih h.2⟩
theorem asc_right {lo : Nat} {a b : List Nat} (h : asc lo (a ++ b) = true) : asc lo b = true := by
  induction a generalizing lo with
  | nil => exact h
  | cons x a ih => rw [List.cons_append, asc_cons] at h; exact asc_lower (by omega) (ih h.2)
theorem asc_sep {lo : Nat} {a b : List Nat} (h : asc lo (a ++ b) = true) : ∀ x ∈ a, ∀ y ∈ b, x < y := by
  induction a generalizing lo with
  | nil => intro x hx; cases hx
  | cons z a ih =>
    rw [List.cons_append, asc_cons] at h
    intro x hx y hy
    rcases List.mem_cons.1 hx with rfl | hx
    · exact asc_mem h.2 y (by simp [hy])
    · exact ih h.2 x hx y hy

/-- Ascending lists are told by what is in them. -/
theorem asc_ext : ∀ {lo lo' : Nat} {a b : List Nat}, asc lo a = true → asc lo' b = true → (∀ x, x ∈ a ↔ x ∈ b) → a = b
  | _, _, [], [], _, _, _ => rfl
  | _, _, [], y :: b, _, _, h => by have := (h y).2 (by simp); cases this
  | _, _, x :: a, [], _, _, h => by have := (h x).1 (by simp); cases this
  | lo, lo', x :: a, y :: b, ha, hb, h => by
    rw [asc_cons] at ha hb
    have hxy : x = y := by
      have h1 := (h x).1 (by simp)
      have h2 := (h y).2 (by simp)
      rcases List.mem_cons.1 h1 with e | h1
      · exact e
      · rcases List.mem_cons.1 h2 with e | h2
        · exact e.symm
        · have := asc_mem hb.2 x h1
          have := asc_mem ha.2 y h2
          omega
    subst hxy
    congr 1
    refine asc_ext ha.2 hb.2 fun z => ?_
    constructor
    · intro hz
      rcases List.mem_cons.1 ((h z).1 (by simp [hz])) with rfl | k
      · have := asc_mem ha.2 z hz; omega
      · exact k
    · intro hz
      rcases List.mem_cons.1 ((h z).2 (by simp [hz])) with rfl | k
      · have := asc_mem hb.2 z hz; omega
      · exact k

/-- One round of looking through: the next one is above the low one, and above the one ahead of it. -/
theorem asc_take {lo : Nat} {l : List Nat} {i : Nat} (hi : i < l.length) (h : asc lo (l.take i) = true) :
    asc lo (l.take (i + 1)) = (decide (lo < l[i]) && (if h0 : 0 < i then decide (l[i - 1]'(by omega) < l[i]) else true)) := by
  induction l generalizing lo i with
  | nil => simp at hi
  | cons x l ih =>
    cases i with
    | zero => simp [asc]
    | succ i =>
      rw [List.take_succ_cons, asc_cons] at h
      have hi' : i < l.length := by simpa using hi
      rw [List.take_succ_cons, asc, ih hi' h.2]
      simp only [List.getElem_cons_succ, decide_eq_true h.1, Bool.true_and]
      have hlt : ∀ y, x < y → lo < y := fun y hy => by have := h.1; omega
      rcases Nat.eq_zero_or_pos i with rfl | hp
      · simp only [Nat.lt_irrefl, dif_neg, not_false_eq_true, Bool.and_true, Nat.zero_add, Nat.zero_lt_one, dif_pos, Nat.sub_self, List.getElem_cons_zero]
        rw [Bool.eq_iff_iff]; simp
        exact hlt _
      · have hpl : l[i - 1] ∈ l.take i := by
          rw [List.mem_take_iff_getElem]
          exact ⟨i - 1, by omega, rfl⟩
        have hx := asc_mem h.2 _ hpl
        have e : (x :: l)[i + 1 - 1]'(by simp; omega) = l[i - 1] := by
          obtain ⟨j, rfl⟩ : ∃ j, i = j + 1 := ⟨i - 1, by omega⟩
          simp
        rw [dif_pos hp, dif_pos (by omega), e]
        rw [Bool.eq_iff_iff]; simp
        intro _; have := h.1; omega

theorem asc_of_take {lo : Nat} {l : List Nat} (n : Nat) (h : asc lo (l.take n) = false) : asc lo l = false := by
  rw [Bool.eq_false_iff]
  intro k
  have : asc lo (l.take n ++ l.drop n) = true := by rw [List.take_append_drop]; exact k
  rw [asc_left this] at h
  cases h

/-- A set of numbers. -/
structure LS where
  low : Nat
  ins : List Nat
deriving DecidableEq

def LS.right (s : LS) : Bool := decide (s.ins.length ≤ 1000) && asc s.low s.ins
def LS.has (s : LS) (n : Nat) : Bool := s.right && (decide (n ≤ s.low) || s.ins.contains n)
def LS.most (s : LS) : Nat := if s.right then s.ins.getLast?.getD s.low else 0
def LS.zero : LS := ⟨0, []⟩

theorem LS.right_iff (s : LS) : s.right = true ↔ s.ins.length ≤ 1000 ∧ asc s.low s.ins = true := by
  unfold LS.right; rw [Bool.and_eq_true, decide_eq_true_eq]
theorem LS.has_iff {s : LS} (h : s.right = true) (n : Nat) : s.has n = true ↔ n ≤ s.low ∨ n ∈ s.ins := by
  unfold LS.has; rw [h, Bool.true_and, Bool.or_eq_true, decide_eq_true_eq, List.contains_iff_mem]

/-- A number more, at its place. -/
def ins1 (n : Nat) : List Nat → List Nat
  | [] => [n]
  | x :: l => if n < x then n :: x :: l else if n = x then x :: l else x :: ins1 n l

theorem mem_ins1 (n x : Nat) : ∀ l : List Nat, x ∈ ins1 n l ↔ x = n ∨ x ∈ l
  | [] => by simp [ins1]
  | y :: l => by
    unfold ins1
    split
    · simp
    · split
      · rename_i h; subst h; simp
      · rw [List.mem_cons, mem_ins1 n x l, List.mem_cons]
        constructor
        · rintro (h | h | h) <;> simp [h]
        · rintro (h | h | h) <;> simp [h]
theorem asc_ins1 {n : Nat} : ∀ {lo : Nat} {l : List Nat}, lo < n → asc lo l = true → asc lo (ins1 n l) = true
  | lo, [], h, _ => by simp [ins1, asc, h]
  | lo, y :: l, h, k => by
    rw [asc_cons] at k
    unfold ins1
    split
    · rename_i hn; rw [asc_cons, asc_cons]; exact ⟨h, hn, k.2⟩
    · split
      · rw [asc_cons]; exact k
      · rw [asc_cons]; exact ⟨k.1, asc_ins1 (by omega) k.2⟩
theorem len_ins1 (n : Nat) : ∀ l : List Nat, (ins1 n l).length ≤ l.length + 1 ∧ l.length ≤ (ins1 n l).length
  | [] => by simp [ins1]
  | y :: l => by
    have := len_ins1 n l
    unfold ins1
    split
    · simp
    · split
      · simp
      · simp only [List.length_cons]; omega
theorem ins1_in {n lo : Nat} {l : List Nat} (h : asc lo l = true) (hn : n ∈ l) : ins1 n l = l :=
  asc_ext (asc_ins1 (asc_mem h n hn) h) h fun x => by
    rw [mem_ins1]
    constructor
    · rintro (rfl | k)
      · exact hn
      · exact k
    · exact .inr
/-- Where it belongs: behind the smaller ones. -/
theorem ins1_at {n lo : Nat} {l : List Nat} (h : asc lo l = true) (hlo : lo < n) (hn : n ∉ l) (k : Nat) (h1 : ∀ x ∈ l.take k, x < n) (h2 : ∀ x ∈ l.drop k, n ≤ x) : l.take k ++ n :: l.drop k = ins1 n l := by
  have he : asc lo (l.take k ++ l.drop k) = true := by rw [List.take_append_drop]; exact h
  have hd : ∀ x ∈ l.drop k, n < x := fun x hx => by
    have := h2 x hx
    have : x ≠ n := fun e => hn (e ▸ List.mem_of_mem_drop hx)
    omega
  refine asc_ext (lo := lo) (lo' := lo) (asc_append (asc_left he) ?_ ?_) (asc_ins1 hlo h) fun x => ?_
  · rw [asc_cons]; exact ⟨hlo, asc_from (asc_right he) hd⟩
  · intro x hx y hy
    rcases List.mem_cons.1 hy with rfl | hy
    · exact h1 x hx
    · exact asc_sep he x hx y hy
  · have hx : x ∈ l ↔ x ∈ l.take k ∨ x ∈ l.drop k := by rw [← List.mem_append, List.take_append_drop]
    rw [mem_ins1, List.mem_append, List.mem_cons, hx]
    constructor
    · rintro (h | h | h) <;> simp [h]
    · rintro (h | h | h) <;> simp [h]
theorem len_ins1_out {n lo : Nat} {l : List Nat} (h : asc lo l = true) (hlo : lo < n) (hn : n ∉ l) : (ins1 n l).length = l.length + 1 := by
  induction l generalizing lo with
  | nil => rfl
  | cons y l ih =>
    rw [asc_cons] at h
    have hne : n ≠ y := fun e => hn (by simp [e])
    rw [ins1]
    have hnl : n ∉ l := fun e => hn (by simp [e])
    rw [if_neg hne]
    split
    · rfl
    · rw [List.length_cons, List.length_cons, ih h.2 (by omega) hnl]

/-- All of one list into another one. -/
def joinL (a b : List Nat) : List Nat := b.foldl (fun l n => ins1 n l) a
theorem mem_joinL (x : Nat) : ∀ (a b : List Nat), x ∈ joinL a b ↔ x ∈ a ∨ x ∈ b
  | a, [] => by simp [joinL]
  | a, y :: b => by
    have := mem_joinL x (ins1 y a) b
    unfold joinL at this ⊢
    rw [List.foldl_cons, this, mem_ins1, List.mem_cons]
    constructor
    · rintro ((h | h) | h) <;> simp [h]
    · rintro (h | h | h) <;> simp [h]
theorem asc_joinL {lo : Nat} : ∀ {a b : List Nat}, asc lo a = true → (∀ x ∈ b, lo < x) → asc lo (joinL a b) = true
  | a, [], h, _ => h
  | a, y :: b, h, k => by
    have := asc_joinL (a := ins1 y a) (b := b) (asc_ins1 (k y (by simp)) h) (fun x hx => k x (by simp [hx]))
    unfold joinL at this ⊢
    rw [List.foldl_cons]; exact this
theorem len_joinL : ∀ (a b : List Nat), (joinL a b).length ≤ a.length + b.length
  | a, [] => by simp [joinL]
  | a, y :: b => by
    have := len_joinL (ins1 y a) b
    have := (len_ins1 y a).1
    unfold joinL at *
    rw [List.foldl_cons, List.length_cons]
    omega

/-- What adding, raising, joining tell, where they tell a set. -/
def LS.addS (s : LS) (n : Nat) : LS := if s.has n then s else ⟨s.low, ins1 n s.ins⟩
def LS.raiseS (s : LS) (n : Nat) : LS := ⟨max s.low n, s.ins.filter (fun x => decide (max s.low n < x))⟩
def LS.joinS (a b : LS) : LS := ⟨a.low, joinL a.ins b.ins⟩

/-- The error's number that goes with it (0: none), and the set beside it. -/
def LS.addE (s : LS) (n : Nat) : Nat := if s.right then (if (s.addS n).ins.length ≤ 1000 then 0 else 6) else 40
def LS.raiseE (s : LS) : Nat := if s.right then 0 else 40
def LS.joinE (a b : LS) : Nat := if a.right && b.right then (if a.low = b.low then (if (a.joinS b).ins.length ≤ 1000 then 0 else 6) else 9) else 40
def LS.orZ (s : LS) (e : Nat) : LS := if e = 0 then s else LS.zero

theorem asc_filter {p : Nat → Bool} : ∀ {lo : Nat} {l : List Nat}, asc lo l = true → asc lo (l.filter p) = true
  | _, [], _ => rfl
  | lo, x :: l, h => by
    rw [asc_cons] at h
    rw [List.filter_cons]
    split
    · rw [asc_cons]; exact ⟨h.1, asc_filter h.2⟩
    · exact asc_lower (by omega) (asc_filter h.2)

theorem LS.raise_right {s : LS} (h : s.right = true) (n : Nat) : (s.raiseS n).right = true := by
  rw [LS.right_iff] at h ⊢
  refine ⟨Nat.le_trans (List.length_filter_le _ _) h.1, ?_⟩
  exact asc_from (asc_filter h.2) fun x hx => by
    have := (List.mem_filter.1 hx).2
    rwa [decide_eq_true_eq] at this
theorem LS.raise_has {s : LS} (h : s.right = true) (n m : Nat) : (s.raiseS n).has m = (s.has m || decide (m ≤ n)) := by
  rw [Bool.eq_iff_iff, LS.has_iff (LS.raise_right h n), Bool.or_eq_true, LS.has_iff h, decide_eq_true_eq]
  show (m ≤ max s.low n ∨ m ∈ s.ins.filter _) ↔ _
  rw [List.mem_filter, decide_eq_true_eq]
  constructor
  · rintro (h | ⟨h, _⟩)
    · rcases Nat.lt_or_ge s.low m with k | k
      · exact .inr (by omega)
      · exact .inl (.inl k)
    · exact .inl (.inr h)
  · rintro ((h | h) | h)
    · exact .inl (by omega)
    · rcases Nat.lt_or_ge (max s.low n) m with k | k
      · exact .inr ⟨h, k⟩
      · exact .inl k
    · exact .inl (by omega)

theorem LS.add_asc {s : LS} (h : s.right = true) (n : Nat) : asc s.low (s.addS n).ins = true ∧ (s.addS n).low = s.low ∧ ∀ x, x ∈ (s.addS n).ins ↔ x ∈ s.ins ∨ (x = n ∧ s.low < n) := by
  have hr := (LS.right_iff s).1 h
  unfold LS.addS
  cases hh : s.has n
  · rw [if_neg (by simp)]
    have hn : ¬ (n ≤ s.low ∨ n ∈ s.ins) := fun k => by rw [(LS.has_iff h n).2 k] at hh; cases hh
    have hlo : s.low < n := by omega
    refine ⟨asc_ins1 hlo hr.2, rfl, fun x => ?_⟩
    rw [mem_ins1]
    constructor
    · rintro (k | k)
      · exact .inr ⟨k, hlo⟩
      · exact .inl k
    · rintro (k | k)
      · exact .inr k
      · exact .inl k.1
  · rw [if_pos rfl]
    have hn := (LS.has_iff h n).1 hh
    refine ⟨hr.2, rfl, fun x => ?_⟩
    constructor
    · exact .inl
    · rintro (k | ⟨rfl, k⟩)
      · exact k
      · rcases hn with hn | hn
        · omega
        · exact hn
theorem LS.add_right {s : LS} {n : Nat} (h : s.addE n = 0) : s.right = true ∧ (s.addS n).right = true := by
  unfold LS.addE at h
  split at h
  · rename_i hr
    split at h
    · rename_i hl
      refine ⟨hr, (LS.right_iff _).2 ⟨hl, ?_⟩⟩
      have := LS.add_asc hr n
      rw [this.2.1]; exact this.1
    · cases h
  · cases h
theorem LS.add_has {s : LS} {n : Nat} (h : s.addE n = 0) (m : Nat) : (s.addS n).has m = (s.has m || decide (m = n)) := by
  obtain ⟨h1, h2⟩ := LS.add_right h
  obtain ⟨_, hl, hm⟩ := LS.add_asc h1 n
  rw [Bool.eq_iff_iff, LS.has_iff h2, Bool.or_eq_true, LS.has_iff h1, decide_eq_true_eq, hl, hm]
  constructor
  · rintro (k | k | k)
    · exact .inl (.inl k)
    · exact .inl (.inr k)
    · exact .inr k.1
  · rintro ((k | k) | k)
    · exact .inl k
    · exact .inr (.inl k)
    · rcases Nat.lt_or_ge s.low n with j | j
      · exact .inr (.inr ⟨k, j⟩)
      · exact .inl (by omega)

theorem LS.join_asc {a b : LS} (ha : a.right = true) (hb : b.right = true) (hl : a.low = b.low) : asc a.low (a.joinS b).ins = true ∧ ∀ x, x ∈ (a.joinS b).ins ↔ x ∈ a.ins ∨ x ∈ b.ins :=
  ⟨asc_joinL ((LS.right_iff a).1 ha).2 (fun x hx => by rw [hl]; exact asc_mem ((LS.right_iff b).1 hb).2 x hx), fun x => mem_joinL x _ _⟩
theorem LS.join_right {a b : LS} (h : a.joinE b = 0) : a.right = true ∧ b.right = true ∧ a.low = b.low ∧ (a.joinS b).right = true := by
  unfold LS.joinE at h
  split at h
  · rename_i hr
    rw [Bool.and_eq_true] at hr
    split at h
    · rename_i hl
      split at h
      · rename_i hn
        exact ⟨hr.1, hr.2, hl, (LS.right_iff _).2 ⟨hn, (LS.join_asc hr.1 hr.2 hl).1⟩⟩
      · cases h
    · cases h
  · cases h
theorem LS.join_has {a b : LS} (h : a.joinE b = 0) (m : Nat) : (a.joinS b).has m = (a.has m || b.has m) := by
  obtain ⟨h1, h2, hl, h3⟩ := LS.join_right h
  rw [Bool.eq_iff_iff, LS.has_iff h3, Bool.or_eq_true, LS.has_iff h1, LS.has_iff h2, (LS.join_asc h1 h2 hl).2]
  show m ≤ a.low ∨ _ ↔ _
  rw [← hl]
  constructor
  · rintro (k | k | k) <;> simp [k]
  · rintro ((k | k) | k | k) <;> simp [k]

/-- The greatest number. -/
theorem LS.most_mem {s : LS} (h : s.right = true) : s.most = s.low ∨ s.most ∈ s.ins := by
  unfold LS.most
  rw [if_pos h]
  rcases List.eq_nil_or_concat s.ins with e | ⟨l, x, e⟩
  · rw [e]; exact .inl rfl
  · rw [e]; right; simp
theorem LS.most_ge {s : LS} (h : s.right = true) : s.low ≤ s.most ∧ ∀ x ∈ s.ins, x ≤ s.most := by
  have hr := ((LS.right_iff s).1 h).2
  unfold LS.most
  rw [if_pos h]
  rcases List.eq_nil_or_concat s.ins with e | ⟨l, x, e⟩
  · rw [e]; simp
  · rw [e, List.concat_eq_append] at hr ⊢
    have h1 : (l ++ [x]).getLast?.getD s.low = x := by simp
    rw [h1]
    have := asc_mem hr x (by simp)
    refine ⟨by omega, fun y hy => ?_⟩
    rcases List.mem_append.1 hy with hy | hy
    · have := asc_sep hr y hy x (by simp); omega
    · have := List.mem_singleton.1 hy; omega
theorem LS.join_most {a b : LS} (h : a.joinE b = 0) : (a.joinS b).most = max a.most b.most := by
  obtain ⟨h1, h2, hl, h3⟩ := LS.join_right h
  have hm := (LS.join_asc h1 h2 hl).2
  have ga := LS.most_ge h1
  have gb := LS.most_ge h2
  have gj := LS.most_ge h3
  have hjl : (a.joinS b).low = a.low := rfl
  apply Nat.le_antisymm
  · rcases LS.most_mem h3 with k | k
    · rw [k, hjl]; omega
    · rcases (hm _).1 k with k | k
      · have := ga.2 _ k; omega
      · have := gb.2 _ k; omega
  · have e1 : a.most ≤ (a.joinS b).most := by
      rcases LS.most_mem h1 with k | k
      · rw [k]; exact gj.1
      · exact gj.2 _ ((hm _).2 (.inl k))
    have e2 : b.most ≤ (a.joinS b).most := by
      rcases LS.most_mem h2 with k | k
      · rw [k, ← hl]; exact gj.1
      · exact gj.2 _ ((hm _).2 (.inr k))
    omega

end Go.Proofs.Ytkcjhkhdpafjhaa
