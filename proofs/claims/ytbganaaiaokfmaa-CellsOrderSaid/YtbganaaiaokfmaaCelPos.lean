/-
  Plain facts on cells by their places: what is below a key comes first; put, delete, find and parts as cuts of the row; the half. No program is read here.
-/
import Derived.Test.YtbganaaiaokfmaaCelMath
namespace Go.Proofs.Ytbganaaiaokfmaa

/-- A property of keys that holds from the lowest up to somewhere. -/
def Low (P : Txt → Bool) : Prop := ∀ a b, bl a b = true → P b = true → P a = true
theorem low_bl (k : Txt) : Low fun x => bl x k := fun _ _ h1 h2 => bl_trans h1 h2
theorem low_ble (k : Txt) : Low fun x => ble x k := fun a b h1 h2 => by
  have := bl_of_ble' h1 h2
  show ble a k = true
  unfold ble
  rw [this]
  rfl
/-- How many have it. -/
def cntC (l : List Cel) (P : Txt → Bool) : Nat := (l.filter fun x => P x.1).length
theorem cnt_le (l : List Cel) (P : Txt → Bool) : cntC l P ≤ l.length := List.length_filter_le _ _
/-- Those that have it come first. -/
theorem low_split {P : Txt → Bool} (hP : Low P) : ∀ {l : List Cel}, Srt l → (l.filter fun x => P x.1) = l.take (cntC l P) ∧ (l.filter fun x => !P x.1) = l.drop (cntC l P)
  | [], _ => ⟨rfl, rfl⟩
  | a :: l, h => by
    have h' := List.pairwise_cons.1 h
    obtain ⟨i1, i2⟩ := low_split hP h'.2
    by_cases ha : P a.1 = true
    · have f1 : ((a :: l).filter fun x => P x.1) = a :: l.filter fun x => P x.1 := List.filter_cons_of_pos (p := fun x : Cel => P x.1) ha
      have f2 : ((a :: l).filter fun x => !P x.1) = l.filter fun x => !P x.1 := List.filter_cons_of_neg (p := fun x : Cel => !P x.1) (by simp [ha])
      have e : cntC (a :: l) P = cntC l P + 1 := by unfold cntC; rw [f1, List.length_cons]
      rw [e, f1, List.take_succ_cons, List.drop_succ_cons, i1, f2, i2]
      exact ⟨rfl, rfl⟩
    · have hno : ∀ x ∈ l, ¬ P x.1 = true := fun x hx hp => ha (hP a.1 x.1 (h'.1 x hx) hp)
      have e0 : (l.filter fun x => P x.1) = [] := List.filter_eq_nil_iff.2 hno
      have f1 : ((a :: l).filter fun x => P x.1) = [] := by rw [List.filter_cons_of_neg (p := fun x : Cel => P x.1) ha]; exact e0
      have e : cntC (a :: l) P = 0 := by unfold cntC; rw [f1]; rfl
      rw [e, f1, List.take_zero, List.drop_zero]
      refine ⟨rfl, List.filter_eq_self.2 fun x hx => ?_⟩
      rcases List.mem_cons.1 hx with rfl | hx
      · simpa using ha
      · simpa using hno x hx
/-- By the place: it has it just if it lies ahead of the count. -/
theorem cnt_iff {P : Txt → Bool} (hP : Low P) {l : List Cel} (h : Srt l) {i : Nat} (hi : i < l.length) : i < cntC l P ↔ P (l[i]).1 = true := by
  obtain ⟨h1, h2⟩ := low_split hP h
  constructor
  · intro hlt
    have hm : l[i] ∈ l.take (cntC l P) := by
      rw [← List.getElem_take (j := cntC l P) (h := by rw [List.length_take]; omega)]
      exact List.getElem_mem _
    rw [← h1] at hm
    exact (List.mem_filter.1 hm).2
  · intro hp
    refine Nat.lt_of_not_le fun hge => ?_
    have hm : l[i] ∈ l.drop (cntC l P) := by
      have e : (l.drop (cntC l P))[i - cntC l P]'(by rw [List.length_drop]; omega) = l[i] := by
        rw [List.getElem_drop]
        congr 1
        omega
      rw [← e]
      exact List.getElem_mem _
    rw [← h2] at hm
    have := (List.mem_filter.1 hm).2
    rw [hp] at this
    cases this
/-- A search is right if it ends at a place with nothing but such ahead of it, and none behind it. -/
theorem cnt_unique {P : Txt → Bool} (hP : Low P) {l : List Cel} (h : Srt l) {n : Nat} (hn : n ≤ l.length) (h1 : ∀ i (hi : i < l.length), i < n → P (l[i]).1 = true) (h2 : ∀ i (hi : i < l.length), n ≤ i → P (l[i]).1 = false) : cntC l P = n := by
  have hc := cnt_le l P
  rcases Nat.lt_trichotomy (cntC l P) n with hlt | he | hgt
  · have k := h1 (cntC l P) (by omega) hlt
    have := (cnt_iff hP h (by omega)).2 k
    omega
  · exact he
  · have k := h2 n (by omega) (Nat.le_refl _)
    have := (cnt_iff hP h (by omega)).1 hgt
    rw [k] at this
    cases this

/-- How many are below a key; how many are not above it. -/
def belowN (l : List Cel) (k : Txt) : Nat := cntC l fun x => bl x k
def uptoN (l : List Cel) (k : Txt) : Nat := cntC l fun x => ble x k
theorem above_not (l : List Cel) (k : Txt) : (l.filter fun x => bl k x.1) = l.filter fun x => !ble x.1 k := by
  congr 1
  funext x
  rw [ble_not, Bool.not_not]
theorem put_cut {l : List Cel} (h : Srt l) (c : Cel) : putC l c = l.take (belowN l c.1) ++ c :: l.drop (uptoN l c.1) := by
  unfold putC belowN uptoN
  rw [(low_split (low_bl c.1) h).1, above_not, (low_split (low_ble c.1) h).2]
theorem del_cut {l : List Cel} (h : Srt l) (k : Txt) : delC l k = l.take (belowN l k) ++ l.drop (uptoN l k) := by
  rw [del_split h, (low_split (low_bl k) h).1, above_not, (low_split (low_ble k) h).2]
  rfl
/-- There is one more up to a key than below it, or none. -/
theorem upto_below {l : List Cel} (h : Srt l) (k : Txt) : belowN l k ≤ uptoN l k ∧ uptoN l k ≤ belowN l k + 1 ∧ (uptoN l k = belowN l k + 1 ↔ ∃ (hi : belowN l k < l.length), (l[belowN l k]).1 = k) := by
  have hb := cnt_le l fun x => bl x k
  have hu := cnt_le l fun x => ble x k
  have key : ∀ i (hi : i < l.length), (l[i]).1 = k → i = belowN l k := fun i hi e => by
    have n1 : ¬ i < belowN l k := fun hlt => by
      have := (cnt_iff (low_bl k) h hi).1 hlt
      simp only [e, bl_irrefl] at this
      cases this
    refine Nat.le_antisymm (Nat.le_of_not_lt fun hlt => ?_) (Nat.le_of_not_lt n1)
    have hne : ¬ belowN l k < belowN l k := Nat.lt_irrefl _
    have hbi : belowN l k < l.length := by omega
    have h1 : bl (l[belowN l k]).1 (l[i]).1 = true := List.pairwise_iff_getElem.1 h _ _ hbi hi hlt
    rw [e] at h1
    exact hne ((cnt_iff (low_bl k) h hbi).2 h1)
  have le1 : belowN l k ≤ uptoN l k := by
    refine Nat.le_of_not_lt fun hlt => ?_
    have hi : uptoN l k < l.length := by have : uptoN l k < belowN l k := hlt; unfold belowN at this; omega
    have h1 := (cnt_iff (low_bl k) h hi).1 hlt
    have h2 : ble (l[uptoN l k]).1 k = true := by unfold ble; simp only [h1, Bool.true_or]
    exact Nat.lt_irrefl _ ((cnt_iff (low_ble k) h hi).2 h2)
  have at_ : ∀ i (hi : i < l.length), belowN l k ≤ i → i < uptoN l k → (l[i]).1 = k := fun i hi h1 h2 => by
    have k2 := (cnt_iff (low_ble k) h hi).1 h2
    have k1 : ¬ bl (l[i]).1 k = true := fun hb => Nat.not_lt.2 h1 ((cnt_iff (low_bl k) h hi).2 hb)
    rcases bl_tri (l[i]).1 k with h3 | h3 | h3
    · exact (k1 h3).elim
    · exact h3
    · have := (ble_iff _ _).1 k2
      rw [h3] at this
      cases this
  refine ⟨le1, Nat.le_of_not_lt fun hlt => ?_, ?_, ?_⟩
  · have hi : belowN l k + 1 < l.length := by have : belowN l k + 1 < uptoN l k := hlt; unfold uptoN at this; omega
    have := key _ hi (at_ _ hi (by omega) hlt)
    omega
  · intro e
    have hi : belowN l k < l.length := by have : belowN l k < uptoN l k := by omega
                                          unfold uptoN at this; omega
    exact ⟨hi, at_ _ hi (Nat.le_refl _) (by omega)⟩
  · rintro ⟨hi, e⟩
    have h2 : ble (l[belowN l k]).1 k = true := by rw [e]; exact ble_refl k
    have := (cnt_iff (low_ble k) h hi).2 h2
    have hh : belowN l k < uptoN l k := this
    refine Nat.le_antisymm (Nat.le_of_not_lt fun hlt => ?_) hh
    have hi' : belowN l k + 1 < l.length := by have : belowN l k + 1 < uptoN l k := hlt; unfold uptoN at this; omega
    have := key _ hi' (at_ _ hi' (by omega) hlt)
    omega
/-- Found by the place. -/
theorem find_at {l : List Cel} (h : Srt l) (k : Txt) : findC l k = if hi : belowN l k < l.length then (if (l[belowN l k]).1 = k then some (l[belowN l k]).2 else none) else none := by
  have hub := (upto_below h k).2.2
  by_cases hi : belowN l k < l.length
  · rw [dif_pos hi]
    by_cases e : (l[belowN l k]).1 = k
    · rw [if_pos e]
      refine (find_iff h).2 ?_
      have hm := List.getElem_mem hi
      have : l[belowN l k] = (k, (l[belowN l k]).2) := Prod.ext e rfl
      rw [← this]
      exact hm
    · rw [if_neg e]
      refine find_none.2 fun x hx hxk => ?_
      obtain ⟨i, hil, rfl⟩ := List.getElem_of_mem hx
      have n1 : ¬ i < belowN l k := fun hlt => by
        have := (cnt_iff (low_bl k) h hil).1 hlt
        simp only [hxk, bl_irrefl] at this
        cases this
      have n2 : ¬ belowN l k < i := fun hlt => by
        have h1 : bl (l[belowN l k]).1 (l[i]).1 = true := List.pairwise_iff_getElem.1 h _ _ hi hil hlt
        rw [hxk] at h1
        exact Nat.lt_irrefl _ ((cnt_iff (low_bl k) h hi).2 h1)
      have : i = belowN l k := by omega
      subst this
      exact e hxk
  · rw [dif_neg hi]
    refine find_none.2 fun x hx hxk => ?_
    obtain ⟨i, hil, rfl⟩ := List.getElem_of_mem hx
    have := (cnt_iff (low_bl k) h hil).1 (by show i < belowN l k; omega)
    simp only [hxk, bl_irrefl] at this
    cases this
/-- A part is a cut. -/
theorem part_cut {l : List Cel} (h : Srt l) {r : Rng} (hr : right r = true) : partC l r = (l.take (cntC l (ahead r))).drop (belowN l r.f) := by
  have la : Low (ahead r) := fun a b h1 h2 => by
    unfold ahead at h2 ⊢
    cases hE : r.e with
    | false => rfl
    | true =>
      rw [hE] at h2
      exact bl_trans h1 (by simpa using h2)
  have s1 := (low_split la h).1
  have ht : Srt (l.take (cntC l (ahead r))) := by rw [← s1]; exact h.filter _
  have s2 := (low_split (low_bl r.f) ht).2
  have e1 : partC l r = (l.filter fun x => ahead r x.1).filter fun x => !bl x.1 r.f := by
    unfold partC
    rw [List.filter_filter]
    congr 1
    funext x
    rw [has_eq, hr, Bool.true_and, ble_not]
  rw [e1, s1, s2]
  have hc : cntC (l.take (cntC l (ahead r))) (fun x => bl x r.f) = min (belowN l r.f) (cntC l (ahead r)) := by
    unfold belowN
    show (List.filter (fun x => bl x.1 r.f) (l.take (cntC l (ahead r)))).length = _
    rw [← s1, List.filter_filter]
    rcases Nat.le_total (cntC l fun x => bl x r.f) (cntC l (ahead r)) with hle | hle
    · rw [Nat.min_eq_left hle]
      have : (l.filter fun x => bl x.1 r.f && ahead r x.1) = l.filter fun x => bl x.1 r.f := by
        refine List.filter_congr fun x hx => ?_
        obtain ⟨i, hi, rfl⟩ := List.getElem_of_mem hx
        cases hb : bl (l[i]).1 r.f with
        | false => rfl
        | true =>
          have k1 := (cnt_iff (low_bl r.f) h hi).2 hb
          have k2 := (cnt_iff la h hi).1 (Nat.lt_of_lt_of_le k1 hle)
          rw [k2]
          rfl
      rw [this]
      rfl
    · rw [Nat.min_eq_right hle]
      have : (l.filter fun x => bl x.1 r.f && ahead r x.1) = l.filter fun x => ahead r x.1 := by
        refine List.filter_congr fun x hx => ?_
        obtain ⟨i, hi, rfl⟩ := List.getElem_of_mem hx
        cases hb : ahead r (l[i]).1 with
        | false => simp
        | true =>
          have k1 := (cnt_iff la h hi).2 hb
          have k2 := (cnt_iff (low_bl r.f) h hi).1 (Nat.lt_of_lt_of_le k1 hle)
          rw [k2]
          rfl
      rw [this]
      rfl
  rw [hc]
  rcases Nat.le_total (belowN l r.f) (cntC l (ahead r)) with hle | hle
  · rw [Nat.min_eq_left hle]
  · rw [Nat.min_eq_right hle, List.drop_eq_nil_of_le (by rw [List.length_take]; omega), List.drop_eq_nil_of_le (by rw [List.length_take]; omega)]

/-- The half: the first place from 1 on, the last one at most, up to which half of all lies. -/
structure HalfC (l : List Cel) (n : Nat) : Prop where
  one : 1 ≤ n
  last : n + 1 ≤ l.length
  low : ∀ m, 1 ≤ m → m < n → 2 * sizeC (l.take m) < sizeC l
  high : n + 1 = l.length ∨ sizeC l ≤ 2 * sizeC (l.take n)
theorem HalfC.unique {l : List Cel} {n m : Nat} (h : HalfC l n) (k : HalfC l m) : n = m := by
  have h1 := h.one
  have k1 := k.one
  have h2 := h.last
  have k2 := k.last
  rcases Nat.lt_trichotomy n m with hlt | he | hgt
  · have := k.low n h1 hlt
    rcases h.high with e | e <;> omega
  · exact he
  · have := h.low m k1 hgt
    rcases k.high with e | e <;> omega
theorem size_take (l : List Cel) (n : Nat) (h : n < l.length) : sizeC (l.take (n + 1)) = sizeC (l.take n) + 4 + (l[n]).1.length + (l[n]).2.length := by
  rw [List.take_succ_eq_append_getElem h, sizeC_append, sizeC_cons]
  show _ + (4 + _ + _ + 0) = _
  omega
end Go.Proofs.Ytbganaaiaokfmaa
