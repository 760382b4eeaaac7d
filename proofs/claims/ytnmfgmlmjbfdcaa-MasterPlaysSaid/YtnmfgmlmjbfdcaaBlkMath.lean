/-
  A device's bytes as lists: pieces, what is laid over them, texts with bytes 0 behind them; the device of the document, as its code keeps it. No program is read here.
-/
import Derived.Test.YtnmfgmlmjbfdcaaBase
namespace Go.Proofs.Ytnmfgmlmjbfdcaa
open Go.RowKit

section
variable {α : Type}
/-- n places from o on. -/
def seg (L : List α) (o n : Nat) : List α := (L.drop o).take n

theorem seg_length (L : List α) (o n : Nat) (h : o + n ≤ L.length) : (seg L o n).length = n := by
  unfold seg; rw [List.length_take, List.length_drop]; omega
theorem seg_get (L : List α) (o n j : Nat) : (seg L o n)[j]? = if j < n then L[o + j]? else none := by
  unfold seg; rw [List.getElem?_take]; split
  · rw [List.getElem?_drop]
  · rfl
theorem splice_get (L : List α) (o : Nat) (cs : List α) (h : o + cs.length ≤ L.length) (i : Nat) :
    (splice L o cs)[i]? = if o ≤ i ∧ i < o + cs.length then cs[i - o]? else L[i]? := by
  unfold splice
  have hl : (L.take o).length = o := by rw [List.length_take]; omega
  by_cases h1 : i < o
  · rw [if_neg (by omega), List.getElem?_append_left (by omega), List.getElem?_take, if_pos h1]
  · rw [List.getElem?_append_right (by omega), hl]
    by_cases h2 : i < o + cs.length
    · rw [if_pos (by omega), List.getElem?_append_left (by omega)]
    · rw [if_neg (by omega), List.getElem?_append_right (by omega), List.getElem?_drop]
      congr 1; omega
theorem splice_length (L : List α) (o : Nat) (cs : List α) (h : o + cs.length ≤ L.length) : (splice L o cs).length = L.length := length_splice L o cs h
theorem seg_splice_same (L : List α) (o : Nat) (cs : List α) (h : o + cs.length ≤ L.length) {n : Nat} (hn : cs.length = n) : seg (splice L o cs) o n = cs := by
  subst hn
  apply List.ext_getElem?
  intro j
  rw [seg_get]
  by_cases hj : j < cs.length
  · rw [if_pos hj, splice_get L o cs h, if_pos (by omega)]
    congr 1; omega
  · rw [if_neg hj, List.getElem?_eq_none (by omega)]
theorem seg_splice_far (L : List α) (o : Nat) (cs : List α) (h : o + cs.length ≤ L.length) (o' n : Nat) (hf : o' + n ≤ o ∨ o + cs.length ≤ o') : seg (splice L o cs) o' n = seg L o' n := by
  apply List.ext_getElem?
  intro j
  rw [seg_get, seg_get]
  by_cases hj : j < n
  · rw [if_pos hj, if_pos hj, splice_get L o cs h, if_neg (by omega)]
  · rw [if_neg hj, if_neg hj]
theorem seg_seg (L : List α) (o n p m : Nat) (h : p + m ≤ n) : seg (seg L o n) p m = seg L (o + p) m := by
  apply List.ext_getElem?
  intro j
  rw [seg_get, seg_get, seg_get]
  by_cases hj : j < m
  · rw [if_pos hj, if_pos hj, if_pos (by omega), Nat.add_assoc]
  · rw [if_neg hj, if_neg hj]
theorem seg_splice_in (L : List α) (o : Nat) (cs : List α) (h : o + cs.length ≤ L.length) (o' n : Nat) (h1 : o ≤ o') (h2 : o' + n ≤ o + cs.length) : seg (splice L o cs) o' n = seg cs (o' - o) n := by
  apply List.ext_getElem?
  intro j
  rw [seg_get, seg_get]
  by_cases hj : j < n
  · rw [if_pos hj, if_pos hj, splice_get L o cs h, if_pos (by omega)]
    congr 1; omega
  · rw [if_neg hj, if_neg hj]
theorem splice_map {β : Type} (f : α → β) (L : List α) (o : Nat) (cs : List α) : (splice L o cs).map f = splice (L.map f) o (cs.map f) := by
  simp [splice, List.map_take, List.map_drop]
theorem splice_left (L X : List α) (o : Nat) (cs : List α) (h : o + cs.length ≤ L.length) : splice (L ++ X) o cs = splice L o cs ++ X := by
  unfold splice
  rw [List.take_append_of_le_length (by omega), List.drop_append_of_le_length h, List.append_assoc, List.append_assoc]
theorem splice_seg_self (L : List α) (o n : Nat) (h : o + n ≤ L.length) : splice L o (seg L o n) = L := by
  apply List.ext_getElem?
  intro i
  rw [splice_get L o _ (by rw [seg_length L o n h]; exact h), seg_length L o n h]
  split
  · rename_i hi
    rw [seg_get, if_pos (by omega)]
    congr 1; omega
  · rfl
theorem splice_nil (L : List α) (o : Nat) : splice L o [] = L := by simp [splice]
/-- One laid behind the other. -/
theorem splice_splice (L : List α) (o : Nat) (a b : List α) (h : o + a.length + b.length ≤ L.length) : splice (splice L o a) (o + a.length) b = splice L o (a ++ b) := by
  apply List.ext_getElem?
  intro i
  rw [splice_get _ _ _ (by rw [splice_length L o a (by omega)]; omega), splice_get L o a (by omega), splice_get L o _ (by rw [List.length_append]; omega), List.length_append]
  by_cases h1 : o ≤ i ∧ i < o + a.length
  · rw [if_neg (by omega), if_pos h1, if_pos (by omega), List.getElem?_append_left (by omega)]
  · by_cases h2 : o + a.length ≤ i ∧ i < o + a.length + b.length
    · rw [if_pos h2, if_pos (by omega), List.getElem?_append_right (by omega)]
      congr 1; omega
    · rw [if_neg h2, if_neg h1, if_neg (by omega)]
theorem eq_of_segs {A B : List α} (n m : Nat) (hA : A.length = n * m) (hB : B.length = n * m) (h : ∀ b, b < n → seg A (b * m) m = seg B (b * m) m) : A = B := by
  apply List.ext_getElem?
  intro i
  by_cases hi : i < n * m
  · have hm : 0 < m := Nat.pos_of_ne_zero fun e => by subst e; simp at hi
    have hb : i / m < n := by rw [Nat.div_lt_iff_lt_mul hm]; exact hi
    have hj : i % m < m := Nat.mod_lt _ hm
    have e : i / m * m + i % m = i := by rw [Nat.mul_comm]; exact Nat.div_add_mod i m
    have := congrArg (fun l => l[i % m]?) (h (i / m) hb)
    simp only [seg_get, if_pos hj, e] at this
    exact this
  · rw [List.getElem?_eq_none (by omega), List.getElem?_eq_none (by omega)]
end

/-- Two blocks, one ahead of the other. -/
theorem blocks_far {b c : Nat} (m : Nat) (h : b ≠ c) : b * m + m ≤ c * m ∨ c * m + m ≤ b * m := by
  rcases Nat.lt_or_gt_of_ne h with h | h
  · left
    have := Nat.mul_le_mul_right m (show b + 1 ≤ c from h)
    rw [Nat.succ_mul] at this; exact this
  · right
    have := Nat.mul_le_mul_right m (show c + 1 ≤ b from h)
    rw [Nat.succ_mul] at this; exact this
theorem block_in {b n : Nat} (m : Nat) (h : b < n) : b * m + m ≤ n * m := by
  have := Nat.mul_le_mul_right m (show b + 1 ≤ n from h)
  rw [Nat.succ_mul] at this; exact this

/-- A text's bytes, with bytes 0 behind them: n of them. -/
def pad (n : Nat) (s : List UInt8) : List UInt8 := s.take n ++ List.replicate (n - s.length) 0
theorem pad_length (n : Nat) (s : List UInt8) : (pad n s).length = n := by
  unfold pad; rw [List.length_append, List.length_take, List.length_replicate]; omega
theorem pad_get (n : Nat) (s : List UInt8) (j : Nat) (h : j < n) : (pad n s)[j]? = some (s[j]?.getD 0) := by
  unfold pad
  by_cases hj : j < s.length
  · rw [List.getElem?_append_left (by rw [List.length_take]; omega), List.getElem?_take, if_pos h, List.getElem?_eq_getElem hj]; rfl
  · rw [List.getElem?_append_right (by rw [List.length_take]; omega), List.getElem?_replicate, List.length_take, if_pos (by omega), List.getElem?_eq_none (by omega)]; rfl
theorem pad_full (n : Nat) (s : List UInt8) (h : s.length = n) : pad n s = s := by
  unfold pad; rw [List.take_of_length_le (by omega), h, Nat.sub_self]; simp
theorem seg_pad (n : Nat) (s : List UInt8) (o m : Nat) (h : o + m ≤ n) : seg (pad n s) o m = pad m (s.drop o) := by
  apply List.ext_getElem?
  intro j
  rw [seg_get]
  by_cases hj : j < m
  · rw [if_pos hj, pad_get n s _ (by omega), pad_get m _ j hj, List.getElem?_drop]
  · rw [if_neg hj, List.getElem?_eq_none (by rw [pad_length]; omega)]
theorem drop_min (s : List UInt8) (k : Nat) : s.drop (min k s.length) = s.drop k := by
  by_cases h : k ≤ s.length
  · rw [Nat.min_eq_left h]
  · rw [Nat.min_eq_right (by omega), List.drop_of_length_le (Nat.le_refl _), List.drop_of_length_le (by omega)]

/-- The bytes of a text. -/
abbrev txt (s : ByteArray) : List UInt8 := s.data.toList
theorem txt_length (s : ByteArray) : (txt s).length = s.size := rfl

/-- The blocks of the pending writes, taken from the one side to the other. -/
def settle (sz : Nat) (frm : List UInt8) (pend : List (Nat × ByteArray)) (to : List UInt8) : List UInt8 :=
  pend.foldl (fun t p => splice t (p.1 * sz) (seg frm (p.1 * sz) sz)) to
/-- What a power loss keeps of one sector. -/
def keepSec (sz : Nat) (b : Nat) (s : ByteArray) (m : Nat) (dur : List UInt8) (k : Nat) : List UInt8 :=
  if m / 2 ^ (k % 64) % 2 = 1 then splice dur (b * sz + k * 64) (pad 64 ((txt s).drop (k * 64))) else dur
/-- Of one write. -/
def keepOne (ns : Nat) (dur : List UInt8) (p : Nat × ByteArray) (m : Nat) : List UInt8 :=
  (List.range ns).foldl (keepSec (ns * 64) p.1 p.2 m) dur
/-- Of all of them. -/
def keepAll (ns : Nat) (dur : List UInt8) (pend : List (Nat × ByteArray)) (keep : List Nat) : List UInt8 :=
  (pend.zip keep).foldl (fun d x => keepOne ns d x.1 x.2) dur

theorem settle_length (sz n : Nat) (frm : List UInt8) (hf : frm.length = n * sz) : ∀ (pend : List (Nat × ByteArray)) (to : List UInt8), to.length = n * sz → (∀ p ∈ pend, p.1 < n) → (settle sz frm pend to).length = n * sz
  | [], to, h, _ => h
  | p :: r, to, h, hp => by
    have hb := block_in sz (hp p (by simp))
    exact settle_length sz n frm hf r _ (by rw [splice_length _ _ _ (by rw [seg_length _ _ _ (by omega)]; omega)]; exact h) fun q hq => hp q (by simp [hq])
theorem settle_snoc (sz : Nat) (frm : List UInt8) (l : List (Nat × ByteArray)) (p : Nat × ByteArray) (to : List UInt8) :
    settle sz frm (l ++ [p]) to = splice (settle sz frm l to) (p.1 * sz) (seg frm (p.1 * sz) sz) := by
  simp [settle]
/-- A block that no write is pending for stays; the others are those of the other side. -/
theorem settle_seg (sz n : Nat) (frm : List UInt8) (hf : frm.length = n * sz) : ∀ (pend : List (Nat × ByteArray)) (to : List UInt8), to.length = n * sz → (∀ p ∈ pend, p.1 < n) → ∀ b, b < n →
    seg (settle sz frm pend to) (b * sz) sz = if b ∈ pend.map (·.1) then seg frm (b * sz) sz else seg to (b * sz) sz
  | [], to, h, _, b, _ => by simp [settle]
  | p :: r, to, h, hp, b, hb => by
    have hpb := block_in sz (hp p (by simp))
    have hl : (seg frm (p.1 * sz) sz).length = sz := seg_length _ _ _ (by omega)
    have hi := settle_seg sz n frm hf r (splice to (p.1 * sz) (seg frm (p.1 * sz) sz)) (by rw [splice_length _ _ _ (by rw [hl]; omega)]; exact h) (fun q hq => hp q (by simp [hq])) b hb
    have e : settle sz frm (p :: r) to = settle sz frm r (splice to (p.1 * sz) (seg frm (p.1 * sz) sz)) := rfl
    rw [e, hi]
    by_cases h1 : b ∈ r.map (·.1)
    · rw [if_pos h1, if_pos (by simp only [List.map_cons, List.mem_cons]; exact Or.inr h1)]
    · rw [if_neg h1]
      by_cases h2 : b = p.1
      · subst h2
        rw [if_pos (by simp), seg_splice_same _ _ _ (by rw [hl]; omega) hl]
      · rw [if_neg (by simp only [List.map_cons, List.mem_cons]; rintro (h | h); exact h2 h; exact h1 h), seg_splice_far _ _ _ (by rw [hl]; omega)]
        rcases blocks_far sz h2 with h | h
        · left; exact h
        · right; rw [hl]; exact h

/-- A sector: k of block b. -/
theorem sec_in {ns b n k : Nat} (hb : b < n) (hk : k < ns) : b * (ns * 64) + k * 64 + 64 ≤ n * (ns * 64) := by
  have := block_in (ns * 64) hb
  have : k * 64 + 64 ≤ ns * 64 := by omega
  omega
theorem keepSec_length (ns n b : Nat) (s : ByteArray) (m : Nat) (dur : List UInt8) (k : Nat) (hb : b < n) (hk : k < ns) (hd : dur.length = n * (ns * 64)) : (keepSec (ns * 64) b s m dur k).length = n * (ns * 64) := by
  unfold keepSec
  have := sec_in (ns := ns) hb hk
  split
  · rw [splice_length _ _ _ (by rw [pad_length]; omega)]; exact hd
  · exact hd
theorem keepSec_seg (ns n b : Nat) (s : ByteArray) (m : Nat) (dur : List UInt8) (k : Nat) (hb : b < n) (hk : k < ns) (hd : dur.length = n * (ns * 64)) (b' k' : Nat) (hk' : k' < ns) :
    seg (keepSec (ns * 64) b s m dur k) (b' * (ns * 64) + k' * 64) 64 = if b' = b ∧ k' = k ∧ m / 2 ^ (k % 64) % 2 = 1 then pad 64 ((txt s).drop (k * 64)) else seg dur (b' * (ns * 64) + k' * 64) 64 := by
  have hin := sec_in (ns := ns) hb hk
  unfold keepSec
  by_cases h : m / 2 ^ (k % 64) % 2 = 1
  · rw [if_pos h]
    by_cases h2 : b' = b ∧ k' = k
    · obtain ⟨rfl, rfl⟩ := h2
      rw [if_pos ⟨rfl, rfl, h⟩, seg_splice_same _ _ _ (by rw [pad_length]; omega) (pad_length _ _)]
    · rw [if_neg (fun x => h2 ⟨x.1, x.2.1⟩), seg_splice_far _ _ _ (by rw [pad_length]; omega)]
      rw [pad_length]
      by_cases h3 : b' = b
      · subst h3
        have : k' ≠ k := fun e => h2 ⟨rfl, e⟩
        omega
      · have := blocks_far (ns * 64) h3
        omega
  · rw [if_neg h, if_neg (fun x => h x.2.2)]
theorem keepFold_spec (ns n b : Nat) (s : ByteArray) (m : Nat) (hb : b < n) (dur : List UInt8) (hd : dur.length = n * (ns * 64)) : ∀ j, j ≤ ns →
    ((List.range j).foldl (keepSec (ns * 64) b s m) dur).length = n * (ns * 64) ∧ ∀ b' k', k' < ns →
      seg ((List.range j).foldl (keepSec (ns * 64) b s m) dur) (b' * (ns * 64) + k' * 64) 64 = if b' = b ∧ k' < j ∧ m / 2 ^ (k' % 64) % 2 = 1 then pad 64 ((txt s).drop (k' * 64)) else seg dur (b' * (ns * 64) + k' * 64) 64
  | 0, _ => by
    refine ⟨hd, fun b' k' _ => ?_⟩
    rw [if_neg (by omega)]; rfl
  | j + 1, hj => by
    obtain ⟨h1, h2⟩ := keepFold_spec ns n b s m hb dur hd j (by omega)
    rw [List.range_succ, List.foldl_append]
    show (keepSec (ns * 64) b s m ((List.range j).foldl (keepSec (ns * 64) b s m) dur) j).length = _ ∧ ∀ b' k', k' < ns → seg (keepSec (ns * 64) b s m ((List.range j).foldl (keepSec (ns * 64) b s m) dur) j) _ _ = _
    refine ⟨keepSec_length ns n b s m _ j hb (by omega) h1, fun b' k' hk' => ?_⟩
    rw [keepSec_seg ns n b s m _ j hb (by omega) h1 b' k' hk', h2 b' k' hk']
    by_cases hkj : k' = j
    · subst hkj
      by_cases hc : b' = b ∧ m / 2 ^ (k' % 64) % 2 = 1
      · rw [if_pos ⟨hc.1, rfl, hc.2⟩, if_pos ⟨hc.1, by omega, hc.2⟩]
      · rw [if_neg (fun x => hc ⟨x.1, x.2.2⟩), if_neg (by omega), if_neg (fun x => hc ⟨x.1, x.2.2⟩)]
    · rw [if_neg (fun x => hkj x.2.1)]
      by_cases hc : b' = b ∧ k' < j ∧ m / 2 ^ (k' % 64) % 2 = 1
      · rw [if_pos hc, if_pos ⟨hc.1, by omega, hc.2.2⟩]
      · rw [if_neg hc, if_neg (fun x => hc ⟨x.1, by omega, x.2.2⟩)]
theorem keepOne_length {ns n : Nat} {dur : List UInt8} {p : Nat × ByteArray} {m : Nat} (hp : p.1 < n) (hd : dur.length = n * (ns * 64)) : (keepOne ns dur p m).length = n * (ns * 64) :=
  (keepFold_spec ns n p.1 p.2 m hp dur hd ns (Nat.le_refl _)).1
theorem keepOne_seg {ns n : Nat} {dur : List UInt8} {p : Nat × ByteArray} {m : Nat} (hp : p.1 < n) (hd : dur.length = n * (ns * 64)) (b k : Nat) (hk : k < ns) :
    seg (keepOne ns dur p m) (b * (ns * 64) + k * 64) 64 = if b = p.1 ∧ m / 2 ^ (k % 64) % 2 = 1 then pad 64 ((txt p.2).drop (k * 64)) else seg dur (b * (ns * 64) + k * 64) 64 := by
  refine ((keepFold_spec ns n p.1 p.2 m hp dur hd ns (Nat.le_refl _)).2 b k hk).trans ?_
  by_cases h : b = p.1 ∧ m / 2 ^ (k % 64) % 2 = 1
  · rw [if_pos h, if_pos ⟨h.1, hk, h.2⟩]
  · rw [if_neg h, if_neg (fun x => h ⟨x.1, x.2.2⟩)]
theorem keepAll_length {ns n : Nat} : ∀ (pend : List (Nat × ByteArray)) (keep : List Nat) (dur : List UInt8), (∀ p ∈ pend, p.1 < n) → dur.length = n * (ns * 64) → (keepAll ns dur pend keep).length = n * (ns * 64)
  | [], _, dur, _, hd => by simpa [keepAll] using hd
  | _ :: _, [], dur, _, hd => by simpa [keepAll] using hd
  | p :: r, m :: ks, dur, hp, hd => by
    have := keepAll_length r ks (keepOne ns dur p m) (fun q hq => hp q (by simp [hq])) (keepOne_length (hp p (by simp)) hd)
    simpa [keepAll] using this
theorem keepAll_cons (ns : Nat) (dur : List UInt8) (p : Nat × ByteArray) (r : List (Nat × ByteArray)) (m : Nat) (ks : List Nat) : keepAll ns dur (p :: r) (m :: ks) = keepAll ns (keepOne ns dur p m) r ks := rfl
/-- Behind a power loss each sector is that of a write that was pending, or the durable one. -/
theorem keepAll_sec {ns n : Nat} : ∀ (pend : List (Nat × ByteArray)) (keep : List Nat) (dur : List UInt8), (∀ p ∈ pend, p.1 < n) → dur.length = n * (ns * 64) → ∀ b k, k < ns →
    seg (keepAll ns dur pend keep) (b * (ns * 64) + k * 64) 64 = seg dur (b * (ns * 64) + k * 64) 64 ∨ ∃ p ∈ pend, p.1 = b ∧ seg (keepAll ns dur pend keep) (b * (ns * 64) + k * 64) 64 = pad 64 ((txt p.2).drop (k * 64))
  | [], _, dur, _, _, b, k, _ => .inl (by simp [keepAll])
  | _ :: _, [], dur, _, _, b, k, _ => .inl (by simp [keepAll])
  | p :: r, m :: ks, dur, hp, hd, b, k, hk => by
    rw [keepAll_cons]
    rcases keepAll_sec r ks (keepOne ns dur p m) (fun q hq => hp q (by simp [hq])) (keepOne_length (hp p (by simp)) hd) b k hk with h | ⟨q, hq, h1, h2⟩
    · rw [keepOne_seg (hp p (by simp)) hd b k hk] at h
      split at h
      · rename_i hc
        exact .inr ⟨p, by simp, hc.1.symm, h⟩
      · exact .inl h
    · exact .inr ⟨q, by simp [hq], h1, h2⟩
/-- A block is its sectors. -/
theorem eq_of_secs {A B : List UInt8} {ns : Nat} (b : Nat) (h : ∀ k, k < ns → seg A (b * (ns * 64) + k * 64) 64 = seg B (b * (ns * 64) + k * 64) 64) : seg A (b * (ns * 64)) (ns * 64) = seg B (b * (ns * 64)) (ns * 64) := by
  apply List.ext_getElem?
  intro i
  rw [seg_get, seg_get]
  by_cases hi : i < ns * 64
  · rw [if_pos hi, if_pos hi]
    have hj : i % 64 < 64 := Nat.mod_lt _ (by decide)
    have := congrArg (fun l => l[i % 64]?) (h (i / 64) (by omega))
    simp only [seg_get, if_pos hj] at this
    rwa [show b * (ns * 64) + i / 64 * 64 + i % 64 = b * (ns * 64) + i by omega] at this
  · rw [if_neg hi, if_neg hi]
theorem keepAll_other {ns n : Nat} (pend : List (Nat × ByteArray)) (keep : List Nat) (dur : List UInt8) (hp : ∀ p ∈ pend, p.1 < n) (hd : dur.length = n * (ns * 64)) (b : Nat) (hb : b ∉ pend.map (·.1)) :
    seg (keepAll ns dur pend keep) (b * (ns * 64)) (ns * 64) = seg dur (b * (ns * 64)) (ns * 64) :=
  eq_of_secs b fun k hk => by
    rcases keepAll_sec pend keep dur hp hd b k hk with h | ⟨p, hq, h1, _⟩
    · exact h
    · exact absurd (List.mem_map.2 ⟨p, hq, h1⟩) hb
end Go.Proofs.Ytnmfgmlmjbfdcaa
