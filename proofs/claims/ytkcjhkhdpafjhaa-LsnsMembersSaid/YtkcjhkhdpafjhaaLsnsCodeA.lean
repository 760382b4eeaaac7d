/-
  The walks over package lsns: Right, the search for a number's place, Has, Most, Same.
-/
import Derived.Test.YtkcjhkhdpafjhaaLsnsRef
namespace Go.Proofs.Ytkcjhkhdpafjhaa
open Go.RowKit

theorem asc_snoc (x : Nat) : ∀ (lo : Nat) (a : List Nat), asc lo a = true → asc lo (a ++ [x]) = decide (a.getLast?.getD lo < x)
  | lo, [], _ => by
    show (decide (lo < x) && true) = decide (lo < x)
    exact Bool.and_true _
  | lo, y :: a, h => by
    rw [asc_cons] at h
    rw [List.cons_append, asc, decide_eq_true h.1, Bool.true_and, asc_snoc x y a h.2, List.getLast?_cons]
    rfl
theorem asc_lt : ∀ {lo : Nat} {l : List Nat}, asc lo l = true → ∀ i j (hij : i < j) (hj : j < l.length), l[i] < l[j]
  | _, [], _, _, _, _, hj => by simp at hj
  | lo, y :: l, h, 0, j + 1, _, hj => by
    rw [asc_cons] at h
    exact asc_mem h.2 _ (List.getElem_mem _)
  | lo, y :: l, h, i + 1, j + 1, hij, hj => by
    rw [asc_cons] at h
    exact asc_lt h.2 i j (by omega) (by simpa using hj)

/-- How many numbers are below m. -/
def pos (m : Nat) : List Nat → Nat
  | [] => 0
  | x :: l => if x < m then pos m l + 1 else 0
theorem pos_of (m : Nat) : ∀ (l : List Nat) (r : Nat), r ≤ l.length → (∀ t (h : t < l.length), t < r → l[t] < m) → (∀ t (h : t < l.length), r ≤ t → m ≤ l[t]) → pos m l = r
  | [], r, h, _, _ => by simp at h; subst h; rfl
  | x :: l, 0, _, _, h2 => by
    have := h2 0 (by simp) (Nat.le_refl _)
    rw [pos, if_neg (by simp at this; omega)]
  | x :: l, r + 1, h, h1, h2 => by
    have := h1 0 (by simp) (by omega)
    rw [pos, if_pos (by simpa using this), pos_of m l r (by simpa using h) (fun t ht hr => h1 (t + 1) (by simpa using ht) (by omega)) (fun t ht hr => h2 (t + 1) (by simpa using ht) (by omega))]
theorem pos_le (m : Nat) : ∀ l : List Nat, pos m l ≤ l.length
  | [] => Nat.le_refl _
  | x :: l => by
    have := pos_le m l
    rw [pos]
    split <;> simp <;> omega
theorem pos_lt (m : Nat) : ∀ (l : List Nat) t (h : t < l.length), t < pos m l → l[t] < m
  | [], _, h, _ => by simp at h
  | x :: l, t, h, hp => by
    rw [pos] at hp
    split at hp
    · cases t with
      | zero => simpa
      | succ t => simpa using pos_lt m l t (by simpa using h) (by omega)
    · omega
theorem pos_ge {lo : Nat} {l : List Nat} (m : Nat) (h : asc lo l = true) : ∀ t (ht : t < l.length), pos m l ≤ t → m ≤ l[t] := by
  induction l generalizing lo with
  | nil => intro t ht; simp at ht
  | cons x l ih =>
    rw [asc_cons] at h
    intro t ht hp
    rw [pos] at hp
    split at hp
    · cases t with
      | zero => omega
      | succ t => simpa using ih h.2 t (by simpa using ht) (by omega)
    · cases t with
      | zero => simp; omega
      | succ t =>
        have := asc_mem h.2 _ (List.getElem_mem (by simpa using ht : t < l.length))
        simp; omega
theorem pos_take (m : Nat) (l : List Nat) : ∀ x ∈ l.take (pos m l), x < m := by
  intro x hx
  obtain ⟨i, hi, rfl⟩ := List.mem_take_iff_getElem.1 hx
  exact pos_lt m l i (by omega) (by omega)
theorem pos_drop {lo : Nat} {l : List Nat} (m : Nat) (h : asc lo l = true) : ∀ x ∈ l.drop (pos m l), m ≤ x := by
  intro x hx
  obtain ⟨i, hi, rfl⟩ := List.mem_drop_iff_getElem.1 hx
  exact pos_ge m h _ _ (by omega)
theorem pos_out {l : List Nat} (m : Nat) (hp : pos m l = l.length) : l.contains m = false := by
  rw [Bool.eq_false_iff, ne_eq, List.contains_iff_mem]
  intro hm
  obtain ⟨i, hi, e⟩ := List.mem_iff_getElem.1 hm
  have := pos_lt m l i hi (by omega)
  omega
theorem pos_in {lo : Nat} {l : List Nat} (m : Nat) (h : asc lo l = true) (hp : pos m l < l.length) : l.contains m = decide (l[pos m l] = m) := by
  rw [Bool.eq_iff_iff, List.contains_iff_mem, decide_eq_true_eq]
  constructor
  · intro hm
    obtain ⟨i, hi, e⟩ := List.mem_iff_getElem.1 hm
    rcases Nat.lt_trichotomy i (pos m l) with k | k | k
    · have := pos_lt m l i hi k; omega
    · subst k; exact e
    · have := asc_lt h _ _ k hi
      have := pos_ge m h _ hp (Nat.le_refl _)
      omega
  · intro e
    exact e ▸ List.getElem_mem _

set_option maxRecDepth 100000 in
set_option maxHeartbeats 1000000 in
theorem right_any (x : LV) (w : World) (h : x.In w) (hn : x.n ≤ 9223372036854775807) :
    Calls Try.prog 12 #[x.v] w fun r w' => r = .returned (.bool x.s.right) ∧ Below w.heap.size w w' := by
  obtain ⟨low, A, n, c, l⟩ := x
  obtain ⟨hl, hc, _, _, _, hr⟩ := h
  simp only at hl hc hr hn
  subst hl
  have HN := Lib.hid (below_new w (.cells #[.int .u64 (low : Int), .slice A l.length c] 25))
  have HR := Lib.hid (hr.alloc (.cells #[.int .u64 (low : Int), .slice A l.length c] 25))
  have HL := Lib.hid (LiesS.new w low A l.length c)
  show Calls Try.prog _ #[.agg #[.int .u64 (low : Int), .slice A l.length c]] w fun r w' => r = .returned (.bool (LS.right ⟨low, l⟩)) ∧ Below w.heap.size w w'
  unfold LS.right
  simp only
  by_cases hbig : l.length ≤ 1000
  · rw [decide_eq_true hbig, Bool.true_and]
    obtain ⟨W, hW⟩ : ∃ W, w.alloc (.cells #[.int .u64 (low : Int), .slice A l.length c] 25) = W := ⟨_, rfl⟩
    rw [hW] at HN HR HL
    have c0 := HL.out.c0
    have c1 := HL.out.c1
    go_enter Try.func12, Try.ntmps12
    go_wp2
    clear hr hW c0 c1
    go_loop [3, 15] (fun b i => ∃ k : Nat, k ≤ l.length ∧ i = .int .i64 k ∧ b = .int .u64 (((l.take k).getLast?.getD low : Nat) : Int) ∧ asc low (l.take k) = true) (fun _ i => l.length - (intOf i).toNat)
    case atStart => exact ⟨0, by omega, rfl, by simp, rfl⟩
    case round =>
      obtain ⟨k, hk, rfl, rfl, ha⟩ := hrel
      have HA := Lib.hid ha
      clear ha
      by_cases hlt : k < l.length
      · obtain ⟨g, off, rfl, hcell⟩ := HR.out.cells (by omega)
        have hk1 := hcell k hlt
        have HT := Lib.hid (rmost_take l low k hlt)
        have HS := Lib.hid (show asc low (l.take (k + 1)) = decide ((l.take k).getLast?.getD low < l[k]) by
          rw [List.take_succ_eq_append_getElem hlt]; exact asc_snoc _ _ _ HA.out)
        obtain ⟨y, hy⟩ : ∃ y, l[k] = y := ⟨_, rfl⟩
        obtain ⟨z, hz⟩ : ∃ z, (l.take k).getLast?.getD low = z := ⟨_, rfl⟩
        rw [hy] at hk1 HT HS
        rw [hz] at HS
        rw [hz]
        clear hy hcell hz
        by_cases e1 : y ≤ z
        · have HF := Lib.hid (show asc low l = false from asc_of_take (k + 1) (by rw [HS.out, decide_eq_false (by omega)]))
          have e2 : (y : Int) ≤ (z : Int) := by omega
          go_wp2
          go_ret
          exact ⟨by rw [HF.out]; rfl, HN.out⟩
        · have e2 : ¬ ((y : Int) ≤ (z : Int)) := by omega
          have HT2 := Lib.hid (show asc low (l.take (k + 1)) = true by rw [HS.out, decide_eq_true (by omega)])
          go_wp2
          go_round
          case rel => exact ⟨k + 1, by omega, by go_num, by rw [HT.out], HT2.out⟩
          case measure => simp [intOf]; omega
      · obtain rfl : k = l.length := by omega
        have HA2 := Lib.hid (show asc low l = true by have := HA.out; rwa [List.take_length] at this)
        go_wp2
        go_ret
        exact ⟨by rw [HA2.out]; rfl, HN.out⟩
  · rw [decide_eq_false hbig, Bool.false_and]
    go_enter Try.func12, Try.ntmps12
    go_wp2
    go_ret
    exact ⟨rfl, HN.out⟩

theorem ret_boolN {a b : Bool} (h : a = b) : Ending.returned (.bool a) = .returned (.bool b) := by rw [h]

set_option maxRecDepth 100000 in
set_option maxHeartbeats 1000000 in
/-- The closure that the search asks. -/
theorem place_closure (b0 b1 i m n c : Nat) (A : Option Addr) (l : List Nat) (w : World) (h0 : w.cell? ⟨b0, 0, none⟩ = some (.slice A n c)) (h1 : w.cell? ⟨b1, 0, none⟩ = some (.int .u64 (m : Int))) (hr : RN w A l) (hl : l.length = n) (hi : i < l.length) (hn : n ≤ 100000) :
    Calls Try.prog 49 #[.int .i64 (i : Int), .pointer (some ⟨b0, 0, none⟩), .pointer (some ⟨b1, 0, none⟩)] w fun e w' => e = .returned (.bool (decide (m ≤ l[i]))) ∧ ∃ q, w' = w.drewN q := by
  obtain ⟨g, off, rfl, hcell⟩ := hr.cells (by omega)
  have hk1 := hcell i hi
  obtain ⟨y, hy⟩ : ∃ y, l[i] = y := ⟨_, rfl⟩
  rw [hy] at hk1 ⊢
  clear hcell hy hr
  have hi2 : (i : Int) < (n : Int) := by omega
  have hi3 : (0 : Int) ≤ (i : Int) := by omega
  clear hl
  go_enter Try.func49, Try.ntmps49
  go_wp2_with (go_quiet (fail))
  go_wp2
  go_ret
  exact ⟨rfl, _, rfl⟩

set_option maxRecDepth 100000 in
set_option maxHeartbeats 2000000 in
theorem search_any (b0 b1 m n c : Nat) (A : Option Addr) (l : List Nat) (w : World) (h0 : w.cell? ⟨b0, 0, none⟩ = some (.slice A n c)) (h1 : w.cell? ⟨b1, 0, none⟩ = some (.int .u64 (m : Int))) (hr : RN w A l) (hl : l.length = n) (hn : n ≤ 100000) {lo0 : Nat} (ha : asc lo0 l = true) :
    Calls Try.prog 48 #[.int .i64 (n : Int), .func (.func 49) #[] #[.pointer (some ⟨b0, 0, none⟩), .pointer (some ⟨b1, 0, none⟩)]] w fun e w' => e = .returned (.int .i64 (pos m l : Nat)) ∧ ∃ q, w' = w.drewN q := by
  have HC := Lib.hid (fun (i : Nat) (hi : i < l.length) q => place_closure b0 b1 i m n c A l (w.drewN q) h0 h1 hr hl hi hn)
  have HA := Lib.hid ha
  have HL := Lib.hid hl
  clear h0 h1 hr hl ha
  go_enter Try.func48, Try.ntmps48
  go_wp2
  go_loopw [5, 6] (fun a b wr => ∃ lo hi q : Nat, a = .int .i64 lo ∧ b = .int .i64 hi ∧ lo ≤ hi ∧ hi ≤ n ∧ wr = w.drewN q ∧ Hid ((∀ t (h : t < l.length), t < lo → l[t] < m) ∧ (∀ t (h : t < l.length), hi ≤ t → m ≤ l[t]))) (fun a b _ => (intOf b - intOf a).toNat)
  case atStart => exact ⟨0, n, 0, rfl, rfl, by omega, Nat.le_refl _, rfl, Lib.hid ⟨fun t _ h => by omega, fun t h h2 => by rw [HL.out] at h; omega⟩⟩
  case round =>
    obtain ⟨lo, hi, q, rfl, rfl, hlh, hin, rfl, I⟩ := hrel
    by_cases hlt : lo < hi
    · have hki : (lo + hi) / 2 < l.length := by rw [HL.out]; omega
      have hc := HC.out ((lo + hi) / 2) hki q
      have HM := Lib.hid (fun t (h : t < l.length) (k : t < (lo + hi) / 2) => asc_lt HA.out t _ k hki)
      have HM2 := Lib.hid (fun t (h : t < l.length) (k : (lo + hi) / 2 < t) => asc_lt HA.out _ t k h)
      obtain ⟨y, hy⟩ : ∃ y, l[(lo + hi) / 2] = y := ⟨_, rfl⟩
      simp only [hy] at hc HM HM2
      have HY := Lib.hid hy
      clear hy
      rw [show (((lo + hi) / 2 : Nat) : Int) = ((lo : Int) + (hi : Int)) / 2 by omega] at hc
      by_cases e1 : m ≤ y
      · rw [decide_eq_true e1] at hc
        have I2 := Lib.hid (show (∀ t (h : t < l.length), t < lo → l[t] < m) ∧ (∀ t (h : t < l.length), (lo + hi) / 2 ≤ t → m ≤ l[t]) from ⟨I.out.1, fun t h k => by
          rcases Nat.lt_or_ge ((lo + hi) / 2) t with k2 | k2
          · have := HM2.out t h k2; omega
          · obtain rfl : t = (lo + hi) / 2 := by omega
            rw [HY.out]; exact e1⟩)
        have HCC := Lib.hid hc
        clear hc
        go_wp2_with (go_at_call 49; refine HCC.out.mono ?_; rintro e w' ⟨rfl, q2, rfl⟩)
        go_roundw
        case rel => exact ⟨lo, (lo + hi) / 2, q + q2, rfl, by rw [show (((lo + hi) / 2 : Nat) : Int) = ((lo : Int) + (hi : Int)) / 2 by omega], by omega, by omega, rfl, I2⟩
        case measure => simp [intOf]; omega
      · rw [decide_eq_false e1] at hc
        have I2 := Lib.hid (show (∀ t (h : t < l.length), t < (lo + hi) / 2 + 1 → l[t] < m) ∧ (∀ t (h : t < l.length), hi ≤ t → m ≤ l[t]) from ⟨fun t h k => by
          rcases Nat.lt_or_ge t ((lo + hi) / 2) with k2 | k2
          · have := HM.out t h k2; omega
          · obtain rfl : t = (lo + hi) / 2 := by omega
            rw [HY.out]; omega, I.out.2⟩)
        have HCC := Lib.hid hc
        clear hc
        go_wp2_with (go_at_call 49; refine HCC.out.mono ?_; rintro e w' ⟨rfl, q2, rfl⟩)
        go_roundw
        case rel => exact ⟨(lo + hi) / 2 + 1, hi, q + q2, by rw [show (((lo + hi) / 2 + 1 : Nat) : Int) = ((lo : Int) + (hi : Int)) / 2 + 1 by omega], rfl, by omega, by omega, rfl, I2⟩
        case measure => simp [intOf]; omega
    · obtain rfl : lo = hi := by omega
      have HP := Lib.hid (pos_of m l lo (by rw [HL.out]; omega) I.out.1 I.out.2)
      go_wp2
      go_ret
      exact ⟨by rw [HP.out]; rfl, q, rfl⟩

theorem keep_drewN (w : World) (q : Nat) : Below w.heap.size w (w.drewN q) := ⟨rfl, rfl, rfl, Nat.le_refl _, fun _ _ => rfl⟩

set_option maxRecDepth 100000 in
set_option maxHeartbeats 1000000 in
theorem position_any (m n c : Nat) (A : Option Addr) (l : List Nat) (w : World) (hr : RN w A l) (hl : l.length = n) (hn : n ≤ 100000) {lo0 : Nat} (ha : asc lo0 l = true) :
    Calls Try.prog 34 #[.slice A n c, .int .u64 (m : Int)] w fun e w' => e = .returned (.int .i64 (pos m l : Nat)) ∧ Below w.heap.size w w' := by
  have HB := Lib.hid ((below_new w (.cells #[.slice A n c] 23)).trans ((below_new _ (.cells #[.int .u64 (m : Int)] 22)).mono (by rw [size_new]; omega)))
  have h0 : ((w.alloc (.cells #[.slice A n c] 23)).alloc (.cells #[.int .u64 (m : Int)] 22)).cell? ⟨w.heap.size, 0, none⟩ = some (.slice A n c) := by
    simp
  have h1 : ((w.alloc (.cells #[.slice A n c] 23)).alloc (.cells #[.int .u64 (m : Int)] 22)).cell? ⟨w.heap.size + 1, 0, none⟩ = some (.int .u64 (m : Int)) := by
    simp
  have HS := Lib.hid (search_any w.heap.size (w.heap.size + 1) m n c A l _ h0 h1 ((hr.alloc (.cells #[.slice A n c] 23)).alloc (.cells #[.int .u64 (m : Int)] 22)) hl hn ha)
  clear hr ha h1
  have HL := Lib.hid hl
  clear hl
  go_enter Try.func34, Try.ntmps34
  go_wp2_with (go_at_call 48; refine HS.out.mono ?_; rintro e w' ⟨rfl, q2, rfl⟩)
  go_ret
  exact ⟨rfl, HB.out.trans ((keep_drewN _ _).mono HB.out.size)⟩

set_option maxRecDepth 100000 in
set_option maxHeartbeats 1000000 in
/-- contains, of a set that is right. -/
theorem contains_any (x : LV) (m : Nat) (w : World) (h : x.In w) (hR : x.s.right = true) :
    Calls Try.prog 31 #[x.v, .int .u64 (m : Int)] w fun r w' => r = .returned (.bool (decide (m ≤ x.low) || x.l.contains m)) ∧ Below w.heap.size w w' := by
  have hr1 := (LS.right_iff _).1 hR
  obtain ⟨low, A, n, c, l⟩ := x
  obtain ⟨hl, hc, hnil, HR⟩ := h.parts
  clear h
  simp only [LV.v, LV.s] at hr1 ⊢
  subst hl
  have HN := Lib.hid (below_new w (.cells #[.int .u64 (low : Int), .slice A l.length c] 25))
  have HR := Lib.hid (HR.out.alloc (.cells #[.int .u64 (low : Int), .slice A l.length c] 25))
  have HL := Lib.hid (LiesS.new w low A l.length c)
  obtain ⟨W, hW⟩ : ∃ W, w.alloc (.cells #[.int .u64 (low : Int), .slice A l.length c] 25) = W := ⟨_, rfl⟩
  rw [hW] at HN HR HL
  have c0 := HL.out.c0
  have c1 := HL.out.c1
  have HP := Lib.hid (position_any m l.length c A l W HR.out rfl (by omega) hr1.2)
  have HLE := pos_le m l
  have HOUT := Lib.hid (pos_out (l := l) m)
  have HIN := Lib.hid (pos_in m hr1.2)
  have hl63 : l.length ≤ 1000 := hr1.1
  clear hr1 hR
  by_cases e1 : m ≤ low
  · have e2 : (m : Int) ≤ (low : Int) := by omega
    rw [decide_eq_true e1, Bool.true_or]
    go_enter Try.func31, Try.ntmps31
    go_wp2
    go_ret
    exact ⟨rfl, HN.out⟩
  · have e2 : ¬ ((m : Int) ≤ (low : Int)) := by omega
    rw [decide_eq_false e1, Bool.false_or]
    by_cases e3 : pos m l < l.length
    · have hcon := HIN.out e3
      obtain ⟨g, off, rfl, hcell⟩ := HR.out.cells (by omega)
      obtain ⟨y, hy, hk0⟩ : ∃ y : Nat, l[pos m l] = y ∧ W.cell? ⟨g, off + pos m l, none⟩ = some (.int .u64 (y : Int)) := ⟨_, rfl, hcell _ e3⟩
      rw [hcon, hy]
      clear hcon HIN HOUT HLE hcell hy
      obtain ⟨p, hp⟩ : ∃ p, pos m l = p := ⟨_, rfl⟩
      rw [hp] at hk0 HP e3
      have hk := Lib.hid hk0
      have HD := Lib.hid (show ((y : Int) == (m : Int)) = decide (y = m) by rw [Bool.eq_iff_iff, beq_iff_eq, decide_eq_true_eq]; omega)
      clear hp hk0
      go_enter Try.func31, Try.ntmps31
      go_wp2_with fail
      refine HP.out.mono ?_
      rintro e w1 ⟨rfl, hb1⟩
      have HB1 := Lib.hid hb1
      have c1' := (HL.out.keeps hb1).c1
      have hk' := (hb1.cell (p := ⟨g, off + p, none⟩) (World.block_lt_of_cell? _ _ hk.out)).trans hk.out
      clear hb1 hW c0 c1
      go_wp2
      go_ret
      exact ⟨ret_boolN HD.out, HN.out.trans (HB1.out.mono HN.out.size)⟩
    · have hcon := HOUT.out (by omega)
      rw [hcon]
      obtain ⟨p, hp⟩ : ∃ p, pos m l = p := ⟨_, rfl⟩
      simp only [hp] at HP e3 HLE
      clear hcon HIN HOUT hp
      go_enter Try.func31, Try.ntmps31
      go_wp2_with fail
      refine HP.out.mono ?_
      rintro e w1 ⟨rfl, hb1⟩
      have HB1 := Lib.hid hb1
      have c1' := (HL.out.keeps hb1).c1
      clear hb1 hW c0 c1
      go_wp2
      go_ret
      exact ⟨rfl, HN.out.trans (HB1.out.mono HN.out.size)⟩

set_option maxRecDepth 100000 in
set_option maxHeartbeats 1000000 in
theorem has_any (x : LV) (m : Nat) (w : World) (h : x.In w) (hn : x.n ≤ 9223372036854775807) :
    Calls Try.prog 14 #[x.v, .int .u64 (m : Int)] w fun r w' => r = .returned (.bool (x.s.has m)) ∧ Below w.heap.size w w' := by
  have HE : x.s.has m = (x.s.right && (decide (m ≤ x.low) || x.l.contains m)) := rfl
  rw [HE]
  clear HE
  have HX := Lib.hid (fun w (h : x.In w) => right_any x w h hn)
  have HC := Lib.hid (fun w (h : x.In w) (hR : x.s.right = true) => contains_any x m w h hR)
  have HI := Lib.hid (h.alloc (.cells #[.int .u64 (x.low : Int), .slice x.A x.n x.c] 25))
  have HL := Lib.hid (LiesS.new w x.low x.A x.n x.c)
  have HN := Lib.hid (below_new w (.cells #[.int .u64 (x.low : Int), .slice x.A x.n x.c] 25))
  obtain ⟨W, hW⟩ : ∃ W, w.alloc (.cells #[.int .u64 (x.low : Int), .slice x.A x.n x.c] 25) = W := ⟨_, rfl⟩
  rw [hW] at HN HL HI
  obtain ⟨R, hR⟩ : ∃ R, x.s.right = R := ⟨_, rfl⟩
  obtain ⟨E, hE⟩ : ∃ E, (decide (m ≤ x.low) || x.l.contains m) = E := ⟨_, rfl⟩
  rw [hR] at HX HC ⊢
  rw [hE] at HC ⊢
  clear hR hE
  have c0 := HL.out.c0
  have c1 := HL.out.c1
  go_enter Try.func14, Try.ntmps14
  go_wp2_with fail
  clear c0 c1 hW
  refine (HX.out _ HI.out).mono ?_
  rintro e w1 ⟨rfl, hb1⟩
  have HB1 := Lib.hid hb1
  have c0 := (HL.out.keeps hb1).c0
  have c1 := (HL.out.keeps hb1).c1
  have HI1 := Lib.hid (HI.out.keeps hb1)
  clear hb1 HX HI HL
  cases R
  · go_wp2
    go_ret
    exact ⟨rfl, HN.out.trans (HB1.out.mono HN.out.size)⟩
  · go_wp2_with fail
    refine (HC.out _ HI1.out (by trivial)).mono ?_
    rintro e w2 ⟨rfl, hb2⟩
    have HB2 := Lib.hid hb2
    clear hb2 c0 c1
    go_wp2
    go_ret
    exact ⟨rfl, HN.out.trans ((HB1.out.trans (HB2.out.mono HB1.out.size)).mono HN.out.size)⟩

set_option maxRecDepth 100000 in
set_option maxHeartbeats 1000000 in
theorem most_any (x : LV) (w : World) (h : x.In w) (hn : x.n ≤ 9223372036854775807) :
    Calls Try.prog 16 #[x.v] w fun r w' => r = .returned (.int .u64 (x.s.most : Int)) ∧ Below w.heap.size w w' := by
  have HX := Lib.hid (fun w (h : x.In w) => right_any x w h hn)
  have HI := Lib.hid (h.alloc (.cells #[.int .u64 (x.low : Int), .slice x.A x.n x.c] 25))
  have HE : x.s.most = if x.s.right then x.l.getLast?.getD x.low else 0 := rfl
  rw [HE]
  clear HE
  obtain ⟨R, hR⟩ : ∃ R, x.s.right = R := ⟨_, rfl⟩
  rw [hR] at HX ⊢
  clear hR
  obtain ⟨low, A, n, c, l⟩ := x
  obtain ⟨hl, hc, hnil, HR⟩ := h.parts
  clear h
  simp only [LV.v] at hn HI HX ⊢
  subst hl
  have HN := Lib.hid (below_new w (.cells #[.int .u64 (low : Int), .slice A l.length c] 25))
  have HR := Lib.hid (HR.out.alloc (.cells #[.int .u64 (low : Int), .slice A l.length c] 25))
  have HL := Lib.hid (LiesS.new w low A l.length c)
  obtain ⟨W, hW⟩ : ∃ W, w.alloc (.cells #[.int .u64 (low : Int), .slice A l.length c] 25) = W := ⟨_, rfl⟩
  rw [hW] at HN HR HL HI
  have c0 := HL.out.c0
  have c1 := HL.out.c1
  obtain ⟨M, hM⟩ : ∃ M, (if R = true then l.getLast?.getD low else 0) = M := ⟨_, rfl⟩
  rw [hM]
  have HM := Lib.hid hM
  clear hM
  go_enter Try.func16, Try.ntmps16
  go_wp2_with fail
  clear c0 c1
  refine (HX.out _ HI.out).mono ?_
  rintro e w1 ⟨rfl, hb1⟩
  have HB1 := Lib.hid hb1
  have c0 := (HL.out.keeps hb1).c0
  have c1 := (HL.out.keeps hb1).c1
  have HR1 := Lib.hid (HR.out.keeps hb1)
  clear hb1 HR HL HI HX hW
  cases R
  · go_wp2
    go_ret
    exact ⟨by rw [← HM.out]; rfl, HN.out.trans (HB1.out.mono HN.out.size)⟩
  · by_cases h0 : l.length = 0
    · obtain rfl := List.eq_nil_of_length_eq_zero h0
      clear h0
      go_wp2
      go_ret
      exact ⟨by rw [← HM.out]; rfl, HN.out.trans (HB1.out.mono HN.out.size)⟩
    · obtain ⟨g, off, rfl, hcell⟩ := HR1.out.cells (by omega)
      have hk := hcell (l.length - 1) (by omega)
      have HY := Lib.hid (show l.getLast?.getD low = l[l.length - 1]'(by omega) by
        rw [List.getLast?_eq_getElem?, List.getElem?_eq_getElem (by omega)]; rfl)
      have hlen : ((l.length - 1 : Nat) : Int) = (l.length : Int) - 1 := by omega
      obtain ⟨y, hy⟩ : ∃ y, l[l.length - 1]'(by omega) = y := ⟨_, rfl⟩
      rw [hy] at hk HY
      have h1 : ¬ ((l.length : Int) = 0) := by omega
      have h2 : (0 : Int) ≤ (l.length : Int) - 1 := by omega
      have h3 : (1 : Int) ≤ (l.length : Int) := by omega
      have h4 : ((l.length : Int) - 1).toNat = l.length - 1 := by omega
      clear hcell hy hlen
      go_wp2
      go_ret
      exact ⟨by rw [← HM.out, if_pos (by trivial), HY.out]; rfl, HN.out.trans (HB1.out.mono HN.out.size)⟩

set_option maxRecDepth 100000 in
set_option maxHeartbeats 1000000 in
/-- slices.Equal of numbers. -/
theorem equal_any (A A2 : Option Addr) (n n2 c cc2 : Nat) (l l2 : List Nat) (w : World) (HR0 : Hid (RN w A l)) (HR20 : Hid (RN w A2 l2)) (hl : l.length = n) (hl2 : l2.length = n2) (hn : n ≤ 9223372036854775807) (hn2 : n2 ≤ 9223372036854775807) :
    Calls Try.prog 32 #[.slice A n c, .slice A2 n2 cc2] w fun r w' => r = .returned (.bool (decide (l = l2))) ∧ Keep w w' := by
  subst hl
  have HN2 := Lib.hid hl2
  clear hl2
  by_cases e2 : l.length = n2
  · subst e2
    go_enter Try.func32, Try.ntmps32
    go_wp2
    go_loopw [13] (fun i wr => ∃ k : Nat, k ≤ l.length ∧ i = .int .i64 k ∧ l.take k = l2.take k ∧ Keep w wr) (fun i _ => l.length - (intOf i).toNat)
    case atStart => exact ⟨0, by omega, rfl, rfl, Keep.refl w⟩
    case round =>
      obtain ⟨k, hk, rfl, ha, hkp⟩ := hrel
      have HK := Lib.hid hkp
      have HA := Lib.hid ha
      by_cases hlt : k < l.length
      · obtain ⟨g, off, rfl, hcell⟩ := (HR0.out.keep hkp).cells (by omega)
        have hlt2 : k < l2.length := by rw [HN2.out]; exact hlt
        obtain ⟨g2, off2, rfl, hcell2⟩ := (HR20.out.keep hkp).cells (by omega)
        clear hkp ha
        have hk1 := hcell k hlt
        have hk2 := hcell2 k hlt2
        have HT := Lib.hid (show l.take (k + 1) = l2.take (k + 1) ↔ l[k] = l2[k] from by
          rw [List.take_succ_eq_append_getElem hlt, List.take_succ_eq_append_getElem hlt2, HA.out, List.append_cancel_left_eq, List.cons.injEq]; simp only [and_true])
        have HT2 := Lib.hid (show l = l2 → l[k] = l2[k] from fun e => by subst e; rfl)
        obtain ⟨y1, hy1⟩ : ∃ y, l[k] = y := ⟨_, rfl⟩
        obtain ⟨y2, hy2⟩ : ∃ y, l2[k] = y := ⟨_, rfl⟩
        rw [hy1] at hk1 HT HT2
        rw [hy2] at hk2 HT HT2
        clear hcell hcell2 hy1 hy2
        have hi1 : (0 : Int) ≤ (k : Int) := by omega
        have hi2 : (k : Int) < (l.length : Int) := by omega
        by_cases e3 : y1 = y2
        · subst e3
          go_wp2_with (go_quiet (fail))
          go_wp2
          go_round
          case rel => exact ⟨k + 1, by omega, by go_num, HT.out.2 rfl, HK.out.drewN _⟩
          case measure => simp [intOf]; omega
        · have e4 : ¬ ((y1 : Int) = (y2 : Int)) := by omega
          have HD := Lib.hid (show decide (l = l2) = false from decide_eq_false (fun e => e3 (HT2.out e)))
          go_wp2_with (go_quiet (fail))
          go_wp2
          go_ret
          exact ⟨by rw [HD.out]; rfl, HK.out.drewN _⟩
      · obtain rfl : k = l.length := by omega
        clear hkp ha
        have hll : l = l2 := by
          have := HA.out
          rwa [List.take_length, ← HN2.out, List.take_length] at this
        have HD := Lib.hid (show decide (l = l2) = true from decide_eq_true hll)
        clear hll
        go_wp2
        go_ret
        exact ⟨by rw [HD.out]; rfl, HK.out⟩
  · have e3 : ¬ ((l.length : Int) = (n2 : Int)) := by omega
    have HD := Lib.hid (show decide (l = l2) = false from decide_eq_false (fun e => e2 (by rw [e, HN2.out])))
    go_enter Try.func32, Try.ntmps32
    go_wp2
    go_ret
    exact ⟨by rw [HD.out]; rfl, Keep.refl w⟩

set_option maxRecDepth 100000 in
set_option maxHeartbeats 1000000 in
theorem same_any (x y : LV) (w : World) (hx : x.In w) (hy : y.In w) (hn : x.n ≤ 9223372036854775807) (hn2 : y.n ≤ 9223372036854775807) :
    Calls Try.prog 18 #[x.v, y.v] w fun r w' => r = .returned (.bool (decide (x.s = y.s))) ∧ Below w.heap.size w w' := by
  have HE : decide (x.s = y.s) = (decide (x.low = y.low) && decide (x.l = y.l)) := by
    rw [Bool.eq_iff_iff]; simp [LV.s]
  rw [HE]
  clear HE
  obtain ⟨low, A, n, c, l⟩ := x
  obtain ⟨low2, A2, n2, cc2, l2⟩ := y
  obtain ⟨hl, hc, hnil, HR⟩ := hx.parts
  obtain ⟨hl2, hc2, hnil2, HR2⟩ := hy.parts
  clear hx hy
  simp only [LV.v] at hn hn2 ⊢
  have HN := Lib.hid ((below_new w (.cells #[.int .u64 (low : Int), .slice A n c] 25)).trans ((below_new _ (.cells #[.int .u64 (low2 : Int), .slice A2 n2 cc2] 25)).mono (by rw [size_new]; omega)))
  have HR := Lib.hid ((HR.out.alloc (.cells #[.int .u64 (low : Int), .slice A n c] 25)).alloc (.cells #[.int .u64 (low2 : Int), .slice A2 n2 cc2] 25))
  have HR2 := Lib.hid ((HR2.out.alloc (.cells #[.int .u64 (low : Int), .slice A n c] 25)).alloc (.cells #[.int .u64 (low2 : Int), .slice A2 n2 cc2] 25))
  have HL := Lib.hid ((LiesS.new w low A n c).keeps (below_new _ (.cells #[.int .u64 (low2 : Int), .slice A2 n2 cc2] 25)))
  have HL2 := Lib.hid (LiesS.new (w.alloc (.cells #[.int .u64 (low : Int), .slice A n c] 25)) low2 A2 n2 cc2)
  rw [size_new] at HL2
  obtain ⟨W, hW⟩ : ∃ W, (w.alloc (.cells #[.int .u64 (low : Int), .slice A n c] 25)).alloc (.cells #[.int .u64 (low2 : Int), .slice A2 n2 cc2] 25) = W := ⟨_, rfl⟩
  rw [hW] at HN HR HL HR2 HL2
  have HEQ := Lib.hid (equal_any A A2 n n2 c cc2 l l2 W HR HR2 hl hl2 hn hn2)
  have c0 := HL.out.c0
  have c1 := HL.out.c1
  have d0 := HL2.out.c0
  have d1 := HL2.out.c1
  clear hl hl2 HR HR2
  obtain ⟨E, hE⟩ : ∃ E, decide (l = l2) = E := ⟨_, rfl⟩
  rw [hE] at HEQ ⊢
  clear hE
  by_cases e1 : low = low2
  · subst e1
    rw [decide_eq_true rfl, Bool.true_and]
    go_enter Try.func18, Try.ntmps18
    go_wp2_with (go_at_call 32; refine HEQ.out.mono ?_; rintro e w2 ⟨rfl, hb2⟩)
    go_ret
    exact ⟨rfl, HN.out.trans (Below.mono hb2 HN.out.size)⟩
  · have e3 : ¬ ((low : Int) = (low2 : Int)) := by omega
    rw [decide_eq_false e1, Bool.false_and]
    go_enter Try.func18, Try.ntmps18
    go_wp2
    go_ret
    exact ⟨rfl, HN.out⟩

end Go.Proofs.Ytkcjhkhdpafjhaa
