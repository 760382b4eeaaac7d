/-
  Logs in plain words: records with numbers on a plain tape; what each call makes of them. No program is read here.
-/
import Derived.Test.YtjahkaockjhibaaDoorMPlain
import Derived.Test.YtjahkaockjhibaaDoorMTapA
namespace Go.Proofs.YtjahkaockjhibaaDoor
open Go.RowKit

theorem be_val8 : ∀ x : List UInt8, x.length = 8 → be (val x) 8 = x
  | [a, b, c, d, e, f, g, h], _ => by
    have ha := a.toNat_lt
    have hb := b.toNat_lt
    have hc := c.toNat_lt
    have hd := d.toNat_lt
    have he := e.toNat_lt
    have hf := f.toNat_lt
    have hg := g.toNat_lt
    have hh := h.toNat_lt
    have e8 : val [a, b, c, d, e, f, g, h] = ((((((a.toNat * 256 + b.toNat) * 256 + c.toNat) * 256 + d.toNat) * 256 + e.toNat) * 256 + f.toNat) * 256 + g.toNat) * 256 + h.toNat := by simp [val]
    rw [e8]
    have t : ∀ (n : Nat) (u : UInt8), n % 256 = u.toNat → UInt8.ofNat n = u := fun n u h => UInt8.toNat.inj (by rw [UInt8.toNat_ofNat']; exact h)
    simp only [be]
    rw [t _ a (by omega), t _ b (by omega), t _ c (by omega), t _ d (by omega), t _ e (by omega), t _ f (by omega), t _ g (by omega), t _ h (by omega)]
theorem val_be8 (n : Nat) (h : n < 18446744073709551616) : val (be n 8) = n := by
  simp only [be, val, List.foldl_cons, List.foldl_nil, UInt8.toNat_ofNat']
  omega

/-- A record of a log. -/
structure Ent where
  n : Nat
  k : UInt8
  d : List UInt8
deriving DecidableEq
instance : Inhabited Ent := ⟨⟨0, 0, []⟩⟩
def recE (e : Ent) : Rec := ⟨e.k, be e.n 8 ++ e.d⟩
theorem recE_len (e : Ent) : (recE e).d.length = 8 + e.d.length := by show (be e.n 8 ++ e.d).length = _; rw [List.length_append, be_length]
theorem one_recE (e : Ent) : (one (recE e)).length = 21 + e.d.length := by rw [one_length, recE_len]; omega
/-- The bytes of records. -/
def logB (l : List Ent) : List UInt8 := allR (l.map recE)
theorem logB_nil : logB [] = [] := rfl
theorem logB_cons (e : Ent) (l : List Ent) : logB (e :: l) = one (recE e) ++ logB l := by unfold logB; rw [List.map_cons, allR_cons]
theorem logB_app (a b : List Ent) : logB (a ++ b) = logB a ++ logB b := by unfold logB; rw [List.map_append, allR_append]

/-- What a record's Data says: its number, and what stands behind. -/
def entOf (r : Rec) : Option Ent := if 8 ≤ r.d.length ∧ val (r.d.take 8) ≠ 0 ∧ val (r.d.take 8) ≤ 281474976710656 then some ⟨val (r.d.take 8), r.k, r.d.drop 8⟩ else none
theorem entOf_rec {r : Rec} {e : Ent} (h : entOf r = some e) : r = recE e ∧ e.n ≠ 0 ∧ e.n ≤ 281474976710656 := by
  unfold entOf at h
  split at h
  · rename_i hh
    injection h with h
    subst h
    refine ⟨?_, hh.2.1, hh.2.2⟩
    cases r with | mk k d =>
    show (⟨k, d⟩ : Rec) = ⟨k, be (val (d.take 8)) 8 ++ d.drop 8⟩
    rw [be_val8 _ (by rw [List.length_take]; exact Nat.min_eq_left hh.1), List.take_append_drop]
  · cases h
theorem entOf_recE {e : Ent} (h0 : e.n ≠ 0) (h1 : e.n ≤ 281474976710656) : entOf (recE e) = some e := by
  unfold entOf
  have ht : (recE e).d.take 8 = be e.n 8 := by
    show (be e.n 8 ++ e.d).take 8 = _
    conv => lhs; rw [← be_length e.n 8]
    exact List.take_left
  have hd : (recE e).d.drop 8 = e.d := by
    show (be e.n 8 ++ e.d).drop 8 = _
    conv => lhs; rw [← be_length e.n 8]
    exact List.drop_left
  rw [ht, hd, val_be8 _ (by omega), if_pos ⟨by rw [recE_len]; omega, h0, h1⟩]
  rfl

/-- Numbers one behind the other, from n on. -/
def Row1 : Nat → List Ent → Prop
  | _, [] => True
  | n, e :: l => e.n = n ∧ Row1 (n + 1) l
/-- The records that bytes' records are, if their numbers follow each other; the one before has number p (0: there is none). -/
def entsOf : Nat → List Rec → Option (List Ent)
  | _, [] => some []
  | p, r :: l => match entOf r with
    | none => none
    | some e => if p = 0 ∨ e.n = p + 1 then (entsOf e.n l).map (e :: ·) else none
theorem entsOf_rec : ∀ {l : List Rec} {p : Nat} {m : List Ent}, entsOf p l = some m → l = m.map recE ∧ (∀ e ∈ m, e.n ≠ 0 ∧ e.n ≤ 281474976710656) ∧ (p ≠ 0 → Row1 (p + 1) m) ∧ (∀ e, m.head? = some e → Row1 e.n m)
  | [], p, m, h => by
    simp only [entsOf, Option.some.injEq] at h
    subst h
    exact ⟨rfl, fun e he => (by cases he), fun _ => trivial, fun e he => (by cases he)⟩
  | r :: l, p, m, h => by
    simp only [entsOf] at h
    split at h
    · cases h
    · rename_i e he
      obtain ⟨h1, h2, h3⟩ := entOf_rec he
      split at h
      · rename_i hp
        obtain ⟨m', hm, rfl⟩ := Option.map_eq_some_iff.1 h
        obtain ⟨k1, k2, k3, k4⟩ := entsOf_rec hm
        have hr : Row1 e.n (e :: m') := ⟨rfl, k3 h2⟩
        refine ⟨by rw [List.map_cons, ← h1, ← k1], fun x hx => ?_, fun hp0 => ?_, fun x hx => ?_⟩
        · rcases List.mem_cons.1 hx with rfl | hx
          · exact ⟨h2, h3⟩
          · exact k2 x hx
        · have : e.n = p + 1 := hp.resolve_left hp0
          rw [← this]; exact hr
        · simp only [List.head?_cons, Option.some.injEq] at hx
          subst hx; exact hr
      · cases h
theorem entsOf_map : ∀ {m : List Ent} {p : Nat} (_ : ∀ e ∈ m, e.n ≠ 0 ∧ e.n ≤ 281474976710656) (_ : p = 0 → ∀ e, m.head? = some e → Row1 e.n m) (_ : p ≠ 0 → Row1 (p + 1) m), entsOf p (m.map recE) = some m
  | [], _, _, _, _ => rfl
  | e :: m, p, h, h0, h1 => by
    have he := h e (by simp)
    have hr : Row1 e.n (e :: m) := by
      by_cases hp : p = 0
      · exact h0 hp e rfl
      · have := h1 hp
        have e2 : e.n = p + 1 := this.1
        rw [e2]; exact this
    have hp : p = 0 ∨ e.n = p + 1 := by
      by_cases hp : p = 0
      · exact .inl hp
      · exact .inr (h1 hp).1
    rw [List.map_cons]
    simp only [entsOf, entOf_recE he.1 he.2, if_pos hp]
    rw [entsOf_map (fun x hx => h x (by simp [hx])) (fun h => absurd h he.1) (fun _ => hr.2)]
    rfl

/-- What a scan takes of bytes is its records, written. -/
theorem look_one_of {b : List UInt8} {r : Rec} (h : lookR b = .told r) : b.take (13 + r.d.length) = one r := by
  obtain ⟨h1, h2, h3, h4, h5, h6, h7⟩ := look_rec h
  have hl : 13 + lenOf b ≤ b.length := by omega
  have := (body_is h4 hl).2 h5
  rw [h2, ← this]
  cases r with | mk k d =>
  simp only at h6 h7
  rw [h6, h7]
theorem scan_prefix : ∀ (n : Nat) (b : List UInt8) (_ : b.length ≤ n), b.take (scan b).2.1 = allR (scan b).1 := by
  intro n
  induction n with
  | zero =>
    intro b hb
    obtain rfl : b = [] := List.eq_nil_of_length_eq_zero (by omega)
    rw [scan_nil]; rfl
  | succ n ih =>
    intro b hb
    cases hl : lookR b with
    | whole => rw [scan_of_whole hl]; rfl
    | torn => rw [scan_of_torn hl]; rfl
    | bad => rw [scan_of_bad hl]; rfl
    | told r =>
      have h1 := (look_rec hl).1
      have h2 := look_one_of hl
      have h3 := ih (b.drop (13 + r.d.length)) (by rw [List.length_drop]; omega)
      rw [scan_of_rec hl]
      show b.take (13 + r.d.length + (scan (b.drop (13 + r.d.length))).2.1) = allR (r :: _)
      rw [List.take_add, h2, h3, allR_cons]

theorem scan_len (b : List UInt8) : (scan b).1.length ≤ b.length := by
  have : ∀ (n : Nat) (b : List UInt8), b.length ≤ n → (scan b).1.length ≤ b.length := by
    intro n
    induction n with
    | zero =>
      intro b hb
      obtain rfl : b = [] := List.eq_nil_of_length_eq_zero (by omega)
      rw [scan_nil]; simp
    | succ n ih =>
      intro b hb
      cases hl : lookR b with
      | whole => rw [scan_of_whole hl]; simp
      | torn => rw [scan_of_torn hl]; simp
      | bad => rw [scan_of_bad hl]; simp
      | told r =>
        have h1 := (look_rec hl).1
        rw [scan_of_rec hl]
        have := ih (b.drop (13 + r.d.length)) (by rw [List.length_drop]; omega)
        rw [List.length_drop] at this
        show _ + 1 ≤ _
        omega
  exact this b.length b (Nat.le_refl _)


/-- A log: its tape, its records, the last number, the stable one. -/
structure LG where
  st : ST
  l : List Ent
  last : Nat
  stable : Nat
namespace LG
/-- How many of its records are stable. -/
def sured (g : LG) : Nat := g.l.length - (g.last - g.stable)
structure Ok (g : LG) : Prop where
  st : g.st.Ok
  bytes : g.st.l = logB g.l
  row : Row1 (g.last + 1 - g.l.length) g.l
  le : g.l.length ≤ g.last
  max : g.last ≤ 281474976710656
  stb : g.stable ≤ g.last
  sure : g.st.sure = g.st.base + (logB (g.l.take g.sured)).length
  dat : ∀ e ∈ g.l, e.d.length ≤ 262136
/-- Is there room for a record of so many bytes? -/
def fits (g : LG) (d : List UInt8) : Prop := 21 + d.length ≤ g.st.room - g.st.l.length
instance (g : LG) (d : List UInt8) : Decidable (g.fits d) := inferInstanceAs (Decidable (_ ≤ _))
def can (g : LG) (d : List UInt8) : Prop := d.length ≤ 262136 ∧ g.last < 281474976710656 ∧ g.fits d
instance (g : LG) (d : List UInt8) : Decidable (g.can d) := inferInstanceAs (Decidable (_ ∧ _ ∧ _))
def put (g : LG) (k : UInt8) (d : List UInt8) : LG := { st := { g.st with l := g.st.l ++ one (recE ⟨g.last + 1, k, d⟩) }, l := g.l ++ [⟨g.last + 1, k, d⟩], last := g.last + 1, stable := g.stable }
def append (g : LG) (k : UInt8) (d : List UInt8) : LG := if g.can d then g.put k d else g
def appendE (g : LG) (d : List UInt8) : Nat := if 262136 < d.length then 3 else if g.can d then 0 else 6
def force (g : LG) : LG := { g with st := g.st.force, stable := g.last }
/-- How many records stand below a number. -/
def below (g : LG) (n : Nat) : Nat := (g.l.takeWhile fun e => e.n < n).length
def trim (g : LG) (n : Nat) : LG := if n ≤ g.stable + 1 then { g with st := g.st.drop (g.st.base + (logB (g.l.take (g.below n))).length), l := g.l.drop (g.below n) } else g
def from_ (g : LG) (n : Nat) : List Ent := g.l.filter fun e => n ≤ e.n
def get (g : LG) (n : Nat) : Option Ent := g.l.find? fun e => e.n == n
def first (g : LG) : Nat := match g.l with
  | [] => 0
  | e :: _ => e.n
end LG

theorem row1_get : ∀ {l : List Ent} {n : Nat} (_ : Row1 n l) (i : Nat) (h : i < l.length), l[i].n = n + i
  | [], _, _, _, h => absurd h (Nat.not_lt_zero _)
  | e :: l, n, h, 0, _ => h.1
  | e :: l, n, h, i + 1, hi => by
    have := row1_get h.2 i (by simpa using hi)
    simp only [List.getElem_cons_succ]
    omega
theorem row1_app : ∀ {l : List Ent} {n : Nat} {e : Ent} (_ : Row1 n l) (_ : e.n = n + l.length), Row1 n (l ++ [e])
  | [], n, e, _, h => ⟨by simpa using h, trivial⟩
  | x :: l, n, e, h, he => ⟨h.1, row1_app h.2 (by rw [he, List.length_cons]; omega)⟩
theorem row1_drop : ∀ {l : List Ent} {n : Nat} (_ : Row1 n l) (m : Nat) (_ : m ≤ l.length), Row1 (n + m) (l.drop m)
  | l, n, h, 0, _ => by simpa using h
  | [], n, h, m + 1, hm => absurd hm (by simp)
  | e :: l, n, h, m + 1, hm => by
    have := row1_drop h.2 m (by simpa using hm)
    rw [List.drop_succ_cons, show n + (m + 1) = n + 1 + m by omega]
    exact this
theorem row1_take : ∀ {l : List Ent} {n : Nat} (_ : Row1 n l) (m : Nat), Row1 n (l.take m)
  | _, _, _, 0 => by rw [List.take_zero]; trivial
  | [], _, _, _ + 1 => trivial
  | e :: l, n, h, m + 1 => ⟨h.1, row1_take h.2 m⟩
/-- Of numbers that follow each other, those below a number are so many. -/
theorem row1_below : ∀ {l : List Ent} {n : Nat} (_ : Row1 n l) (m : Nat), (l.takeWhile fun e => e.n < m).length = min l.length (m - n)
  | [], n, _, m => by simp
  | e :: l, n, h, m => by
    rw [List.takeWhile_cons]
    by_cases hm : e.n < m
    · rw [if_pos (by simpa using hm), List.length_cons, row1_below h.2 m, List.length_cons]
      have := h.1
      omega
    · rw [if_neg (by simpa using hm)]
      have := h.1
      simp only [List.length_nil, List.length_cons]
      omega
theorem row1_from : ∀ {l : List Ent} {n : Nat} (_ : Row1 n l) (m : Nat), l.filter (fun e => m ≤ e.n) = l.drop (m - n)
  | [], n, _, m => by simp
  | e :: l, n, h, m => by
    have h1 := h.1
    have ih := row1_from h.2 m
    rw [List.filter_cons]
    by_cases hm : m ≤ e.n
    · rw [if_pos (by simpa using hm), ih, show m - (n + 1) = 0 by omega, show m - n = 0 by omega]
      rfl
    · rw [if_neg (by simpa using hm), ih, show m - n = (m - (n + 1)) + 1 by omega]
      rfl
theorem logB_length : ∀ (l : List Ent), (logB l).length = (l.map fun e => 21 + e.d.length).sum
  | [] => rfl
  | e :: l => by rw [logB_cons, List.length_append, one_recE, logB_length l]; simp
theorem logB_take_le (l : List Ent) (m : Nat) : (logB (l.take m)).length ≤ (logB l).length := by
  conv => rhs; rw [← List.take_append_drop m l]
  rw [logB_app, List.length_append]
  omega

namespace LG
section
variable {g : LG}
theorem Ok.room (h : g.Ok) : g.st.l.length = (logB g.l).length := by rw [h.bytes]
theorem Ok.force (h : g.Ok) : g.force.Ok where
  st := h.st.force
  bytes := h.bytes
  row := h.row
  le := h.le
  max := h.max
  stb := Nat.le_refl _
  sure := by
    have e : g.force.sured = g.l.length := by show g.l.length - (g.last - g.last) = _; omega
    rw [e]
    show g.st.base + g.st.l.length = g.st.base + (logB (g.l.take g.l.length)).length
    rw [List.take_length, h.bytes]
  dat := h.dat
theorem Ok.put (h : g.Ok) (k : UInt8) (d : List UInt8) (hc : g.can d) (hs : g.st.fin + (21 + d.length) ≤ 100000000) : (g.put k d).Ok := by
  obtain ⟨h1, h2, h3⟩ := hc
  have hol : (one (recE ⟨g.last + 1, k, d⟩)).length = 21 + d.length := one_recE _
  have hlen : (g.st.l ++ one (recE ⟨g.last + 1, k, d⟩)).length = g.st.l.length + (21 + d.length) := by rw [List.length_append, hol]
  have hsu : (g.put k d).sured = g.sured := by
    show (g.l ++ [_]).length - (g.last + 1 - g.stable) = g.l.length - (g.last - g.stable)
    have := h.stb
    rw [List.length_append]
    show g.l.length + 1 - _ = _
    omega
  have hle : g.sured ≤ g.l.length := Nat.sub_le _ _
  refine { st := ⟨h.st.bs, ?_, ?_, h.st.rm, ?_⟩, bytes := ?_, row := ?_, le := ?_, max := h2, stb := Nat.le_succ_of_le h.stb, sure := ?_, dat := ?_ }
  · show g.st.sure ≤ g.st.base + (g.st.l ++ _).length
    have := h.st.sf; unfold ST.fin at this; rw [hlen]; omega
  · show (g.st.l ++ _).length ≤ g.st.room
    have := h.st.lr; unfold fits at h3; rw [hlen]; omega
  · show g.st.base + (g.st.l ++ _).length ≤ _
    unfold ST.fin at hs; rw [hlen]; omega
  · show g.st.l ++ _ = logB (g.l ++ [_])
    rw [logB_app, h.bytes, logB_cons, logB_nil, List.append_nil]
  · show Row1 (g.last + 1 + 1 - (g.l ++ [_]).length) (g.l ++ [_])
    have hl := h.le
    have e : g.last + 1 + 1 - (g.l ++ [(⟨g.last + 1, k, d⟩ : Ent)]).length = g.last + 1 - g.l.length := by rw [List.length_append]; show g.last + 1 + 1 - (g.l.length + 1) = _; omega
    rw [e]
    exact row1_app h.row (by show g.last + 1 = _; omega)
  · show (g.l ++ [_]).length ≤ g.last + 1
    have := h.le
    rw [List.length_append]; show g.l.length + 1 ≤ _; omega
  · rw [hsu]
    show g.st.sure = g.st.base + (logB ((g.l ++ [_]).take g.sured)).length
    rw [List.take_append_of_le_length hle]
    exact h.sure
  · intro e he
    rcases List.mem_append.1 he with he | he
    · exact h.dat e he
    · rw [List.mem_singleton] at he; subst he; exact h1
theorem Ok.below (h : g.Ok) (n : Nat) : g.below n = min g.l.length (n - (g.last + 1 - g.l.length)) := row1_below h.row n
theorem Ok.from_ (h : g.Ok) (n : Nat) : g.from_ n = g.l.drop (g.below n) := by
  unfold LG.from_
  rw [row1_from h.row n, h.below]
  rcases Nat.le_total g.l.length (n - (g.last + 1 - g.l.length)) with h1 | h1
  · rw [Nat.min_eq_left h1, List.drop_of_length_le h1, List.drop_length]
  · rw [Nat.min_eq_right h1]
/-- Trim takes only what is sure. -/
theorem Ok.trims (h : g.Ok) (n : Nat) (hn : n ≤ g.stable + 1) : g.below n ≤ g.sured ∧ g.st.drops (g.st.base + (logB (g.l.take (g.below n))).length) := by
  have hb := h.below n
  have hl := h.le
  have hs := h.stb
  have h1 : g.below n ≤ g.sured := by unfold LG.sured; omega
  refine ⟨h1, Nat.le_add_right _ _, ?_⟩
  rw [h.sure]
  have e : g.l.take (g.below n) = (g.l.take g.sured).take (g.below n) := by rw [List.take_take, Nat.min_eq_left h1]
  rw [e]
  have := logB_take_le (g.l.take g.sured) (g.below n)
  omega
theorem Ok.trim (h : g.Ok) (n : Nat) : (g.trim n).Ok := by
  unfold LG.trim
  split
  · rename_i hn
    obtain ⟨h1, h2⟩ := h.trims n hn
    have hm : g.below n ≤ g.l.length := by rw [h.below]; exact Nat.min_le_left _ _
    have hst : g.st.drop (g.st.base + (logB (g.l.take (g.below n))).length) = { g.st with base := g.st.base + (logB (g.l.take (g.below n))).length, l := g.st.l.drop (logB (g.l.take (g.below n))).length } := by
      rw [ST.drop, if_pos h2, Nat.add_sub_cancel_left]
    have hle := h.le
    have hsb := h.stb
    have hdl : (g.l.drop (g.below n)).length = g.l.length - g.below n := List.length_drop
    refine { st := h.st.drop _, bytes := ?_, row := ?_, le := ?_, max := h.max, stb := h.stb, sure := ?_, dat := fun e he => h.dat e (List.mem_of_mem_drop he) }
    · show (g.st.drop _).l = logB (g.l.drop _)
      rw [hst]
      show g.st.l.drop _ = _
      rw [h.bytes]
      conv => lhs; arg 2; rw [← List.take_append_drop (g.below n) g.l]
      rw [logB_app, List.drop_left]
    · show Row1 (g.last + 1 - (g.l.drop _).length) (g.l.drop _)
      have := row1_drop h.row (g.below n) hm
      rw [hdl, show g.last + 1 - (g.l.length - g.below n) = g.last + 1 - g.l.length + g.below n by omega]
      exact this
    · show (g.l.drop _).length ≤ g.last
      omega
    · show (g.st.drop _).sure = (g.st.drop _).base + (logB ((g.l.drop (g.below n)).take ((g.l.drop (g.below n)).length - (g.last - g.stable)))).length
      rw [hst]
      show g.st.sure = g.st.base + _ + _
      have e : (g.l.drop (g.below n)).take ((g.l.drop (g.below n)).length - (g.last - g.stable)) = (g.l.take g.sured).drop (g.below n) := by
        rw [List.drop_take, hdl]
        unfold LG.sured
        congr 1
        omega
      have e2 : g.l.take (g.below n) = (g.l.take g.sured).take (g.below n) := by rw [List.take_take, Nat.min_eq_left h1]
      rw [e, e2, h.sure]
      conv => lhs; rw [← List.take_append_drop (g.below n) (g.l.take g.sured)]
      rw [logB_app, List.length_append]
      omega
  · exact h
end
end LG
end Go.Proofs.YtjahkaockjhibaaDoor
