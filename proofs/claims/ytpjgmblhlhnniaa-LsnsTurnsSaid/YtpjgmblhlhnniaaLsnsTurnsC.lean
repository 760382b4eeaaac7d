/-
  For LsnsTurns: results by their memory, memory that may be written, the frame behind two copies.
-/
import Derived.Test.YtpjgmblhlhnniaaLsnsTurnsB
import Derived.Test.YtpjgmblhlhnniaaLsnsJoins
namespace Go.Proofs.Ytpjgmblhlhnniaa
open Go.RowKit

theorem fr_all (a : Act) (v27 v28 v29 v30 v7 v8 : Value) : fr a (some v27) (some v28) (some v29) (some v30) (some v7) (some v8) = (((((a.put (some 27) v27).put (some 28) v28).put (some 29) v29).put (some 30) v30).put (some 7) v7).put (some 8) v8 := by
  rw [← fr_put8, ← fr_put7, ← fr_put30, ← fr_put29, ← fr_put28, ← fr_put27, fr_none]

/-- A call's answer, small, in memory of its own. -/
def GotW (w : World) (y : LS) (e : Nat) (r : Ending) (wr : World) : Prop :=
  ∃ Y : LV, r = .returned (.tuple #[.agg #[.int .u64 (Y.low : Int), .slice Y.A Y.n Y.c], .int .i64 (e : Int)]) ∧ Y.s = y ∧ Y.In wr ∧ Y.n ≤ 1000 ∧ Own w.heap.size wr Y.A Y.l ∧ Below w.heap.size w wr
theorem Got.sized {w wr : World} {y : LS} {e : Nat} {r : Ending} (h : Got w y e r wr) (hR : y.right = true) : GotW w y e r wr := by
  obtain ⟨Y, h1, h2, h3, h4, h5⟩ := h
  refine ⟨Y, h1, h2, h3, ?_, h4, h5⟩
  have := ((LS.right_iff y).1 hR).1
  rw [← h2] at this
  rw [← h3.len]; exact this

section
variable (J : LsnsJ) (S : LsnsC)
include S in
theorem got_add (x : LV) (m : Nat) (w : World) (h : x.In w) (hn : x.n ≤ 1100) (hm : m < 18446744073709551616) : Calls Try.prog 21 #[.agg #[.int .u64 (x.low : Int), .slice x.A x.n x.c], .int .u64 (m : Int)] w (GotW w ((x.s.addS m).orZ (x.s.addE m)) (x.s.addE m)) :=
  (S.add x m w h hn hm).mono fun _ _ hg => hg.sized (LS.addZ_right _ _)
include S in
theorem got_raise (x : LV) (m : Nat) (w : World) (h : x.In w) (hn : x.n ≤ 1100) (hm : m < 18446744073709551616) : Calls Try.prog 23 #[.agg #[.int .u64 (x.low : Int), .slice x.A x.n x.c], .int .u64 (m : Int)] w (GotW w ((x.s.raiseS m).orZ x.s.raiseE) x.s.raiseE) :=
  (S.raise x m w h hn hm).mono fun _ _ hg => hg.sized (LS.raiseZ_right _ _)
include J in
theorem got_join (x y : LV) (w : World) (h : x.In w) (h2 : y.In w) (hn : x.n ≤ 1100) (hn2 : y.n ≤ 1100) : Calls Try.prog 25 #[.agg #[.int .u64 (x.low : Int), .slice x.A x.n x.c], .agg #[.int .u64 (y.low : Int), .slice y.A y.n y.c]] w (GotW w ((x.s.joinS y.s).orZ (x.s.joinE y.s)) (x.s.joinE y.s)) :=
  (J.join x y w h h2 hn hn2).mono fun _ _ hg => hg.sized (LS.joinZ_right _ _)
include S in
theorem got_add' (x : LV) (m : Nat) (w : World) (h : x.In w) (hn : x.n ≤ 1100) (hm : m < 18446744073709551616) {z : LS} (e : x.s = z) : Calls Try.prog 21 #[.agg #[.int .u64 (x.low : Int), .slice x.A x.n x.c], .int .u64 (m : Int)] w (GotW w ((z.addS m).orZ (z.addE m)) (z.addE m)) := by
  rw [← e]; exact got_add S x m w h hn hm
include S in
theorem got_raise' (x : LV) (m : Nat) (w : World) (h : x.In w) (hn : x.n ≤ 1100) (hm : m < 18446744073709551616) {z : LS} (e : x.s = z) : Calls Try.prog 23 #[.agg #[.int .u64 (x.low : Int), .slice x.A x.n x.c], .int .u64 (m : Int)] w (GotW w ((z.raiseS m).orZ z.raiseE) z.raiseE) := by
  rw [← e]; exact got_raise S x m w h hn hm
include J in
theorem got_join' (x y : LV) (w : World) (h : x.In w) (h2 : y.In w) (hn : x.n ≤ 1100) (hn2 : y.n ≤ 1100) {z t : LS} (e : x.s = z) (f : y.s = t) : Calls Try.prog 25 #[.agg #[.int .u64 (x.low : Int), .slice x.A x.n x.c], .agg #[.int .u64 (y.low : Int), .slice y.A y.n y.c]] w (GotW w ((z.joinS t).orZ (z.joinE t)) (z.joinE t)) := by
  rw [← e, ← f]; exact got_join J x y w h h2 hn hn2
end
theorem dgot_add (x : LV) (m : Nat) (w : World) (h : x.In w) (hn : x.n ≤ 1100) (hm : m < 18446744073709551616) : Calls Try.prog 22 #[.agg #[.int .u64 (x.low : Int), .slice x.A x.n x.c], .int .u64 (m : Int)] w (GotW w ((x.s.addS m).orZ (x.s.addE m)) (x.s.addE m)) :=
  (radd_any x m w h hn).mono fun _ _ ht => (ht.got ((h.fits.add hm).orZ _)).sized (LS.addZ_right _ _)
theorem dgot_raise (x : LV) (m : Nat) (w : World) (h : x.In w) (hn : x.n ≤ 1100) (hm : m < 18446744073709551616) : Calls Try.prog 24 #[.agg #[.int .u64 (x.low : Int), .slice x.A x.n x.c], .int .u64 (m : Int)] w (GotW w ((x.s.raiseS m).orZ x.s.raiseE) x.s.raiseE) :=
  (rraise_any x m w h hn).mono fun _ _ ht => (ht.got ((h.fits.raise hm).orZ _)).sized (LS.raiseZ_right _ _)
theorem dgot_join (x y : LV) (w : World) (h : x.In w) (h2 : y.In w) (hn : x.n ≤ 1100) (hn2 : y.n ≤ 1100) : Calls Try.prog 26 #[.agg #[.int .u64 (x.low : Int), .slice x.A x.n x.c], .agg #[.int .u64 (y.low : Int), .slice y.A y.n y.c]] w (GotW w ((x.s.joinS y.s).orZ (x.s.joinE y.s)) (x.s.joinE y.s)) :=
  (rjoin_any x y w h h2 hn hn2).mono fun _ _ ht => (ht.got ((h.fits.join h2.fits).orZ _)).sized (LS.joinZ_right _ _)

/-- A set in a variable, its numbers in memory from lo on that lies ahead of the variable and may be written. -/
structure Free (w : World) (lo g : Nat) (X : LV) : Prop where
  lies : LiesS w g X.low X.A X.n X.c
  base : lo ≤ g
  mem : 0 < X.n → ∃ T b off cs, X.A = some ⟨b, off, none⟩ ∧ lo ≤ b ∧ b < g ∧ Row w b T cs (0, 0) ∧ ∀ j, j < X.n → (cs[off + j]?).isSome = true
section
variable {w w' : World} {lo g : Nat} {X : LV}
theorem Free.keeps (h : Free w lo g X) (hb : Below w.heap.size w w') : Free w' lo g X := ⟨h.lies.keeps hb, h.base, fun h0 => by
  obtain ⟨T, b, off, cs, h1, h2, h3, h4, h5⟩ := h.mem h0
  exact ⟨T, b, off, cs, h1, h2, h3, h4.below hb h4.lt, h5⟩⟩
theorem Free.far (h : Free w lo g X) {k : Nat} (hk : k < lo ∨ g < k) (i : Nat) (u : Value) : Free (w.setCell ⟨k, i, none⟩ u) lo g X :=
  ⟨Row.far h.lies (by show g ≠ k; have := h.base; omega) u, h.base, fun h0 => by
    obtain ⟨T, b, off, cs, h1, h2, h3, h4, h5⟩ := h.mem h0
    exact ⟨T, b, off, cs, h1, h2, h3, h4.far (by show b ≠ k; omega) u, h5⟩⟩
theorem Free.at (h : Free w lo g X) {j : Nat} (hj : j < X.n) : ∃ b off v, X.A = some ⟨b, off, none⟩ ∧ lo ≤ b ∧ b < g ∧ w.cell? ⟨b, off + j, none⟩ = some v ∧ w.frozen? ⟨b, off + j, none⟩ = false ∧ ∀ u, Free (w.setCell ⟨b, off + j, none⟩ u) lo g X := by
  obtain ⟨T, b, off, cs, h1, h2, h3, h4, h5⟩ := h.mem (by omega)
  obtain ⟨v, hv⟩ := Option.isSome_iff_exists.1 (h5 j hj)
  refine ⟨b, off, v, h1, h2, h3, by rw [h4.cell]; exact hv, h4.loose _, fun u => ⟨Row.far h.lies (by show g ≠ b; omega) u, h.base, fun _ => ⟨T, b, off, _, h1, h2, h3, h4.put (off + j) u, fun k hk => ?_⟩⟩⟩
  rw [List.getElem?_set]
  have hk' := h5 k hk
  have hl : off + j < cs.length := by
    rcases Nat.lt_or_ge (off + j) cs.length with h | h
    · exact h
    · rw [List.getElem?_eq_none h] at hv; cases hv
  by_cases e : off + j = off + k
  · rw [if_pos e, if_pos hl]; rfl
  · rw [if_neg e]; exact hk'
theorem Free.new (hi : X.In w) (ho : Own lo w X.A X.l) (hb : lo ≤ w.heap.size) : Free (w.alloc (.cells #[.int .u64 (X.low : Int), .slice X.A X.n X.c] 25)) lo w.heap.size X :=
  ⟨LiesS.new w X.low X.A X.n X.c, hb, fun h0 => by
    rw [← hi.len] at h0
    obtain ⟨T, b, off, cs, h1, h2, h3, h4⟩ := ho h0
    refine ⟨T, b, off, cs, h1, h2, h3.lt, Row.alloc h3 _, fun j hj => ?_⟩
    rw [← hi.len] at hj
    rw [h4 j hj, nv_get _ j hj]; rfl⟩
end

/-- While the results are written over: what was there ahead of them stays. -/
structure Over (w3 : World) (lo1 g1 lo2 g2 lo3 g3 : Nat) (P R T : LV) (w : World) : Prop where
  keep : Keep w3 w
  base : w3.heap.size ≤ lo1
  f1 : Free w lo1 g1 P
  f2 : Free w lo2 g2 R
  f3 : Free w lo3 g3 T
  o1 : g1 < lo2
  o2 : g2 < lo3
section
variable {w3 w : World} {lo1 g1 lo2 g2 lo3 g3 : Nat} {P R T : LV}
theorem Over.keepSet (h : Over w3 lo1 g1 lo2 g2 lo3 g3 P R T w) {k : Nat} (hk : lo1 ≤ k) (i : Nat) (u : Value) : Keep w3 (w.setCell ⟨k, i, none⟩ u) :=
  Below.setCell h.keep (by have := h.base; show w3.heap.size ≤ k; omega) u
theorem Over.at1 (h : Over w3 lo1 g1 lo2 g2 lo3 g3 P R T w) {j : Nat} (hj : j < P.n) : ∃ b off v, P.A = some ⟨b, off, none⟩ ∧ w.cell? ⟨b, off + j, none⟩ = some v ∧ w.frozen? ⟨b, off + j, none⟩ = false ∧ ∀ u, Over w3 lo1 g1 lo2 g2 lo3 g3 P R T (w.setCell ⟨b, off + j, none⟩ u) := by
  obtain ⟨b, off, v, h1, h2, h3, h4, h5, h6⟩ := h.f1.at hj
  have a1 := h.o1; have a2 := h.o2; have a3 := h.f2.base
  exact ⟨b, off, v, h1, h4, h5, fun u => ⟨h.keepSet h2 _ u, h.base, h6 u, h.f2.far (.inl (by omega)) _ u, h.f3.far (.inl (by omega)) _ u, h.o1, h.o2⟩⟩
theorem Over.at2 (h : Over w3 lo1 g1 lo2 g2 lo3 g3 P R T w) {j : Nat} (hj : j < R.n) : ∃ b off v, R.A = some ⟨b, off, none⟩ ∧ w.cell? ⟨b, off + j, none⟩ = some v ∧ w.frozen? ⟨b, off + j, none⟩ = false ∧ ∀ u, Over w3 lo1 g1 lo2 g2 lo3 g3 P R T (w.setCell ⟨b, off + j, none⟩ u) := by
  obtain ⟨b, off, v, h1, h2, h3, h4, h5, h6⟩ := h.f2.at hj
  have a1 := h.o1; have a2 := h.o2; have a3 := h.f1.base
  exact ⟨b, off, v, h1, h4, h5, fun u => ⟨h.keepSet (by omega) _ u, h.base, h.f1.far (.inr (by omega)) _ u, h6 u, h.f3.far (.inl (by omega)) _ u, h.o1, h.o2⟩⟩
theorem Over.at3 (h : Over w3 lo1 g1 lo2 g2 lo3 g3 P R T w) {j : Nat} (hj : j < T.n) : ∃ b off v, T.A = some ⟨b, off, none⟩ ∧ w.cell? ⟨b, off + j, none⟩ = some v ∧ w.frozen? ⟨b, off + j, none⟩ = false ∧ ∀ u, Over w3 lo1 g1 lo2 g2 lo3 g3 P R T (w.setCell ⟨b, off + j, none⟩ u) := by
  obtain ⟨b, off, v, h1, h2, h3, h4, h5, h6⟩ := h.f3.at hj
  have a1 := h.o1; have a2 := h.o2; have a3 := h.f1.base; have a4 := h.f2.base
  exact ⟨b, off, v, h1, h4, h5, fun u => ⟨h.keepSet (by omega) _ u, h.base, h.f1.far (.inr (by omega)) _ u, h.f2.far (.inr (by omega)) _ u, h6 u, h.o1, h.o2⟩⟩
end

end Go.Proofs.Ytpjgmblhlhnniaa
