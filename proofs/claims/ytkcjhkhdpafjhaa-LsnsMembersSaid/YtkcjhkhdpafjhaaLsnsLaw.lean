/-
  What package lsns's functions are held to, and how a call by it goes.
-/
import Derived.Test.YtkcjhkhdpafjhaaLsnsJoin
namespace Go.Proofs.Ytkcjhkhdpafjhaa
open Go.RowKit

/-- A set's numbers are of 64 bits. -/
def LS.Fits (s : LS) : Prop := s.low < 18446744073709551616 ∧ ∀ k ∈ s.ins, k < 18446744073709551616

/-- A call's answer: a set in memory of its own, and an error's number; nothing that was there has turned. -/
def Got (w : World) (y : LS) (e : Nat) (r : Ending) (wr : World) : Prop :=
  ∃ Y : LV, r = .returned (.tuple #[.agg #[.int .u64 (Y.low : Int), .slice Y.A Y.n Y.c], .int .i64 (e : Int)]) ∧ Y.s = y ∧ Y.In wr ∧ Own w.heap.size wr Y.A Y.l ∧ Below w.heap.size w wr

/-- Bytes in memory of the call's own. -/
def GotB (w : World) (l : List UInt8) (e : Nat) (r : Ending) (wr : World) : Prop :=
  ∃ A c, r = .returned (.tuple #[.slice A l.length c, .int .i64 (e : Int)]) ∧ l.length ≤ c ∧ (A = none → c = 0) ∧ Reads 5 wr A l ∧ Below w.heap.size w wr

def LS.bytes (s : LS) : List UInt8 := be s.low 8 ++ be s.ins.length 2 ++ s.ins.flatMap (fun n => be n 8)
def LS.putE (s : LS) : Nat := if s.right then 0 else 40
def LS.putB (s : LS) : List UInt8 := if s.right then s.bytes else []

/-- What the functions are held to. -/
structure LsnsC : Prop where
  right : ∀ (x : LV) (w : World), x.In w → x.n ≤ 1100 → Calls Try.prog 12 #[.agg #[.int .u64 (x.low : Int), .slice x.A x.n x.c]] w fun r w' => r = .returned (.bool x.s.right) ∧ Below w.heap.size w w'
  has : ∀ (x : LV) (m : Nat) (w : World), x.In w → x.n ≤ 1100 → m < 18446744073709551616 → Calls Try.prog 14 #[.agg #[.int .u64 (x.low : Int), .slice x.A x.n x.c], .int .u64 (m : Int)] w fun r w' => r = .returned (.bool (x.s.has m)) ∧ Below w.heap.size w w'
  most : ∀ (x : LV) (w : World), x.In w → x.n ≤ 1100 → Calls Try.prog 16 #[.agg #[.int .u64 (x.low : Int), .slice x.A x.n x.c]] w fun r w' => r = .returned (.int .u64 (x.s.most : Int)) ∧ Below w.heap.size w w'
  same : ∀ (x y : LV) (w : World), x.In w → y.In w → x.n ≤ 1100 → y.n ≤ 1100 → Calls Try.prog 18 #[.agg #[.int .u64 (x.low : Int), .slice x.A x.n x.c], .agg #[.int .u64 (y.low : Int), .slice y.A y.n y.c]] w fun r w' => r = .returned (.bool (decide (x.s = y.s))) ∧ Below w.heap.size w w'
  add : ∀ (x : LV) (m : Nat) (w : World), x.In w → x.n ≤ 1100 → m < 18446744073709551616 → Calls Try.prog 21 #[.agg #[.int .u64 (x.low : Int), .slice x.A x.n x.c], .int .u64 (m : Int)] w (Got w ((x.s.addS m).orZ (x.s.addE m)) (x.s.addE m))
  raise : ∀ (x : LV) (m : Nat) (w : World), x.In w → x.n ≤ 1100 → m < 18446744073709551616 → Calls Try.prog 23 #[.agg #[.int .u64 (x.low : Int), .slice x.A x.n x.c], .int .u64 (m : Int)] w (Got w ((x.s.raiseS m).orZ x.s.raiseE) x.s.raiseE)
  apart : ∀ (x y : LV) (w : World), x.In w → y.In w → x.n ≤ 1100 → y.n ≤ 1100 → x.low ≠ y.low → Calls Try.prog 25 #[.agg #[.int .u64 (x.low : Int), .slice x.A x.n x.c], .agg #[.int .u64 (y.low : Int), .slice y.A y.n y.c]] w (Got w ((x.s.joinS y.s).orZ (x.s.joinE y.s)) (x.s.joinE y.s))
  put : ∀ (x : LV) (w : World), x.In w → x.n ≤ 1100 → Calls Try.prog 27 #[.agg #[.int .u64 (x.low : Int), .slice x.A x.n x.c]] w (GotB w x.s.putB x.s.putE)

/-- What Join is held to. -/
structure LsnsJ : Prop where
  join : ∀ (x y : LV) (w : World), x.In w → y.In w → x.n ≤ 1100 → y.n ≤ 1100 → Calls Try.prog 25 #[.agg #[.int .u64 (x.low : Int), .slice x.A x.n x.c], .agg #[.int .u64 (y.low : Int), .slice y.A y.n y.c]] w (Got w ((x.s.joinS y.s).orZ (x.s.joinE y.s)) (x.s.joinE y.s))

theorem LS.ext' {s t : LS} (h1 : s.low = t.low) (h2 : s.ins = t.ins) : s = t := by
  cases s; cases t; simp only at h1 h2; rw [h1, h2]

/-- A set lies whole in a block. -/
structure AtS (w : World) (g : Nat) (x : LV) : Prop where
  lies : LiesS w g x.low x.A x.n x.c
  isIn : x.In w

section
variable {w w' : World} {g : Nat} {x : LV}
theorem AtS.keeps (h : AtS w g x) (hb : Below w.heap.size w w') : AtS w' g x := ⟨h.lies.keeps hb, h.isIn.keeps hb⟩
theorem AtS.alloc (h : AtS w g x) (o : Obj) : AtS (w.alloc o) g x := ⟨Row.alloc h.lies o, h.isIn.alloc o⟩
theorem AtS.new (h : x.In w) : AtS (w.alloc (.cells #[.int .u64 (x.low : Int), .slice x.A x.n x.c] 25)) w.heap.size x := ⟨LiesS.new w x.low x.A x.n x.c, h.alloc _⟩
theorem AtS.c0 (h : AtS w g x) : w.cell? ⟨g, 0, none⟩ = some (.int .u64 (x.low : Int)) := h.lies.c0
theorem AtS.c1 (h : AtS w g x) : w.cell? ⟨g, 1, none⟩ = some (.slice x.A x.n x.c) := h.lies.c1
end

theorem Told.got {w wr : World} {y : LS} {e : Nat} {r : Ending} (h : Told w y e r wr) (hf : y.Fits) : Got w y e r wr := by
  obtain ⟨v, rfl, hm⟩ := h
  obtain ⟨A, c, rfl, hc, hn, ho, hb⟩ := hm.own
  exact ⟨⟨y.low, A, y.ins.length, c, y.ins⟩, rfl, rfl, ⟨rfl, hc, hn, hf.1, hf.2, ho.reads⟩, ho, hb⟩

theorem LV.In.fits {w : World} {x : LV} (h : x.In w) : x.s.Fits := ⟨h.low, h.ins⟩
theorem LS.Fits.add {s : LS} (h : s.Fits) {m : Nat} (hm : m < 18446744073709551616) : (s.addS m).Fits := by
  unfold LS.addS
  split
  · exact h
  · exact ⟨h.1, fun k hk => by
      rcases (mem_ins1 m k _).1 hk with rfl | hk
      · exact hm
      · exact h.2 k hk⟩
theorem LS.Fits.raise {s : LS} (h : s.Fits) {m : Nat} (hm : m < 18446744073709551616) : (s.raiseS m).Fits :=
  ⟨by have := h.1; show max s.low m < _; omega, fun k hk => h.2 k (List.mem_filter.1 hk).1⟩
theorem LS.Fits.join {s t : LS} (h : s.Fits) (k : t.Fits) : (s.joinS t).Fits :=
  ⟨h.1, fun x hx => by
    rcases (mem_joinL x _ _).1 hx with h1 | h1
    · exact h.2 x h1
    · exact k.2 x h1⟩
theorem LS.Fits.orZ {s : LS} (h : s.Fits) (e : Nat) : (s.orZ e).Fits := by
  unfold LS.orZ
  split
  · exact h
  · exact ⟨by decide, fun k hk => by cases hk⟩

/-- The document's own answers, in the same form. -/
theorem rgot_add (x : LV) (m : Nat) (w : World) (h : x.In w) (hn : x.n ≤ 1100) (hm : m < 18446744073709551616) : Calls Try.prog 22 #[.agg #[.int .u64 (x.low : Int), .slice x.A x.n x.c], .int .u64 (m : Int)] w (Got w ((x.s.addS m).orZ (x.s.addE m)) (x.s.addE m)) :=
  (radd_any x m w h hn).mono fun _ _ ht => ht.got ((h.fits.add hm).orZ _)
theorem rgot_raise (x : LV) (m : Nat) (w : World) (h : x.In w) (hn : x.n ≤ 1100) (hm : m < 18446744073709551616) : Calls Try.prog 24 #[.agg #[.int .u64 (x.low : Int), .slice x.A x.n x.c], .int .u64 (m : Int)] w (Got w ((x.s.raiseS m).orZ x.s.raiseE) x.s.raiseE) :=
  (rraise_any x m w h hn).mono fun _ _ ht => ht.got ((h.fits.raise hm).orZ _)
theorem rgot_join (x y : LV) (w : World) (h : x.In w) (h2 : y.In w) (hn : x.n ≤ 1100) (hn2 : y.n ≤ 1100) : Calls Try.prog 26 #[.agg #[.int .u64 (x.low : Int), .slice x.A x.n x.c], .agg #[.int .u64 (y.low : Int), .slice y.A y.n y.c]] w (Got w ((x.s.joinS y.s).orZ (x.s.joinE y.s)) (x.s.joinE y.s)) :=
  (rjoin_any x y w h h2 hn hn2).mono fun _ _ ht => ht.got ((h.fits.join h2.fits).orZ _)

/-- How many numbers a set has that was told. -/
theorem LV.In.len' {w : World} {x : LV} (h : x.In w) : x.n = x.s.ins.length := h.len.symm
theorem LS.right_len {s : LS} (h : s.right = true) : s.ins.length ≤ 1000 := ((LS.right_iff s).1 h).1
theorem LS.zero_right : LS.zero.right = true := rfl
theorem LS.addZ_right (s : LS) (m : Nat) : ((s.addS m).orZ (s.addE m)).right = true := by
  unfold LS.orZ
  split
  · rename_i h; exact (LS.add_right h).2
  · rfl
theorem LS.raiseZ_right (s : LS) (m : Nat) : ((s.raiseS m).orZ s.raiseE).right = true := by
  unfold LS.orZ LS.raiseE
  cases h : s.right
  · rfl
  · exact LS.raise_right h m
theorem LS.joinZ_right (s t : LS) : ((s.joinS t).orZ (s.joinE t)).right = true := by
  unfold LS.orZ
  split
  · rename_i h; exact (LS.join_right h).2.2.2
  · rfl

set_option maxRecDepth 100000 in
set_option maxHeartbeats 400000 in
theorem great_any (x : LV) (w : World) (hn : x.n ≤ 9223372036854775807) : Calls Try.prog 10 #[.agg #[.int .u64 (x.low : Int), .slice x.A x.n x.c]] w fun r w' => r = .returned (.bool (decide (1100 < x.n))) ∧ Below w.heap.size w w' := by
  go_enter Try.func10, Try.ntmps10
  go_wp2
  go_ret
  have e : decide (1100 < (x.n : Int)) = decide (1100 < x.n) := decide_eq_decide.2 (by omega)
  exact ⟨by rw [← e]; rfl, below_new _ _⟩

end Go.Proofs.Ytkcjhkhdpafjhaa
