/-
  The acts of MasterPlays: where they lie, and which are too great.
-/
import Derived.Test.YtnmfgmlmjbfdcaaMasDuo
import Derived.Test.YtnmfgmlmjbfdcaaMasArgs
import Derived.Test.YtnmfgmlmjbfdcaaMasHead
namespace Go.Proofs.Ytnmfgmlmjbfdcaa
open Go.RowKit

/-- An act. -/
structure ActM where
  what : Nat
  s : ByteArray
  B : Int
  A : Option Addr
  n : Nat
  cap : Nat
  keep : List Nat
instance : Inhabited ActM := ⟨⟨0, ⟨#[]⟩, 0, none, 0, 0, []⟩⟩
def ActM.cells (x : ActM) : List Value := [.int .u8 (x.what : Int), .string x.s, .int .i64 x.B, .slice x.A x.n x.cap]
structure ActM.Ok (W : World) (x : ActM) : Prop where
  what : x.what < 256
  s : x.s.size ≤ 9223372036854775807
  B1 : -9223372036854775808 ≤ x.B
  B2 : x.B ≤ 9223372036854775807
  keep : Old W x.A x.n x.keep
/-- A slice of acts of an argument. -/
structure ActsM (W : World) (A : Option Addr) (l : List ActM) : Prop where
  ok : ∀ x ∈ l, x.Ok W
  at_ : ∀ (i : Nat) (h : i < l.length), ∃ g off, A = some ⟨g, off, none⟩ ∧ g < W.heap.size ∧ ∀ j, j < 4 → W.cell? ⟨g, off + i * 4 + j, none⟩ = (l[i].cells)[j]?
theorem ActsM.cells {W w : World} {A : Option Addr} {l : List ActM} (h : ActsM W A l) (hb : Below W.heap.size W w) {i : Nat} (hi : i < l.length) : ∃ g off, A = some ⟨g, off, none⟩ ∧
    w.cell? ⟨g, off + i * 4, none⟩ = some (.int .u8 (l[i].what : Int)) ∧ w.cell? ⟨g, off + i * 4 + 1, none⟩ = some (.string l[i].s) ∧ w.cell? ⟨g, off + i * 4 + 2, none⟩ = some (.int .i64 l[i].B) ∧ w.cell? ⟨g, off + i * 4 + 3, none⟩ = some (.slice l[i].A l[i].n l[i].cap) := by
  obtain ⟨g, off, hA, hg, hc⟩ := h.at_ i hi
  have key : ∀ j, j < 4 → w.cell? ⟨g, off + i * 4 + j, none⟩ = (l[i].cells)[j]? := fun j hj => (hb.cell (p := ⟨g, off + i * 4 + j, none⟩) hg).trans (hc j hj)
  exact ⟨g, off, hA, key 0 (by omega), key 1 (by omega), key 2 (by omega), key 3 (by omega)⟩

set_option maxRecDepth 100000 in
theorem mgreat_any (what : Nat) (s : ByteArray) (B : Int) (A : Option Addr) (n cap : Nat) (w : World) :
    Calls Try.prog 23 #[.agg #[.int .u8 (what : Int), .string s, .int .i64 B, .slice A n cap]] w fun e w' => e = .returned (.bool (decide (400 < s.size ∨ 20 < n))) ∧ Below w.heap.size w w' := by
  by_cases h1 : 400 < s.size
  · rw [show decide (400 < s.size ∨ 20 < n) = true from decide_eq_true (.inl h1)]
    have hI : (400 : Int) < (s.size : Int) := by omega
    go_enter Try.func23, Try.ntmps23
    go_wp2
    go_ret
    exact ⟨by first | rfl | simp [hI], (Below.refl _ _).alloc (Nat.le_refl _) _⟩
  · have hI : ¬ (400 : Int) < (s.size : Int) := by omega
    by_cases h2 : 20 < n
    · rw [show decide (400 < s.size ∨ 20 < n) = true from decide_eq_true (.inr h2)]
      have hJ : (20 : Int) < (n : Int) := by omega
      go_enter Try.func23, Try.ntmps23
      go_wp2
      go_ret
      exact ⟨by first | rfl | simp [hJ], (Below.refl _ _).alloc (Nat.le_refl _) _⟩
    · rw [show decide (400 < s.size ∨ 20 < n) = false from decide_eq_false (by omega)]
      have hJ : ¬ (20 : Int) < (n : Int) := by omega
      go_enter Try.func23, Try.ntmps23
      go_wp2
      go_ret
      exact ⟨by first | rfl | simp [hJ], (Below.refl _ _).alloc (Nat.le_refl _) _⟩

theorem mtwo_new {W w1 w2 : World} {nb ns : Nat} {d : DV} {x : RV} (h1 : d.In w1) (h2 : Below W.heap.size W w1) (h3 : ∀ k, d.mine k → W.heap.size ≤ k) (e1 : d.nb = nb) (e2 : d.ns = ns) (e3 : d.vis = List.replicate (nb * (ns * 64)) 0) (e4 : d.dur = List.replicate (nb * (ns * 64)) 0) (e5 : d.pend = [])
    (k1 : x.In w2) (k2 : Below w1.heap.size w1 w2) (k3 : ∀ k, x.mine k → w1.heap.size ≤ k) (k4 : x.R = ⟨ns, List.replicate nb (List.replicate (ns * 64) 0), []⟩) : Two W d.ptr x.B nb ns 0 w2 := by
  subst e1 e2
  refine ⟨d, x, rfl, rfl, rfl, rfl, h1.keeps k2, k1, ?_, h2.trans (k2.mono h2.size), h3, fun k hk => Nat.le_trans h2.size (k3 k hk), by rw [e5]; exact Nat.le_refl _⟩
  rw [k4]
  exact rel_new e3 e4 e5
section
variable {W w w' : World} {p : Value} {B nb ns n : Nat}
/-- Both behind a power loss; rows of acts stay. -/
theorem Two.crash_stay (h : Two W p B nb ns n w) (hn : n ≤ 1000000) {A : Option Addr} {m : Nat} {keep : List Nat} (hk : Old W A m keep) (c : Nat) : Calls Try.prog 26 #[p, .slice A m c] w fun e w1 => e = .returned (.tuple #[]) ∧ Stay w w1 ∧ Hid (Calls Try.prog 27 #[bptr B, .slice A m c] w1 fun e w2 => e = .returned (.tuple #[]) ∧ Stay w1 w2 ∧ Two W p B nb ns n w2) := by
  obtain ⟨d, x, rfl, rfl, rfl, rfl, h5, h6, h7, h8, h9, h10, h11⟩ := h
  have hold : ∀ i (hi : i < keep.length), ∃ g off, A = some ⟨g, off, none⟩ ∧ g < W.heap.size ∧ W.cell? ⟨g, off + i, none⟩ = some (.int .u64 (keep[i] : Int)) := fun i hi => by
    obtain ⟨g, off, e, hc⟩ := hk.nums.at_ i hi
    exact ⟨g, off, e, hk.old (by have := hk.len; omega) g off e, hc⟩
  refine (crash_any d w h5 A m c keep hk.len ⟨fun i hi => ?_, hk.nums.lt⟩ (fun h0 g off e hm => ?_) hk.big).mono ?_
  · obtain ⟨g, off, e, hg, hc⟩ := hold i hi
    exact ⟨g, off, e, (h8.cell (p := ⟨g, off + i, none⟩) hg).trans hc⟩
  · have := hk.old h0 g off e
    have := h9 g hm
    omega
  rintro e w1 ⟨he, k1, k2⟩
  have hx1 := ref_stays h5 h6 k2
  have hb1 := below_of h8 k2 h9
  have hlen : x.R.opens.length ≤ 1000000 := by rw [h7.opens]; unfold opensOf; rw [List.length_map]; omega
  refine ⟨he, act_stays h5 k2, Lib.hid ((rcrash_any x w1 A m c keep hx1 hlen hk.len hk.big ⟨fun i hi => ?_, hk.nums.lt⟩).mono ?_)⟩
  · obtain ⟨g, off, e, hg, hc⟩ := hold i hi
    exact ⟨g, off, e, fun wr ho => ((below_of hb1 ho h10).cell (p := ⟨g, off + i, none⟩) hg).trans hc⟩
  rintro e2 w2 ⟨x', e3, e4, e5, e6, e7, e8⟩
  refine ⟨e3, act_stays' hx1 e7, d.crashed keep, x', rfl, e4, rfl, rfl, dev_stays k1 hx1 e7, e6, ?_, below_of hb1 e7 h10, fun k hk => ?_, fun k hk => ?_, Nat.zero_le _⟩
  · rw [e5]; exact h7.crashed h5 keep
  · rcases hk with e | e | e | e
    · exact h9 k (.inl e)
    · exact h9 k (.inr (.inl e))
    · exact h9 k (.inr (.inr (.inl e)))
    · cases e
  · rcases e8 k hk with e | e
    · exact h10 k e
    · exact Nat.le_trans hb1.size e
end
end Go.Proofs.Ytnmfgmlmjbfdcaa
