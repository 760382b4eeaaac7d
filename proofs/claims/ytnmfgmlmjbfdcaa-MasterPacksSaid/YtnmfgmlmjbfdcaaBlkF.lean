/-
  A device of the walk's own; the head of the statements; a text of an act.
-/
import Derived.Test.YtnmfgmlmjbfdcaaBlkE
namespace Go.Proofs.Ytnmfgmlmjbfdcaa
open Go.RowKit

/-- A device that has come since W; what was there is as it was. -/
structure Since (W : World) (d : DV) (w : World) : Prop where
  dev : d.In w
  below : Below W.heap.size W w
  new : ∀ k, d.mine k → W.heap.size ≤ k

section
variable {W w w' : World} {d : DV}
theorem DV.In.notMine {g : Nat} {t : TypeId} {cs : List Value} {m : Nat × Nat} (h : d.In w) (hr : Row w g t cs m) (h1 : 94 ≠ t) (h2 : 5 ≠ t) (h3 : t ≠ 107) : ¬ d.mine g := by
  rintro (e | e | e | e)
  · exact h.dev.ne_ hr h1 e.symm
  · exact h.vis.ne_ hr h2 e.symm
  · exact h.dur.ne_ hr h2 e.symm
  · exact h.toTop.pNe hr h3 e
theorem Since.keeps (h : Since W d w) (hb : Below w.heap.size w w') : Since W d w' := ⟨h.dev.keeps hb, h.below.trans (hb.mono h.below.size), h.new⟩
theorem Since.drewN (h : Since W d w) (n : Nat) : Since W d (w.drewN n) := h.keeps ⟨rfl, rfl, rfl, Nat.le_refl _, fun _ _ => rfl⟩
theorem Since.drew (h : Since W d w) : Since W d w.drew := h.keeps ⟨rfl, rfl, rfl, Nat.le_refl _, fun _ _ => rfl⟩
theorem Since.alloc (h : Since W d w) (o : Obj) : Since W d (w.alloc o) := h.keeps ((Below.refl _ _).alloc (Nat.le_refl _) o)
theorem Only.upTo {F : Nat → Prop} {B : Nat} (ho : Only F w w') (hB : B ≤ w.heap.size) (hF : ∀ k, k < B → ¬ F k) : Below B w w' :=
  ⟨ho.os, ho.tape, ho.output, ho.size, fun k hk => ho.block k (Nat.lt_of_lt_of_le hk hB) (hF k hk)⟩
theorem Since.then (h : Since W d w) (ho : Only d.mine w w') : Below W.heap.size W w' :=
  h.below.trans (ho.upTo h.below.size fun k hk hm => by have := h.new k hm; omega)

theorem since_new {nb ns : Nat} {e : Ending} (h : NewDev nb ns W e w) : ∃ d : DV, e = .returned (.tuple #[d.ptr, .int .i64 0]) ∧ Since W d w ∧ d.nb = nb ∧ d.ns = ns ∧ d.vis = List.replicate (nb * (ns * 64)) 0 ∧ d.dur = List.replicate (nb * (ns * 64)) 0 ∧ d.pend = [] := by
  obtain ⟨d, he, h1, h2, h3, h4⟩ := h
  exact ⟨d, he, ⟨h1, h2, h3⟩, h4⟩
theorem write_since (h : Since W d w) (b : Nat) (s : ByteArray) (hb : b < d.nb) (hs : s.size ≤ d.sz) (hl : d.pend.length ≤ 1000000) :
    Calls Try.prog 28 #[d.ptr, .int .i64 (b : Int), .string s] w fun e w' => ∃ p, e = .returned (.int .i64 0) ∧ Since W (d.wrote b s p) w' ∧ Only d.mine w w' := by
  refine (write_good d b s w h.dev hb hs hl).mono ?_
  rintro e w' ⟨p, he, h1, h2, h3⟩
  refine ⟨p, he, ⟨h1, h.then h2, ?_⟩, h2⟩
  rintro k (e | e | e | e)
  · exact h.new k (.inl e)
  · exact h.new k (.inr (.inl e))
  · exact h.new k (.inr (.inr (.inl e)))
  · rcases h3 k e with e | e
    · exact h.new k (.inr (.inr (.inr e)))
    · exact Nat.le_trans h.below.size e
theorem cleaned_new (h : Since W d w) {k : Nat} (hk : k = d.A ∨ k = d.V ∨ k = d.U ∨ (Value.slice none 0 0).ownBlock = some k) : W.heap.size ≤ k := by
  rcases hk with e | e | e | e
  · exact h.new k (.inl e)
  · exact h.new k (.inr (.inl e))
  · exact h.new k (.inr (.inr (.inl e)))
  · cases e
theorem sync_since (h : Since W d w) : Calls Try.prog 47 #[d.ptr] w fun e w' => e = .returned (.int .i64 0) ∧ Since W d.synced w' ∧ Only d.mine w w' := by
  refine (sync_any d w h.dev).mono ?_
  rintro e w' ⟨he, h1, h2⟩
  exact ⟨he, ⟨h1, h.then h2, fun k hk => cleaned_new h hk⟩, h2⟩
theorem crash_since (h : Since W d w) (A : Option Addr) (n c : Nat) (keep : List Nat) (hn : keep.length = n) (hN : Nums w A keep) (hA : 0 < n → ∀ g off, A = some ⟨g, off, none⟩ → ¬ d.mine g) (hnm : n ≤ 9223372036854775807) :
    Calls Try.prog 26 #[d.ptr, .slice A n c] w fun e w' => e = .returned (.tuple #[]) ∧ Since W (d.crashed keep) w' ∧ Only d.mine w w' := by
  refine (crash_any d w h.dev A n c keep hn hN hA hnm).mono ?_
  rintro e w' ⟨he, h1, h2⟩
  exact ⟨he, ⟨h1, h.then h2, fun k hk => cleaned_new h hk⟩, h2⟩
theorem read_since (h : Since W d w) (b : Int) : Calls Try.prog 32 #[d.ptr, .int .i64 b] w fun e w' => e = .returned (.tuple #[.string (d.read b), .int .i64 (chk d b)]) ∧ ∃ n, w' = w.drewN n := read_any d w h.dev b
end

/-- So many bytes. -/
def rep (c : UInt8) (n : Nat) : ByteArray := ⟨(List.replicate n c).toArray⟩
theorem rep_size (c : UInt8) (n : Nat) : (rep c n).size = n := by
  show (List.replicate n c).toArray.size = n
  simp
theorem rep_push (c : UInt8) (n : Nat) : rep c n ++ ⟨#[c]⟩ = rep c (n + 1) := by
  apply ByteArray.ext
  rw [ByteArray.data_append]
  apply Array.ext'
  simp [rep, List.replicate_succ']

theorem head_one (A V U cv cu : Nat) (p p1 : Value) (X Y : List Value) : (DV.wrote ⟨A, V, U, cv, cu, p, X, Y, 2, 2, List.replicate (2 * (2 * 64)) 0, List.replicate (2 * (2 * 64)) 0, []⟩ 0 ⟨#[97]⟩ p1).read 0 = ⟨#[97]⟩ ++ (rep 0 129).extract 0 127 := by
  show (⟨(seg (splice (List.replicate (2 * (2 * 64)) 0) 0 (pad 128 [97])) 0 128).toArray⟩ : ByteArray) = _
  decide +kernel
theorem head_two (A V U cv cu : Nat) (p p1 : Value) (X Y : List Value) : (DV.crashed (DV.wrote ⟨A, V, U, cv, cu, p, X, Y, 2, 2, List.replicate (2 * (2 * 64)) 0, List.replicate (2 * (2 * 64)) 0, []⟩ 0 ⟨#[97]⟩ p1) []).read 0 = (rep 0 129).extract 0 128 := by
  show (⟨(seg (List.replicate (2 * (2 * 64)) 0) 0 128).toArray⟩ : ByteArray) = _
  decide +kernel
theorem head_three (A V U cv cu : Nat) (p p1 p2 : Value) (X Y : List Value) : (DV.crashed (DV.wrote (DV.crashed (DV.wrote ⟨A, V, U, cv, cu, p, X, Y, 2, 2, List.replicate (2 * (2 * 64)) 0, List.replicate (2 * (2 * 64)) 0, []⟩ 0 ⟨#[97]⟩ p1) []) 1 (rep 120 128) p2) [2]).read 1 = (rep 0 129).extract 0 64 ++ (rep 120 128).extract 0 64 := by
  show (⟨(seg (keepAll 2 (List.replicate (2 * (2 * 64)) 0) [(1, rep 120 128)] [2]) 128 128).toArray⟩ : ByteArray) = _
  decide +kernel

theorem zeros_text (n : Nat) (w : World) : (convert 69 9 (.slice (some ⟨w.heap.size, 0, none⟩) n n)).run Try.prog (w.alloc (.cells (byt (List.replicate n 0)).toArray 5)) = .ok (.string (rep 0 n)) (w.alloc (.cells (byt (List.replicate n 0)).toArray 5)) :=
  text_bytes (T := 5) _ (List.replicate n 0) n n _ (by simp) fun _ => ⟨w.heap.size, 0, _, _, rfl, Row.new w 5 (byt (List.replicate n 0)) (0, 0), fun j _ => by rw [Nat.zero_add]⟩

/-- string(make([]byte, n)): n a number written out. -/
theorem zeros_made (n : Nat) (hn : n ≤ 100000) (i : Int) (hi : i = (n : Int)) : ∃ o : Obj, (∀ w : World, (Instr.makeSlice 69 (.int .i64 i) (.int .i64 i)).run Try.prog w = .ok (.slice (some ⟨w.heap.size, 0, none⟩) n n) (w.alloc o)) ∧
    (∀ w : World, (convert 69 9 (.slice (some ⟨w.heap.size, 0, none⟩) n n)).run Try.prog (w.alloc o) = .ok (.string (rep 0 n)) (w.alloc o)) :=
  ⟨_, fun w => makeZeros n (by omega) i hi w, fun w => zeros_text n w⟩

end Go.Proofs.Ytnmfgmlmjbfdcaa
