/-
  Two fabrics that share nothing; texts of an argument; many zeros as a text; queues, of one message more.
-/
import Derived.Test.YtamanckcnhhaiaaFabHead
import Derived.Laws.BytesArg
import Derived.Laws.BytesString
namespace Go.Proofs.Ytamanckcnhhaiaa
open Go.RowKit

/-- At p and at q lie two fabrics that have come since W and share nothing; they have these messages. -/
def Two (W : World) (p : Value) (l : List MB) (q : Value) (m : List MB) (w : World) : Prop :=
  ∃ d e : FV, d.ptr = p ∧ d.l = l ∧ e.ptr = q ∧ e.l = m ∧ d.In w ∧ e.In w ∧ Below W.heap.size W w ∧ (∀ k, d.mine k → W.heap.size ≤ k) ∧ (∀ k, e.mine k → W.heap.size ≤ k) ∧ ∀ k, d.mine k → ¬ e.mine k

section
variable {W w : World} {p q : Value} {l m : List MB}
theorem Two.since (h : Two W p l q m w) : Below W.heap.size W w := by obtain ⟨_, _, _, _, _, _, _, _, h, _⟩ := h; exact h
theorem Two.swap (h : Two W p l q m w) : Two W q m p l w := by
  obtain ⟨d, e, h1, h2, h3, h4, h5, h6, h7, h8, h9, h10⟩ := h
  exact ⟨e, d, h3, h4, h1, h2, h6, h5, h7, h9, h8, fun k a b => h10 k b a⟩
theorem Two.keeps {w' : World} (h : Two W p l q m w) (hb : Below w.heap.size w w') : Two W p l q m w' := by
  obtain ⟨d, e, h1, h2, h3, h4, h5, h6, h7, h8, h9, h10⟩ := h
  exact ⟨d, e, h1, h2, h3, h4, h5.keeps hb, h6.keeps hb, h7.trans (hb.mono h7.size), h8, h9, h10⟩
theorem two_turned {d e : FV} {l' : List MB} {a : Value} {x : Ending} {w' : World} (he : e.In w) (hw : Below W.heap.size W w) (hn : ∀ k, d.mine k → W.heap.size ≤ k) (hm : ∀ k, e.mine k → W.heap.size ≤ k) (ha : ∀ k, d.mine k → ¬ e.mine k) (h : d.Turned w l' a x w') : x = .returned a ∧ Two W d.ptr l' e.ptr e.l w' := by
  obtain ⟨d', e1, e2, e3, h4, h5, h6⟩ := h
  refine ⟨e1, d', e, by unfold FV.ptr; rw [e2], e3, rfl, rfl, h4, he.only h5 (fun k hk hd => ha k hd hk), hw.trans ⟨h5.os, h5.tape, h5.output, h5.size, fun k hk => h5.block k (Nat.lt_of_lt_of_le hk hw.size) fun hm => ?_⟩, fun k hk => ?_, hm, fun k hk he2 => ?_⟩
  · have := hn k hm; omega
  · rcases h6 k hk with h7 | h7
    · exact hn k h7
    · exact Nat.le_trans hw.size h7
  · rcases h6 k hk with h7 | h7
    · exact ha k h7 he2
    · have := he.mineLt k he2; omega
theorem send_two (h : Two W p l q m w) (f t : Int) (s : ByteArray) (hs : s.size ≤ 262144) (hL : l.length ≤ 100000) : Calls Try.prog 6 #[p, .int .i64 f, .int .i64 t, .string s] w fun e w' => e = .returned (.int .i64 (addE l ((f, t), s))) ∧ Two W p (addL l ((f, t), s)) q m w' := by
  obtain ⟨d, e, rfl, rfl, rfl, rfl, h5, h6, h7, h8, h9, h10⟩ := h
  exact (send_any d f t s w h5 hs hL).mono fun e w' hh => two_turned h6 h7 h8 h9 h10 hh
theorem send_two_long (h : Two W p l q m w) (f t : Int) (s : ByteArray) (hs : 262144 < s.size) : Calls Try.prog 6 #[p, .int .i64 f, .int .i64 t, .string s] w fun e w' => e = .returned (.int .i64 3) ∧ w' = w := by
  obtain ⟨d, e, rfl, rfl, rfl, rfl, h5, h6, h7, h8, h9, h10⟩ := h
  exact send_long d f t s w h5 hs
theorem count_two (h : Two W p l q m w) (f t : Int) (hL : l.length ≤ 100000) : Calls Try.prog 8 #[p, .int .i64 f, .int .i64 t] w fun e w' => e = .returned (.int .i64 ((qu l (f, t)).length : Int)) ∧ Two W p l q m w' := by
  have hh := h
  obtain ⟨d, e, rfl, rfl, rfl, rfl, h5, h6, h7, h8, h9, h10⟩ := h
  exact (Count_any d f t w h5 hL).mono fun e w' hb => ⟨hb.1, hh.keeps hb.2⟩
theorem take_two (h : Two W p l q m w) (f t : Int) (j : Nat) (i : Int) (hij : i = (j : Int)) (hL : l.length ≤ 100000) (hj : j < (qu l (f, t)).length) : Calls Try.prog 7 #[p, .int .i64 f, .int .i64 t, .int .i64 i] w fun e w' => e = .returned (.tuple #[.string (qu l (f, t))[j], .int .i64 0]) ∧ ∃ l', qu l' (f, t) = (qu l (f, t)).eraseIdx j ∧ l'.length ≤ l.length ∧ Two W p l' q m w' := by
  subst hij
  obtain ⟨d, e, rfl, rfl, rfl, rfl, h5, h6, h7, h8, h9, h10⟩ := h
  obtain ⟨l', h1, h2, hc⟩ := take_yes d f t j w h5 hL hj
  exact hc.mono fun e w' hh => ⟨(two_turned h6 h7 h8 h9 h10 hh).1, l', h1, h2, (two_turned h6 h7 h8 h9 h10 hh).2⟩
end

set_option maxRecDepth 100000 in
/-- Two new fabrics. -/
theorem two_new {W w w' : World} {A B : Nat} (h : Fab W (.pointer (some ⟨A, 0, none⟩)) [] w) (hn : ∃ d : FV, d.ptr = .pointer (some ⟨B, 0, none⟩) ∧ d.l = [] ∧ d.In w' ∧ Below w.heap.size w w' ∧ ∀ k, d.mine k → w.heap.size ≤ k) : Two W (.pointer (some ⟨A, 0, none⟩)) [] (.pointer (some ⟨B, 0, none⟩)) [] w' := by
  obtain ⟨d, h1, h2, h3, h4, h5⟩ := h
  obtain ⟨e, k1, k2, k3, k4, k5⟩ := hn
  exact ⟨d, e, h1, h2, k1, k2, h3.keeps k4, k3, h4.trans (k4.mono h4.size), h5, fun k hk => Nat.le_trans h4.size (k5 k hk), fun k a b => by
    have := h3.mineLt k a
    have := k5 k b
    omega⟩

/-! ### Queues -/
theorem qu_add_same (l : List MB) (way : Int × Int) (s : ByteArray) : qu (addL l (way, s)) way = if (qu l way).length < 64 then qu l way ++ [s] else qu l way := by
  unfold addL
  split
  · rw [qu_app, qu_one, if_pos rfl]
  · rfl
theorem qu_add_other (l : List MB) (way : Int × Int) (x : MB) (h : ¬ x.1 = way) : qu (addL l x) way = qu l way := by
  unfold addL
  split
  · rw [qu_app, qu_one, if_neg h, List.append_nil]
  · rfl
theorem addL_length (l : List MB) (x : MB) : (addL l x).length ≤ l.length + 1 := by
  unfold addL
  split
  · simp
  · omega
theorem addE_cases (l : List MB) (x : MB) : addE l x = 0 ∨ addE l x = 6 := by
  unfold addE
  split
  · exact .inl rfl
  · exact .inr rfl

/-! ### Texts of an argument -/
/-- The slice of texts with address A: where there is one, it lies in old memory. -/
def Strs (w : World) (A : Option Addr) (l : List ByteArray) : Prop := ∀ i (h : i < l.length), ∃ g off, A = some ⟨g, off, none⟩ ∧ g < w.heap.size ∧ w.cell? ⟨g, off + i, none⟩ = some (.string l[i])
theorem Strs.at_ {W : World} {A : Option Addr} {l : List ByteArray} (h : Strs W A l) {i : Nat} (hi : i < l.length) : ∃ g off, A = some ⟨g, off, none⟩ ∧ Hid (∀ j (hj : j < l.length) w, Below W.heap.size W w → w.cell? ⟨g, off + j, none⟩ = some (.string l[j])) := by
  obtain ⟨g, off, e, hg, hc⟩ := h i hi
  refine ⟨g, off, e, Lib.hid fun j hj w hb => ?_⟩
  obtain ⟨g', off', e', hg', hc'⟩ := h j hj
  rw [e] at e'
  injection e' with e'
  injection e' with e1 e2 e3
  subst e1 e2
  exact (hb.cell (p := ⟨g, off + j, none⟩) hg).trans hc'

/-! ### Many zeros -/
theorem run_text_ {P : Program} {T src : TypeId} {e : TypeId} (hs : P.underlying src = some (.slice e)) (he : P.underlying e = some (.int .u8)) (w : World) (A : Option Addr) (l : List UInt8) (n c : Nat) (hn : l.length = n) (hr : Reads T w A l) :
    ∀ dst, P.underlying dst = some .string → (convert src dst (.slice A n c)).run P w = .ok (.string ⟨l.toArray⟩) w := by
  subst hn
  intro dst hd
  rcases Nat.eq_zero_or_pos l.length with h0 | h0
  · obtain rfl : l = [] := List.eq_nil_of_length_eq_zero h0
    rw [run_convert_bytes_string w src dst e A _ c hs he hd]
    cases A with
    | none => simp [Conv.bytesToString]; rfl
    | some a =>
      have := run_bytesToString (P := P) w a 0 c [] (by simp [loadCells]; rfl)
      exact this
  · obtain ⟨g, off, cs, m, rfl, hrow, hc⟩ := hr h0
    have h := run_convert_bytes_arg (P := P) w src e hs he g off l.length c (l.map fun b => (b.toNat : Int)) (by simp) (fun i hi => by
      rw [hrow.cell, hc i hi, byt_get l i hi]
      simp [List.getD, List.getElem?_eq_getElem hi]) dst hd
    have e : strOfNums (l.map fun b => (b.toNat : Int)) = ⟨l.toArray⟩ := by
      unfold strOfNums
      rw [List.map_map, show ((fun n : Int => UInt8.ofNat n.toNat) ∘ fun b : UInt8 => (b.toNat : Int)) = id from funext fun b => by simp, List.map_id]
    rw [h, e]
/-- Bytes as a text. -/
theorem text_bytes {T : TypeId} (A : Option Addr) (l : List UInt8) (n c : Nat) (w : World) (hn : l.length = n) (hr : Reads T w A l) : (convert 31 9 (.slice A n c)).run Try.prog w = .ok (.string ⟨l.toArray⟩) w :=
  run_text_ Try.underlying31 Try.underlying5 w A l n c hn hr _ Try.underlying9

set_option maxRecDepth 100000 in
theorem zeros_text (n : Nat) (hn : n ≤ 281474976710656) (i : Int) (hi : i = (n : Int)) : ∃ (o : Obj) (X : ByteArray), X.size = n ∧ ∀ w, (Instr.makeSlice 31 (.int .i64 i) (.int .i64 i)).run Try.prog w = .ok (.slice (some ⟨w.heap.size, 0, none⟩) n n) (w.alloc o) ∧ (convert 31 9 (.slice (some ⟨w.heap.size, 0, none⟩) n n)).run Try.prog (w.alloc o) = .ok (.string X) (w.alloc o) := by
  refine ⟨.cells (byt (List.replicate n 0)).toArray 5, ⟨(List.replicate n 0).toArray⟩, by simp [ByteArray.size], fun w => ⟨makeZeros n hn i hi w, ?_⟩⟩
  exact text_bytes (T := 5) (some ⟨w.heap.size, 0, none⟩) (List.replicate n 0) n n _ List.length_replicate (fun _ => ⟨_, 0, _, _, rfl, Row.new w 5 (byt (List.replicate n 0)) (0, 0), fun j _ => by rw [Nat.zero_add]⟩)
end Go.Proofs.Ytamanckcnhhaiaa
