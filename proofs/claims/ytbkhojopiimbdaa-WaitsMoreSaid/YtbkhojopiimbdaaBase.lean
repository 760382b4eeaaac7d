/-
  Plain words for the proofs on package octet: bytes as cells, big-endian numbers as lists of bytes, what became of the memory. No program is read here.
-/
import Derived.WalkKit
import Derived.WalkSpells
import Derived.WalkLawsBesides
import Derived.Laws.CopyOwn
import Derived.Laws.Rows
import Derived.Laws.NewBlocks
import Derived.Lib.Hide
import Derived.Lib.EndianBits
import Derived.Lib.BufferWrite
namespace Go.Proofs.Ytbkhojopiimbdaa
open Go.RowKit

/-- The bytes of a list, as cells. -/
def byt (l : List UInt8) : List Value := l.map fun c => .int .u8 (c.toNat : Int)

theorem byt_length (l : List UInt8) : (byt l).length = l.length := by simp [byt]
theorem byt_append (a b : List UInt8) : byt (a ++ b) = byt a ++ byt b := by simp [byt]
theorem byt_get (l : List UInt8) (j : Nat) (h : j < l.length) : (byt l)[j]? = some (.int .u8 (l[j].toNat : Int)) := by
  simp [byt, List.getElem?_eq_getElem h]
theorem byt_one (l : List UInt8) : ∀ u ∈ byt l, u.oneCell' = true := by
  intro u hu
  obtain ⟨_, _, rfl⟩ := List.mem_map.1 hu
  rfl
theorem byt_take (l : List UInt8) (n : Nat) : byt (l.take n) = (byt l).take n := by simp [byt, List.map_take]
theorem byt_drop (l : List UInt8) (n : Nat) : byt (l.drop n) = (byt l).drop n := by simp [byt, List.map_drop]

/-- Block g holds the cells cs of type t, and bears the mark m. -/
def Row (w : World) (g : Nat) (t : TypeId) (cs : List Value) (m : Nat × Nat) : Prop := w.heap[g]? = some (.cells cs.toArray t m)

section
variable {w w' : World} {g : Nat} {t : TypeId} {cs : List Value} {m : Nat × Nat}
theorem Row.lt (h : Row w g t cs m) : g < w.heap.size := by
  rcases Nat.lt_or_ge g w.heap.size with hlt | hge
  · exact hlt
  · unfold Row at h; rw [Array.getElem?_eq_none hge] at h; cases h
theorem Row.cell (h : Row w g t cs m) (i : Nat) : w.cell? ⟨g, i, none⟩ = cs[i]? := by
  have := cell_of_row w g i cs.toArray t m h
  simpa using this
theorem Row.loose (h : Row w g t cs (0, 0)) (i : Nat) : w.frozen? ⟨g, i, none⟩ = false := by
  unfold Row at h; simp [World.frozen?, h]
theorem Row.drewN (h : Row w g t cs m) (n : Nat) : Row (w.drewN n) g t cs m := h
theorem Row.drew (h : Row w g t cs m) : Row w.drew g t cs m := h
theorem Row.grown {r : Option Nat} (h : Row w g t cs m) (hb : w.grownBy w' r) (hg : some g ≠ r) : Row w' g t cs m := (hb.block g h.lt hg).trans h
theorem Row.below {B : Nat} (h : Row w g t cs m) (hb : Below B w w') (hg : g < B) : Row w' g t cs m := (hb.block g hg).trans h
theorem Row.alloc (h : Row w g t cs m) (o : Obj) : Row (w.alloc o) g t cs m := (Below.heap_alloc w o g h.lt).trans h
theorem Row.new (w : World) (t : TypeId) (cs : List Value) (m : Nat × Nat) : Row (w.alloc (.cells cs.toArray t m)) w.heap.size t cs m := heap_alloc_new w _
theorem Row.put (h : Row w g t cs m) (i : Nat) (u : Value) : Row (w.setCell ⟨g, i, none⟩ u) g t (cs.set i u) m := by
  unfold Row at h ⊢
  simp [World.setCell, Array.getElem?_modify, h]
theorem Row.far (h : Row w g t cs m) {p : Addr} (hp : g ≠ p.block) (u : Value) : Row (w.setCell p u) g t cs m := (Below.heap_setCell w p u g hp).trans h
theorem Row.ne_ {g' : Nat} {t' : TypeId} {cs' : List Value} {m' : Nat × Nat} (h : Row w g t cs m) (h' : Row w g' t' cs' m') (hne : t ≠ t') : g ≠ g' := by
  rintro rfl
  unfold Row at h h'
  rw [h] at h'
  injection h' with h'
  injection h' with _ ht
  exact hne ht
end

/-- The slice with address A and these bytes: where there is a byte, it lies in a block of bytes. -/
def Reads (T : TypeId) (w : World) (A : Option Addr) (l : List UInt8) : Prop :=
  0 < l.length → ∃ g off cs m, A = some ⟨g, off, none⟩ ∧ Row w g T cs m ∧ ∀ j, j < l.length → cs[off + j]? = (byt l)[j]?

section
variable {T : TypeId} {w w' : World} {A : Option Addr} {l : List UInt8}
theorem Reads.nil : Reads T w A [] := fun h => by simp at h
theorem Reads.cell (h : Reads T w A l) {j : Nat} (hj : j < l.length) : ∃ g off, A = some ⟨g, off, none⟩ ∧ w.cell? ⟨g, off + j, none⟩ = some (.int .u8 (l[j].toNat : Int)) := by
  obtain ⟨g, off, cs, m, hA, hr, hc⟩ := h (by omega)
  exact ⟨g, off, hA, by rw [hr.cell, hc j hj, byt_get l j hj]⟩
theorem Reads.grown {r : Option Nat} (h : Reads T w A l) (hb : w.grownBy w' r) (hr : ∀ g t cs m, Row w g t cs m → r = some g → t ≠ T) : Reads T w' A l := fun h0 => by
  obtain ⟨g, off, cs, m, hA, hrow, hc⟩ := h h0
  exact ⟨g, off, cs, m, hA, hrow.grown hb (fun e => hr g _ _ _ hrow e.symm rfl), hc⟩
theorem Reads.below {B : Nat} (h : Reads T w A l) (hb : Below B w w') (hB : w.heap.size ≤ B) : Reads T w' A l := fun h0 => by
  obtain ⟨g, off, cs, m, hA, hrow, hc⟩ := h h0
  exact ⟨g, off, cs, m, hA, hrow.below hb (Nat.lt_of_lt_of_le hrow.lt hB), hc⟩
theorem Reads.take (h : Reads T w A l) (n : Nat) : Reads T w A (l.take n) := fun h0 => by
  rw [List.length_take] at h0
  obtain ⟨g, off, cs, m, hA, hrow, hc⟩ := h (by omega)
  refine ⟨g, off, cs, m, hA, hrow, fun j hj => ?_⟩
  rw [List.length_take] at hj
  rw [hc j (by omega), byt_take, List.getElem?_take, if_pos (by omega)]
theorem Reads.drop (h : Reads T w A l) (n cap : Nat) (hc : l.length ≤ cap) : Reads T w (if cap = n then A else A.map (·.add n)) (l.drop n) := fun h0 => by
  rw [List.length_drop] at h0
  obtain ⟨g, off, cs, m, rfl, hrow, hcs⟩ := h (by omega)
  rw [if_neg (by omega)]
  refine ⟨g, off + n, cs, m, by simp [Addr.add_lit], hrow, fun j hj => ?_⟩
  rw [List.length_drop] at hj
  rw [Nat.add_assoc, hcs (n + j) (by omega), byt_drop, List.getElem?_drop]
end

theorem only_refl (w : World) (r : Option Nat) : w.grownBy w r := ⟨rfl, rfl, rfl, Nat.le_refl _, fun _ _ _ => rfl⟩
theorem only_drawn (w : World) (d : Nat) (r : Option Nat) : w.grownBy (w.drewN d) r := ⟨rfl, rfl, rfl, Nat.le_refl _, fun _ _ _ => rfl⟩
theorem only_below {a w : World} (h : Below a.heap.size a w) (r : Option Nat) : a.grownBy w r := ⟨h.os, h.tape, h.output, h.size, fun i hi _ => h.block i hi⟩
theorem below_only {a w : World} (h : a.grownBy w none) : Below a.heap.size a w := ⟨h.os, h.tape, h.output, h.size, fun i hi => h.block i hi (by simp)⟩
theorem only_trans {a b c : World} {r : Option Nat} (h : a.grownBy b r) (k : b.grownBy c r) : a.grownBy c r :=
  ⟨k.os.trans h.os, k.tape.trans h.tape, k.output.trans h.output, Nat.le_trans h.size k.size, fun i hi hn => (k.block i (Nat.lt_of_lt_of_le hi h.size) hn).trans (h.block i hi hn)⟩
theorem only_put {a w : World} {g : Nat} (h : a.grownBy w (some g)) (i : Nat) (u : Value) : a.grownBy (w.setCell ⟨g, i, none⟩ u) (some g) :=
  ⟨h.os, h.tape, h.output, by simpa [World.setCell] using h.size, fun k hk hn => (Below.heap_setCell w ⟨g, i, none⟩ u k (fun e => hn (by rw [e]))).trans (h.block k hk hn)⟩

/-- The lowest k bytes of n, the most significant first. -/
def be (n : Nat) : Nat → List UInt8
  | 0 => []
  | k + 1 => UInt8.ofNat (n / 256 ^ k) :: be n k

theorem be_length (n : Nat) : ∀ k, (be n k).length = k
  | 0 => rfl
  | k + 1 => by simp [be, be_length n k]

/-- What bytes stand for. -/
def val (l : List UInt8) : Nat := l.foldl (fun n c => n * 256 + c.toNat) 0

theorem val_snoc (l : List UInt8) (c : UInt8) : val (l ++ [c]) = val l * 256 + c.toNat := by simp [val]
theorem val_nil : val [] = 0 := rfl
theorem val_lt (l : List UInt8) : val l < 256 ^ l.length := by
  suffices h : ∀ r : List UInt8, val r.reverse < 256 ^ r.length by
    have := h l.reverse
    simpa using this
  intro r
  induction r with
  | nil => simp [val]
  | cons c r ih =>
    rw [List.reverse_cons, val_snoc, List.length_cons, Nat.pow_succ]
    have := c.toNat_lt
    omega
theorem val_le {l : List UInt8} (h : l.length ≤ 8) : val l < 256 ^ 8 := Nat.lt_of_lt_of_le (val_lt l) (Nat.pow_le_pow_right (by omega) h)

/-- Has a string such a width? Has a number? -/
def isT (n : Int) : Bool := n == 1 || n == 2 || n == 4
def isW (n : Int) : Bool := n == 8 || isT n

theorem isT_cases {n : Int} (h : isT n = true) : n = 1 ∨ n = 2 ∨ n = 4 := by
  simp only [isT, Bool.or_eq_true, beq_iff_eq] at h; omega
theorem isW_cases {n : Int} (h : isW n = true) : n = 1 ∨ n = 2 ∨ n = 4 ∨ n = 8 := by
  simp only [isW, isT, Bool.or_eq_true, beq_iff_eq] at h; omega

/-- n * 256 and a byte, joined by bits, are their sum. -/
theorem join_byte (a c : Int) (ha : 0 ≤ a) (ha' : a < 72057594037927936) (hc : 0 ≤ c) (hc' : c < 256) : bits .or .u64 (a * 256) c = a * 256 + c := by
  have h := bits_join .u64 64 (by decide) wraps_u64 8 (a * 256) c (by omega) (by omega) (by omega) hc (by omega) (by omega)
  exact h

end Go.Proofs.Ytbkhojopiimbdaa
