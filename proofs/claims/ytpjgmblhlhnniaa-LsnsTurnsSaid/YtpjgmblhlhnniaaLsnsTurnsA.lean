/-
  Steps of a region that draws its order, each to a world that is a letter: an alloc, a store of a set whole. And the state in the midst of two copies.
-/
import Derived.Test.YtpjgmblhlhnniaaLsnsAsks
import Derived.Test.YtpjgmblhlhnniaaLsnsCodeP
namespace Go.Proofs.Ytpjgmblhlhnniaa
open Go.RowKit

theorem step_alloc_ls {ops : Array Oper} {o : Oper} {a : Act} {w : World} {K : Act → World → Prop} {Q : Exit → Act → World → Prop} {E : Prop} (hgd : o.guard = none) (d : Nat) (hd : o.dst = some d) (ho : o.op = .alloc 25)
    (h : ∀ g W', Below w.heap.size w W' → Row W' g 25 [.int .u64 0, .slice none 0 0] (0, 0) → w.heap.size ≤ g → K (a.put o.dst (.pointer (some ⟨g, 0, none⟩))) W') :
    if Region.wanted o (yielded ops a.tmps) = true then Oper.wp Try.prog o a w K Q else E := by
  have hw : Region.wanted o (yielded ops a.tmps) = true := by simp [Region.wanted, hgd]
  rw [if_pos hw]
  have h' := h w.heap.size _ (below_new w (.cells #[.int .u64 0, .slice none 0 0] 25)) (Row.new w 25 [.int .u64 0, .slice none 0 0] (0, 0)) (Nat.le_refl _)
  unfold Oper.wp execOp
  simp only [ho]
  go_simp
  rw [hd] at h'
  exact h'

theorem step_store_ls {ops : Array Oper} {o : Oper} {a : Act} {w : World} {K : Act → World → Prop} {Q : Exit → Act → World → Prop} {E : Prop} (hgd : o.guard = none) (x y : Operand) (ho : o.op = .store 25 x y)
    (g : Nat) (X : LV) (hx : a.eval x = .pointer (some ⟨g, 0, none⟩)) (hy : a.eval y = .agg #[.int .u64 (X.low : Int), .slice X.A X.n X.c]) (u1 u2 : Value) (hg : Row w g 25 [u1, u2] (0, 0))
    (h : K (a.put o.dst undef) (w.setRow g #[.int .u64 (X.low : Int), .slice X.A X.n X.c])) :
    if Region.wanted o (yielded ops a.tmps) = true then Oper.wp Try.prog o a w K Q else E := by
  have hw : Region.wanted o (yielded ops a.tmps) = true := by simp [Region.wanted, hgd]
  rw [if_pos hw]
  exact wp_store_row 25 x y ho g #[.int .u64 (X.low : Int), .slice X.A X.n X.c] hx hy 25 #[u1, u2] hg Try.size_ls rfl (by
    rw [Array.all_eq_true_iff_forall_mem]
    intro u hu
    simp at hu
    rcases hu with rfl | rfl <;> rfl) h

/-- Numbers that do not lie in this block. -/
def Off (A : Option Addr) (l : List Nat) (g : Nat) : Prop := 0 < l.length → ∀ b o, A = some ⟨b, o, none⟩ → b ≠ g
section
variable {w : World} {A : Option Addr} {l : List Nat} {g : Nat}
theorem RN.off (h : RN w A l) (hg : Off A l g) (cs : Array Value) : RN (w.setRow g cs) A l := fun h0 => by
  obtain ⟨T, g', off, cs', m, hA, hr, hc⟩ := h h0
  exact ⟨T, g', off, cs', m, hA, hr.setRowFar (hg h0 g' off hA) cs, hc⟩
theorem RN.new (h : RN w A l) (hg : w.heap.size ≤ g) : Off A l g := fun h0 b o hA => by
  obtain ⟨T, g', off, cs', m, hA', hr, _⟩ := h h0
  rw [hA] at hA'
  cases hA'
  have := hr.lt
  omega
theorem Own.off {base : Nat} (h : Own base w A l) (hg : g < base) : Off A l g := fun h0 b o hA => by
  obtain ⟨T, g', off, cs', hA', hb, _⟩ := h h0
  rw [hA] at hA'
  cases hA'
  omega
theorem LV.In.off {x : LV} (h : x.In w) (hg : Off x.A x.l g) (cs : Array Value) : x.In (w.setRow g cs) := ⟨h.len, h.cap, h.nil, h.low, h.ins, h.reads.off hg cs⟩
theorem Keep.setRow {w2 : World} (h : Keep w2 w) (hg : w2.heap.size ≤ g) (cs : Array Value) : Keep w2 (w.setRow g cs) := by
  have h' : Below w2.heap.size w2 w := h
  exact ⟨h'.os, h'.tape, h'.output, by simpa [World.setRow] using h'.size, fun i hi => (setRow_other w g i cs (by omega)).trans (h'.block i hi)⟩
end

abbrev ZeroS (W : World) (g : Nat) : Prop := Row W g 25 [.int .u64 0, .slice none 0 0] (0, 0)

/-- One of the two variables: its block (if there is one yet), its copy (if there is one yet), whether it is stored. -/
structure Var1 (w2 : World) (x : LS) (p q : Option Nat) (C : Option LV) (s : Bool) (W : World) : Prop where
  blk : ∀ g, p = some g → w2.heap.size ≤ g ∧ g < W.heap.size ∧ (s = false → ZeroS W g)
  val : ∀ X, C = some X → X.In W ∧ X.s = x ∧ ∀ g, p = some g ∨ q = some g → Off X.A X.l g
  put : s = true → ∃ g X, p = some g ∧ C = some X ∧ LiesS W g X.low X.A X.n X.c

section
variable {w2 W W' : World} {x : LS} {p q : Option Nat} {C : Option LV} {s : Bool}
theorem Var1.below (h : Var1 w2 x p q C s W) (hb : Below W.heap.size W W') : Var1 w2 x p q C s W' where
  blk g e := ⟨(h.blk g e).1, Nat.lt_of_lt_of_le (h.blk g e).2.1 hb.size, fun k => ((h.blk g e).2.2 k).below hb (h.blk g e).2.1⟩
  val X e := ⟨(h.val X e).1.keeps hb, (h.val X e).2⟩
  put k := by
    obtain ⟨g, X, e1, e2, hl⟩ := h.put k
    exact ⟨g, X, e1, e2, hl.keeps hb⟩
/-- The copy has come. -/
theorem Var1.got (h : Var1 w2 x p q none s W) (hb : Below W.heap.size W W') {X : LV} (hX : X.In W') (hs : X.s = x) (ho : Own W.heap.size W' X.A X.l) (hq : ∀ g, q = some g → g < W.heap.size) : Var1 w2 x p q (some X) s W' where
  blk := (h.below hb).blk
  val Y e := by
    cases e
    refine ⟨hX, hs, fun g hg => ho.off ?_⟩
    rcases hg with hg | hg
    · exact (h.blk g hg).2.1
    · exact hq g hg
  put k := by
    obtain ⟨g, X, e1, e2, hl⟩ := h.put k
    cases e2
/-- Its own block has come. -/
theorem Var1.own (h : Var1 w2 x none q C s W) (hb : Below W.heap.size W W') {g : Nat} (hz : ZeroS W' g) (hg : W.heap.size ≤ g) (hw : w2.heap.size ≤ W.heap.size) : Var1 w2 x (some g) q C s W' where
  blk g' e := by
    cases e
    exact ⟨Nat.le_trans hw hg, Row.lt hz, fun _ => hz⟩
  val X e := by
    refine ⟨(h.val X e).1.keeps hb, (h.val X e).2.1, fun g' hg' => ?_⟩
    rcases hg' with hg' | hg'
    · cases hg'
      exact (h.val X e).1.reads.new hg
    · exact (h.val X e).2.2 g' (.inr hg')
  put k := by
    obtain ⟨g, X, e1, e2, hl⟩ := h.put k
    cases e1
/-- The other's block has come. -/
theorem Var1.other (h : Var1 w2 x p none C s W) (hb : Below W.heap.size W W') {g : Nat} (hg : W.heap.size ≤ g) : Var1 w2 x p (some g) C s W' where
  blk := (h.below hb).blk
  val X e := by
    refine ⟨(h.val X e).1.keeps hb, (h.val X e).2.1, fun g' hg' => ?_⟩
    rcases hg' with hg' | hg'
    · exact (h.val X e).2.2 g' (.inl hg')
    · cases hg'
      exact (h.val X e).1.reads.new hg
  put := (h.below hb).put
/-- Stored. -/
theorem Var1.stored {g : Nat} {X : LV} (h : Var1 w2 x (some g) q (some X) false W) : Var1 w2 x (some g) q (some X) true (W.setRow g #[.int .u64 (X.low : Int), .slice X.A X.n X.c]) where
  blk g' e := by
    cases e
    exact ⟨(h.blk g rfl).1, by have := (h.blk g rfl).2.1; simpa [World.setRow] using this, fun k => by cases k⟩
  val Y e := by
    cases e
    exact ⟨(h.val X rfl).1.off ((h.val X rfl).2.2 g (.inl rfl)) _, (h.val X rfl).2⟩
  put _ := ⟨g, X, rfl, rfl, Row.setRow (cs := [.int .u64 (X.low : Int), .slice X.A X.n X.c]) ((h.blk g rfl).2.2 rfl)⟩
/-- The other's is stored. -/
theorem Var1.aside {g : Nat} (h : Var1 w2 x p (some g) C s W) (hne : ∀ g', p = some g' → g' ≠ g) (cs : Array Value) : Var1 w2 x p (some g) C s (W.setRow g cs) where
  blk g' e := ⟨(h.blk g' e).1, by have := (h.blk g' e).2.1; simpa [World.setRow] using this, fun k => Row.setRowFar ((h.blk g' e).2.2 k) (hne g' e) cs⟩
  val X e := ⟨(h.val X e).1.off ((h.val X e).2.2 g (.inr rfl)) cs, (h.val X e).2⟩
  put k := by
    obtain ⟨g', X, e1, e2, hl⟩ := h.put k
    exact ⟨g', X, e1, e2, Row.setRowFar hl (hne g' e1) cs⟩
end

/-- In the midst of two copies. -/
structure TwoC (w2 : World) (x y : LS) (p q : Option Nat) (C D : Option LV) (s t : Bool) (W : World) : Prop where
  keep : Keep w2 W
  one : Var1 w2 x p q C s W
  two : Var1 w2 y q p D t W
  ne : ∀ g g', p = some g → q = some g' → g ≠ g'

section
variable {w2 W W' : World} {x y : LS} {p q : Option Nat} {C D : Option LV} {s t : Bool}
theorem TwoC.start (w : World) (x y : LS) : TwoC w x y none none none none false false w.drew where
  keep := (Keep.refl w).drew
  one := ⟨fun g e => (by cases e), fun X e => (by cases e), fun k => (by cases k)⟩
  two := ⟨fun g e => (by cases e), fun X e => (by cases e), fun k => (by cases k)⟩
  ne g g' e := by cases e
theorem TwoC.got1 (h : TwoC w2 x y p q none D s t W) (hb : Below W.heap.size W W') {X : LV} (hX : X.In W') (hs : X.s = x) (ho : Own W.heap.size W' X.A X.l) : TwoC w2 x y p q (some X) D s t W' :=
  ⟨h.keep.then hb, h.one.got hb hX hs ho fun g e => (h.two.blk g e).2.1, h.two.below hb, h.ne⟩
theorem TwoC.got2 (h : TwoC w2 x y p q C none s t W) (hb : Below W.heap.size W W') {X : LV} (hX : X.In W') (hs : X.s = y) (ho : Own W.heap.size W' X.A X.l) : TwoC w2 x y p q C (some X) s t W' :=
  ⟨h.keep.then hb, h.one.below hb, h.two.got hb hX hs ho fun g e => (h.one.blk g e).2.1, h.ne⟩
theorem TwoC.new1 (h : TwoC w2 x y none q C D s t W) (hb : Below W.heap.size W W') {g : Nat} (hz : ZeroS W' g) (hg : W.heap.size ≤ g) : TwoC w2 x y (some g) q C D s t W' :=
  ⟨h.keep.then hb, h.one.own hb hz hg (Below.size h.keep), h.two.other hb hg, fun g1 g2 e1 e2 => by cases e1; have := (h.two.blk g2 e2).2.1; omega⟩
theorem TwoC.new2 (h : TwoC w2 x y p none C D s t W) (hb : Below W.heap.size W W') {g : Nat} (hz : ZeroS W' g) (hg : W.heap.size ≤ g) : TwoC w2 x y p (some g) C D s t W' :=
  ⟨h.keep.then hb, h.one.other hb hg, h.two.own hb hz hg (Below.size h.keep), fun g1 g2 e1 e2 => by cases e2; have := (h.one.blk g1 e1).2.1; omega⟩
theorem TwoC.put1 {g : Nat} {X : LV} (h : TwoC w2 x y (some g) q (some X) D false t W) : TwoC w2 x y (some g) q (some X) D true t (W.setRow g #[.int .u64 (X.low : Int), .slice X.A X.n X.c]) :=
  ⟨h.keep.setRow (h.one.blk g rfl).1 _, h.one.stored, h.two.aside (fun g' e => (h.ne g g' rfl e).symm) _, h.ne⟩
theorem TwoC.put2 {g : Nat} {X : LV} (h : TwoC w2 x y p (some g) C (some X) s false W) : TwoC w2 x y p (some g) C (some X) s true (W.setRow g #[.int .u64 (X.low : Int), .slice X.A X.n X.c]) :=
  ⟨h.keep.setRow (h.two.blk g rfl).1 _, h.one.aside (fun g' e => h.ne g' g e rfl) _, h.two.stored, h.ne⟩
theorem TwoC.row1 {g : Nat} (h : TwoC w2 x y (some g) q C D false t W) : ZeroS W g := (h.one.blk g rfl).2.2 rfl
theorem TwoC.row2 {g : Nat} (h : TwoC w2 x y p (some g) C D s false W) : ZeroS W g := (h.two.blk g rfl).2.2 rfl
end

/-- Behind the two copies. -/
def Copied (w2 : World) (x y : LS) (s t : Value) (W : World) : Prop :=
  ∃ g h X Y, s = .pointer (some ⟨g, 0, none⟩) ∧ t = .pointer (some ⟨h, 0, none⟩) ∧ AtS W g X ∧ AtS W h Y ∧ X.s = x ∧ Y.s = y ∧ g ≠ h ∧ w2.heap.size ≤ g ∧ w2.heap.size ≤ h ∧ Keep w2 W
theorem TwoC.done {w2 W : World} {x y : LS} {g h : Nat} {X Y : LV} (k : TwoC w2 x y (some g) (some h) (some X) (some Y) true true W) : Copied w2 x y (.pointer (some ⟨g, 0, none⟩)) (.pointer (some ⟨h, 0, none⟩)) W := by
  obtain ⟨g', X', e1, e2, hl⟩ := k.one.put rfl
  cases e1; cases e2
  obtain ⟨g', X', e1, e2, hl2⟩ := k.two.put rfl
  cases e1; cases e2
  exact ⟨g, h, X, Y, rfl, rfl, ⟨hl, (k.one.val X rfl).1⟩, ⟨hl2, (k.two.val Y rfl).1⟩, (k.one.val X rfl).2.1, (k.two.val Y rfl).2.1, k.ne g h rfl rfl, (k.one.blk g rfl).1, (k.two.blk h rfl).1, k.keep⟩

theorem enters_copy : Enters Try.prog 20 := enters_of Try.func20 (by kernel_rfl) rfl

end Go.Proofs.Ytpjgmblhlhnniaa
