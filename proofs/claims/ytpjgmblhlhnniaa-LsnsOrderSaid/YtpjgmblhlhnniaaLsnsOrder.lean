/-
  The walk of the statement LsnsOrder, over what package lsns is held to.
-/
import Derived.Test.YtpjgmblhlhnniaaLsnsAsks
import Derived.Deep.DeepCutAuto
namespace Go.Proofs.Ytpjgmblhlhnniaa
open Go.RowKit

/-- A set that some numbers have been added to, ahead of them there was none above low. -/
structure Adds (low : Nat) (L : List Nat) (s : LS) : Prop where
  lo : s.low = low
  up : asc low s.ins = true
  mem : ∀ x, x ∈ s.ins ↔ low < x ∧ x ∈ L
  len : s.ins.length ≤ L.length

theorem Adds.start (low : Nat) : Adds low [] ⟨low, []⟩ := ⟨rfl, rfl, by simp, by simp⟩
theorem Adds.right {low : Nat} {L : List Nat} {s : LS} (h : Adds low L s) (hl : L.length ≤ 1000) : s.right = true :=
  (LS.right_iff s).2 ⟨Nat.le_trans h.len hl, by rw [h.lo]; exact h.up⟩
theorem Adds.step {low n : Nat} {L L' : List Nat} {s : LS} (h : Adds low L s) (hm : ∀ x, x ∈ L' ↔ x ∈ L ∨ x = n) (hl : L'.length = L.length + 1) (hs : L.length < 1000) : s.addE n = 0 ∧ Adds low L' (s.addS n) := by
  have hr := h.right (by omega)
  obtain ⟨a1, a2, a3⟩ := LS.add_asc hr n
  have hlen : (s.addS n).ins.length ≤ L'.length := by
    have hl1 := h.len
    unfold LS.addS
    split
    · omega
    · have := (len_ins1 n s.ins).1
      show (ins1 n s.ins).length ≤ _
      omega
  refine ⟨?_, a2.trans h.lo, by rw [← h.lo]; exact a1, fun x => ?_, hlen⟩
  · unfold LS.addE
    rw [if_pos hr, if_pos (by omega)]
  · rw [a3, h.mem, hm, h.lo]
    constructor
    · rintro (⟨h1, h2⟩ | ⟨rfl, h1⟩)
      · exact ⟨h1, .inl h2⟩
      · exact ⟨h1, .inr rfl⟩
    · rintro ⟨h1, h2 | rfl⟩
      · exact .inl ⟨h1, h2⟩
      · exact .inr ⟨rfl, h1⟩
/-- Once more is as once. -/
theorem Adds.again {low n : Nat} {L : List Nat} {s : LS} (h : Adds low L s) (hn : n ∈ L) (hs : L.length ≤ 1000) : s.addE n = 0 ∧ s.addS n = s := by
  have hr := h.right hs
  have hh : s.has n = true := (LS.has_iff hr n).2 (by
    rw [h.mem, h.lo]
    rcases Nat.lt_or_ge low n with k | k
    · exact .inr ⟨k, hn⟩
    · exact .inl k)
  have e : s.addS n = s := by unfold LS.addS; rw [if_pos hh]
  refine ⟨?_, e⟩
  unfold LS.addE
  rw [if_pos hr, e, if_pos (LS.right_len hr)]
theorem Adds.same {low : Nat} {L L' : List Nat} {s t : LS} (h : Adds low L s) (k : Adds low L' t) (e : ∀ x, x ∈ L ↔ x ∈ L') : s = t :=
  LS.ext' (h.lo.trans k.lo.symm) (asc_ext h.up k.up fun x => by rw [h.mem, k.mem, e])

theorem Own.setCell {base : Nat} {w : World} {A : Option Addr} {l : List Nat} (h : Own base w A l) {g : Nat} (hg : g < base) (i : Nat) (u : Value) : Own base (w.setCell ⟨g, i, none⟩ u) A l := fun h0 => by
  obtain ⟨T, k, off, cs, hA, hb, hr, hc⟩ := h h0
  exact ⟨T, k, off, cs, hA, hb, hr.far (by show k ≠ g; omega) u, hc⟩
theorem Own.up {base base' : Nat} {w : World} {A : Option Addr} {l : List Nat} (h : Own base w A l) (hb : base' ≤ base) : Own base' w A l := fun h0 => by
  obtain ⟨T, k, off, cs, hA, hk, hr⟩ := h h0
  exact ⟨T, k, off, cs, hA, Nat.le_trans hb hk, hr⟩

/-- In the midst of the loop: the two sets, each in its block, their numbers behind. -/
structure LO (w : World) (low : Nat) (X Y : LV) (LX LY : List Nat) (wr : World) : Prop where
  a : AtS wr w.heap.size X
  b : AtS wr (w.heap.size + 1) Y
  oa : Own (w.heap.size + 2) wr X.A X.l
  ob : Own (w.heap.size + 2) wr Y.A Y.l
  pa : Adds low LX X.s
  pb : Adds low LY Y.s
  below : Below w.heap.size w wr
  big : w.heap.size + 2 ≤ wr.heap.size
theorem LO.keeps {w wr w' : World} {low : Nat} {X Y : LV} {LX LY : List Nat} (h : LO w low X Y LX LY wr) (hb : Below wr.heap.size wr w') : LO w low X Y LX LY w' :=
  ⟨h.a.keeps hb, h.b.keeps hb, h.oa.keeps hb, h.ob.keeps hb, h.pa, h.pb, h.below.trans (hb.mono h.below.size), Nat.le_trans h.big hb.size⟩

/-- A row that has a cell is a row. -/
theorem row_of_cell {w : World} {b off : Nat} {v : Value} (h : w.cell? ⟨b, off, none⟩ = some v) : ∃ T cs m, Row w b T cs m := by
  unfold World.cell? at h
  split at h
  · rename_i c t m hb
    exact ⟨t, c.toList, m, by unfold Row; rw [Array.toArray_toList]; exact hb⟩
  · cases h

/-- A set that a call has told lies in a new block. -/
structure NewAt (wr wx : World) (g : Nat) (X : LV) : Prop where
  keep : Keep wr wx
  at_ : AtS wx g X
  up : wr.heap.size ≤ g
  own : Own wr.heap.size wx X.A X.l
theorem new_after {wr wx w' : World} {X : LV} (hk : Keep wr wx) (hi : X.In w') (ho : Own wx.heap.size w' X.A X.l) (hk' : Keep wx w') : NewAt wr (w'.alloc (.cells #[.int .u64 (X.low : Int), .slice X.A X.n X.c] 25)) w'.heap.size X :=
  ⟨(hk.then hk').alloc _, AtS.new hi, (hk.then hk').size, (ho.up hk.size).keeps (below_new _ _)⟩
theorem new_before {wr w' : World} {X : LV} (hi : X.In w') (ho : Own ((wr.alloc (.cells #[.int .u64 0, .slice none 0 0] 25)).drew).heap.size w' X.A X.l) (hk' : Keep ((wr.alloc (.cells #[.int .u64 0, .slice none 0 0] 25)).drew) w') :
    NewAt wr ((w'.setCell ⟨wr.heap.size, 0, none⟩ (.int .u64 (X.low : Int))).setCell ⟨wr.heap.size, 1, none⟩ (.slice X.A X.n X.c)) wr.heap.size X := by
  have hk0 : Keep wr ((wr.alloc (.cells #[.int .u64 0, .slice none 0 0] 25)).drew) := ((Keep.refl wr).alloc _).drew
  have hrow : Row w' wr.heap.size 25 [.int .u64 0, .slice none 0 0] (0, 0) := Row.below (Row.drew (Row.new wr 25 [.int .u64 0, .slice none 0 0] (0, 0))) hk' (by show wr.heap.size < (wr.alloc _).heap.size; rw [size_new]; exact Nat.lt_succ_self _)
  have hs : wr.heap.size < ((wr.alloc (.cells #[.int .u64 0, .slice none 0 0] 25)).drew).heap.size := by show wr.heap.size < (wr.alloc _).heap.size; rw [size_new]; exact Nat.lt_succ_self _
  have hf := (ho.setCell hs 0 (.int .u64 (X.low : Int))).setCell hs 1 (.slice X.A X.n X.c)
  have hb : Below wr.heap.size wr ((w'.setCell ⟨wr.heap.size, 0, none⟩ (.int .u64 (X.low : Int))).setCell ⟨wr.heap.size, 1, none⟩ (.slice X.A X.n X.c)) := Below.setCell (Below.setCell (hk0.then hk') (Nat.le_refl _) _) (Nat.le_refl _) _
  exact ⟨hb, ⟨(hrow.put 0 _).put 1 _, ⟨hi.len, hi.cap, hi.nil, hi.low, hi.ins, hf.reads⟩⟩, Nat.le_refl _, hf.up (Nat.le_of_lt hs)⟩
theorem after_cells {wr wx : World} {gx b o : Nat} {X : LV} {u : Value} (hk : Keep wr wx) (h : AtS wr gx X) (hc : wr.cell? ⟨b, o, none⟩ = some u) : wx.cell? ⟨gx, 0, none⟩ = some (.int .u64 (X.low : Int)) ∧ wx.cell? ⟨gx, 1, none⟩ = some (.slice X.A X.n X.c) ∧ wx.cell? ⟨b, o, none⟩ = some u := by
  obtain ⟨T, cs, m, hr⟩ := row_of_cell hc
  exact ⟨(h.keeps hk).c0, (h.keeps hk).c1, by rw [(Row.below hr hk hr.lt).cell, ← hr.cell]; exact hc⟩
theorem zero_cells {wr w' : World} (hk' : Keep ((wr.alloc (.cells #[.int .u64 0, .slice none 0 0] 25)).drew) w') : w'.cell? ⟨wr.heap.size, 0, none⟩ = some (.int .u64 0) ∧ w'.cell? ⟨wr.heap.size, 1, none⟩ = some (.slice none 0 0) ∧ w'.frozen? ⟨wr.heap.size, 0, none⟩ = false ∧ w'.frozen? ⟨wr.heap.size, 1, none⟩ = false := by
  have hrow : Row w' wr.heap.size 25 [.int .u64 0, .slice none 0 0] (0, 0) := Row.below (Row.drew (Row.new wr 25 [.int .u64 0, .slice none 0 0] (0, 0))) hk' (by show wr.heap.size < (wr.alloc _).heap.size; rw [size_new]; exact Nat.lt_succ_self _)
  exact ⟨by rw [hrow.cell]; rfl, by rw [hrow.cell]; rfl, hrow.loose 0, hrow.loose 1⟩

/-- The two sets are laid anew into the two blocks. -/
theorem LO.put {w wr : World} {low : Nat} {X Y X1 Y1 : LV} {LX LY LX1 LY1 : List Nat} (h : LO w low X Y LX LY wr) (hx : X1.In wr) (hy : Y1.In wr) (ox : Own (w.heap.size + 2) wr X1.A X1.l) (oy : Own (w.heap.size + 2) wr Y1.A Y1.l) (px : Adds low LX1 X1.s) (py : Adds low LY1 Y1.s) :
    LO w low X1 Y1 LX1 LY1 ((((wr.setCell ⟨w.heap.size, 0, none⟩ (.int .u64 (X1.low : Int))).setCell ⟨w.heap.size, 1, none⟩ (.slice X1.A X1.n X1.c)).setCell ⟨w.heap.size + 1, 0, none⟩ (.int .u64 (Y1.low : Int))).setCell ⟨w.heap.size + 1, 1, none⟩ (.slice Y1.A Y1.n Y1.c)) ∧
    LO w low X1 Y1 LX1 LY1 ((((wr.setCell ⟨w.heap.size + 1, 0, none⟩ (.int .u64 (Y1.low : Int))).setCell ⟨w.heap.size + 1, 1, none⟩ (.slice Y1.A Y1.n Y1.c)).setCell ⟨w.heap.size, 0, none⟩ (.int .u64 (X1.low : Int))).setCell ⟨w.heap.size, 1, none⟩ (.slice X1.A X1.n X1.c)) := by
  have l1 : w.heap.size < w.heap.size + 2 := by omega
  have l2 : w.heap.size + 1 < w.heap.size + 2 := by omega
  have n1 : w.heap.size ≠ w.heap.size + 1 := by omega
  have n2 : w.heap.size + 1 ≠ w.heap.size := by omega
  have o1 := fun (Z : LV) (hz : Own (w.heap.size + 2) wr Z.A Z.l) => (((hz.setCell l1 0 (.int .u64 (X1.low : Int))).setCell l1 1 (.slice X1.A X1.n X1.c)).setCell l2 0 (.int .u64 (Y1.low : Int))).setCell l2 1 (.slice Y1.A Y1.n Y1.c)
  have o2 := fun (Z : LV) (hz : Own (w.heap.size + 2) wr Z.A Z.l) => (((hz.setCell l2 0 (.int .u64 (Y1.low : Int))).setCell l2 1 (.slice Y1.A Y1.n Y1.c)).setCell l1 0 (.int .u64 (X1.low : Int))).setCell l1 1 (.slice X1.A X1.n X1.c)
  have hin := fun (w' : World) (Z : LV) (hz : Z.In wr) (ho : Own (w.heap.size + 2) w' Z.A Z.l) => (⟨hz.len, hz.cap, hz.nil, hz.low, hz.ins, ho.reads⟩ : Z.In w')
  refine ⟨⟨⟨?_, hin _ _ hx (o1 _ ox)⟩, ⟨?_, hin _ _ hy (o1 _ oy)⟩, o1 _ ox, o1 _ oy, px, py, ?_, by simpa [World.setCell] using h.big⟩, ⟨⟨?_, hin _ _ hx (o2 _ ox)⟩, ⟨?_, hin _ _ hy (o2 _ oy)⟩, o2 _ ox, o2 _ oy, px, py, ?_, by simpa [World.setCell] using h.big⟩⟩
  · exact Row.far (Row.far (Row.put (Row.put h.a.lies 0 _) 1 _) n1 _) n1 _
  · exact Row.put (Row.put (Row.far (Row.far h.b.lies n2 _) n2 _) 0 _) 1 _
  · exact (((h.below.setCell (Nat.le_refl _) _).setCell (Nat.le_refl _) _).setCell (Nat.le_succ _) _).setCell (Nat.le_succ _) _
  · exact Row.put (Row.put (Row.far (Row.far h.a.lies n1 _) n1 _) 0 _) 1 _
  · exact Row.far (Row.far (Row.put (Row.put h.b.lies 0 _) 1 _) n2 _) n2 _
  · exact (((h.below.setCell (Nat.le_succ _) _).setCell (Nat.le_succ _) _).setCell (Nat.le_refl _) _).setCell (Nat.le_refl _) _
theorem LO.drew {w wr : World} {low : Nat} {X Y : LV} {LX LY : List Nat} (h : LO w low X Y LX LY wr) : LO w low X Y LX LY wr.drew := h.keeps (Below.refl _ _).drew
theorem AtS.drew {w : World} {g : Nat} {x : LV} (h : AtS w g x) : AtS w.drew g x := h.keeps (Below.refl _ _).drew
theorem Own.drew {base : Nat} {w : World} {A : Option Addr} {l : List Nat} (h : Own base w A l) : Own base w.drew A l := h.keeps (Below.refl _ _).drew

section
variable (S : LsnsC)
include S

theorem add_own (x : LV) (m : Nat) (w : World) (h : x.In w) (hn : x.n ≤ 1100) (hm : m < 18446744073709551616) :
    Calls Try.prog 21 #[.agg #[.int .u64 (x.low : Int), .slice x.A x.n x.c], .int .u64 (m : Int)] w fun r wr => ∃ Y : LV, r = .returned (.tuple #[.agg #[.int .u64 (Y.low : Int), .slice Y.A Y.n Y.c], .int .i64 (x.s.addE m : Int)]) ∧ Y.s = (x.s.addS m).orZ (x.s.addE m) ∧ Y.In wr ∧ Y.n ≤ 1000 ∧ Own w.heap.size wr Y.A Y.l ∧ Below w.heap.size w wr :=
  (S.add x m w h hn hm).mono fun _ _ ⟨Y, hr, hy, hi, ho, hb⟩ => ⟨Y, hr, hy, hi, by rw [hi.len', hy]; exact LS.right_len (LS.addZ_right _ _), ho, hb⟩

theorem add_before (x : LV) (m : Nat) (wr : World) (h : x.In ((wr.alloc (.cells #[.int .u64 0, .slice none 0 0] 25)).drew)) (hn : x.n ≤ 1100) (hm : m < 18446744073709551616) :
    Calls Try.prog 21 #[.agg #[.int .u64 (x.low : Int), .slice x.A x.n x.c], .int .u64 (m : Int)] ((wr.alloc (.cells #[.int .u64 0, .slice none 0 0] 25)).drew) fun r w' => ∃ Y : LV, r = .returned (.tuple #[.agg #[.int .u64 (Y.low : Int), .slice Y.A Y.n Y.c], .int .i64 (x.s.addE m : Int)]) ∧ Y.s = (x.s.addS m).orZ (x.s.addE m) ∧ Y.In w' ∧ Y.n ≤ 1000 ∧ Own ((wr.alloc (.cells #[.int .u64 0, .slice none 0 0] 25)).drew).heap.size w' Y.A Y.l ∧ Below ((wr.alloc (.cells #[.int .u64 0, .slice none 0 0] 25)).drew).heap.size ((wr.alloc (.cells #[.int .u64 0, .slice none 0 0] 25)).drew) w' ∧
      w'.cell? ⟨wr.heap.size, 0, none⟩ = some (.int .u64 0) ∧ w'.cell? ⟨wr.heap.size, 1, none⟩ = some (.slice none 0 0) ∧ w'.frozen? ⟨wr.heap.size, 0, none⟩ = false ∧ w'.frozen? ⟨wr.heap.size, 1, none⟩ = false :=
  (add_own S x m _ h hn hm).mono fun _ _ ⟨Y, h1, h2, h3, h4, h5, h6⟩ => ⟨Y, h1, h2, h3, h4, h5, h6, zero_cells h6⟩

set_option maxRecDepth 100000 in
set_option maxHeartbeats 8000000 in
theorem order_any (low : Nat) (A : Option Addr) (n c : Nat) (l : List Nat) (w : World) (hl : l.length = n) (hr : RN w A l) (hlow : low < 18446744073709551616) (hl64 : ∀ k ∈ l, k < 18446744073709551616) (hn : n ≤ 9223372036854775807) :
    Calls Try.prog 6 #[.int .u64 (low : Int), .slice A n c] w fun r w' => r = .returned (.bool true) ∧ Below w.heap.size w w' := by
  have HH := Lib.hid (fun w => head_any S w)
  subst hl
  by_cases hbig : 60 < l.length
  · go_enter Try.func6, Try.ntmps6
    go_wp2_with fail
    refine (HH.out _).mono ?_
    rintro r wh ⟨rfl, hbh⟩
    have HBH := Lib.hid hbh
    clear hbh
    go_wp2
    go_ret
    exact ⟨rfl, HBH.out⟩
  · have HR := Lib.hid hr
    have HL64 := Lib.hid hl64
    clear hr hl64
    have hx0 : LV.In w ⟨low, none, 0, 0, []⟩ := ⟨rfl, Nat.le_refl _, fun _ => rfl, hlow, (fun k hk => by cases hk), RN.nil⟩
    have hb0 : Below w.heap.size w ((w.alloc (.cells #[.int .u64 (low : Int), .slice none 0 0] 25)).alloc (.cells #[.int .u64 (low : Int), .slice none 0 0] 25)) := (below_new w _).alloc (by rw [size_new]; omega) _
    have h2 := AtS.new (x := ⟨low, none, 0, 0, []⟩) (hx0.alloc (.cells #[.int .u64 (low : Int), .slice none 0 0] 25))
    rw [size_new] at h2
    have H0 := Lib.hid (show LO w low ⟨low, none, 0, 0, []⟩ ⟨low, none, 0, 0, []⟩ [] [] _ from ⟨(AtS.new hx0).alloc _, h2, fun h => by (simp at h), fun h => by (simp at h), Adds.start low, Adds.start low, hb0, by rw [size_new, size_new]; omega⟩)
    clear hx0 hb0 h2
    go_enter Try.func6, Try.ntmps6
    go_wp2_with fail
    go_loopw [7] (fun i wr => ∃ (k : Nat) (X Y : LV), k ≤ l.length ∧ i = .int .i64 k ∧ LO w low X Y (l.take k) (l.drop (l.length - k)) wr) (fun i _ => l.length - (intOf i).toNat)
    case atStart => exact ⟨0, _, _, by omega, rfl, by simpa using H0.out⟩
    case round =>
      clear H0
      obtain ⟨k, X, Y, hk, rfl, hlo⟩ := hrel
      have HLO := Lib.hid hlo
      clear hlo
      by_cases hlt : k < l.length
      · obtain ⟨g, off, rfl, hcell⟩ := HR.out.cells (by omega)
        go_upto_region 7 with fail
        have h64 : l[k] < 18446744073709551616 := HL64.out _ (List.getElem_mem hlt)
        have hnX : X.n ≤ 1100 := by have h1 := HLO.out.pa.len; have h2 := HLO.out.a.isIn.len'; rw [List.length_take] at h1; omega
        have hk1 : wr.cell? ⟨g, off + k, none⟩ = some (.int .u64 (l[k] : Int)) := by
          obtain ⟨g', off', hg', hcell'⟩ := (HR.out.below HLO.out.below (Nat.le_refl _)).cells (by omega)
          simp only [Option.some.injEq, Addr.mk.injEq, and_true] at hg'
          obtain ⟨rfl, rfl⟩ := hg'
          exact hcell' k hlt
        obtain ⟨y, hy⟩ : ∃ y, l[k] = y := ⟨_, rfl⟩
        rw [hy] at h64 hk1
        have HY := Lib.hid hy
        clear hcell hy
        try go_frame
        go_cut [8, 9] (fun s t wx => ∃ g X', s = .pointer (some ⟨g, 0, none⟩) ∧ t = .int .i64 (X.s.addE y : Int) ∧ NewAt wr wx g X' ∧ X'.s = (X.s.addS y).orZ (X.s.addE y) ∧ X'.n ≤ 1000)
        case first =>
          have c0 := HLO.out.a.c0
          have c1 := HLO.out.a.c1
          have hkA : Keep wr wr.drew := (Keep.refl wr).drew
          have hkB : Keep wr ((wr.alloc (.cells #[.int .u64 0, .slice none 0 0] 25)).drew) := ((Keep.refl wr).alloc _).drew
          have KA := Lib.hid (fun wx (hk : Keep wr wx) => add_own S X y wx (HLO.out.a.isIn.keeps hk) hnX h64)
          have KB := Lib.hid (add_before S X y wr (HLO.out.a.isIn.keeps hkB) hnX h64)
          have KC := Lib.hid (KA.out _ hkA)
          clear KA
          obtain ⟨a0, a1, a2⟩ := after_cells hkB HLO.out.a hk1
          first
            | (go_region_with (first
                | (go_at_call 21; ((with_reducible refine KB.out.mono ?_); rintro r w' ⟨X', rfl, hX', hi', hn', ho', hb', z0, z1, f0, f1⟩))
                | (go_at_call 21; ((with_reducible refine KC.out.mono ?_); rintro r w' ⟨X', rfl, hX', hi', hn', ho', hb'⟩))))
            | fail "region"
          all_goals go_wp2_with fail
          all_goals go_meet
          all_goals first
            | exact ⟨_, X', rfl, rfl, new_after hkA hi' ho' hb', hX', hn'⟩
            | exact ⟨_, X', rfl, rfl, new_before hi' ho' hb', hX', hn'⟩
        case rest =>
          obtain ⟨gX, X1, rfl, rfl, hnew, hX1, hnX1⟩ := hcut
          rename World => wr1
          have hst := HLO.out.pa.step (n := y) (L' := l.take (k + 1)) (fun x => by rw [List.take_succ_eq_append_getElem hlt, HY.out, List.mem_append, List.mem_singleton]) (by rw [List.length_take, List.length_take]; omega) (by rw [List.length_take]; omega)
          rw [hst.1]
          rw [hst.1] at hX1
          have HPX := Lib.hid (show Adds low (l.take (k + 1)) X1.s by rw [hX1]; exact hst.2)
          have HN1 := Lib.hid hnew
          have HLO1 := Lib.hid (HLO.out.keeps hnew.keep)
          have HUP1 := Lib.hid (Nat.le_trans HLO.out.big hnew.up)
          have HOX1 := Lib.hid (hnew.own.up HLO.out.big)
          clear hnew hX1 hst HLO hk1 hnX h64
          obtain ⟨j, hj⟩ : ∃ j, l.length = k + 1 + j := ⟨l.length - (k + 1), by omega⟩
          have hjl : j < l.length := by omega
          have HJL := Lib.hid hj
          have HDR := Lib.hid (show l.drop (l.length - (k + 1)) = l[j] :: l.drop (l.length - k) by
            have e1 : l.length - (k + 1) = j := by omega
            have e2 : l.length - k = j + 1 := by omega
            rw [e1, e2]; exact List.drop_eq_getElem_cons hjl)
          have h641 : l[j] < 18446744073709551616 := HL64.out _ (List.getElem_mem hjl)
          obtain ⟨z, hz⟩ : ∃ z, l[j] = z := ⟨_, rfl⟩
          rw [hz] at h641 HDR
          have HZ := Lib.hid hz
          clear hz
          have hidx : IntKind.i64.wrap (IntKind.i64.wrap ((l.length : Int) - 1) - (k : Int)) = (j : Int) := by rw [IntKind.wrap_i64, IntKind.wrap_i64]; omega
          clear hj
          have hnY : Y.n ≤ 1100 := by have h1 := HLO1.out.pb.len; have h2 := HLO1.out.b.isIn.len'; rw [List.length_drop] at h1; omega
          have hk2 : wr1.cell? ⟨g, off + j, none⟩ = some (.int .u64 (z : Int)) := by
            obtain ⟨g', off', hg', hcell'⟩ := (HR.out.below HLO1.out.below (Nat.le_refl _)).cells (by omega)
            simp only [Option.some.injEq, Addr.mk.injEq, and_true] at hg'
            obtain ⟨rfl, rfl⟩ := hg'
            rw [hcell' j hjl, HZ.out]
          go_upto_region 8 with fail
          try go_frame
          go_cut [10, 11] (fun s t wx => ∃ g X', s = .pointer (some ⟨g, 0, none⟩) ∧ t = .int .i64 (Y.s.addE z : Int) ∧ NewAt wr1 wx g X' ∧ X'.s = (Y.s.addS z).orZ (Y.s.addE z) ∧ X'.n ≤ 1000)
          case first =>
            have d0 := HLO1.out.b.c0
            have d1 := HLO1.out.b.c1
            have hkA : Keep wr1 wr1.drew := (Keep.refl wr1).drew
            have hkB : Keep wr1 ((wr1.alloc (.cells #[.int .u64 0, .slice none 0 0] 25)).drew) := ((Keep.refl wr1).alloc _).drew
            have KA := Lib.hid (fun wx (hk : Keep wr1 wx) => add_own S Y z wx (HLO1.out.b.isIn.keeps hk) hnY h641)
            have KB := Lib.hid (add_before S Y z wr1 (HLO1.out.b.isIn.keeps hkB) hnY h641)
            have KC := Lib.hid (KA.out _ hkA)
            clear KA
            obtain ⟨a0, a1, a2⟩ := after_cells hkB HLO1.out.b hk2
            first
              | (go_region_with (first
                  | (go_at_call 21; ((with_reducible refine KB.out.mono ?_); rintro r w' ⟨X', rfl, hX', hi', hn', ho', hb', z0, z1, f0, f1⟩))
                  | (go_at_call 21; ((with_reducible refine KC.out.mono ?_); rintro r w' ⟨X', rfl, hX', hi', hn', ho', hb'⟩))))
              | fail "region"
            all_goals go_wp2_with fail
            all_goals go_meet
            all_goals first
              | exact ⟨_, X', rfl, rfl, new_after hkA hi' ho' hb', hX', hn'⟩
              | exact ⟨_, X', rfl, rfl, new_before hi' ho' hb', hX', hn'⟩
          case rest =>
            obtain ⟨gY, Y1, rfl, rfl, hnew, hY1, hnY1⟩ := hcut
            rename World => wr2
            have hst := HLO1.out.pb.step (n := z) (L' := l.drop (l.length - (k + 1))) (fun x => by rw [HDR.out, List.mem_cons, or_comm]) (by rw [HDR.out, List.length_cons]) (by rw [List.length_drop]; omega)
            rw [hst.1]
            rw [hst.1] at hY1
            have HPY := Lib.hid (show Adds low (l.drop (l.length - (k + 1))) Y1.s by rw [hY1]; exact hst.2)
            have HAG := Lib.hid (HPY.out.again (n := z) (by rw [HDR.out]; exact List.mem_cons_self) (by rw [List.length_drop]; omega))
            have HN2 := Lib.hid hnew
            have HLO2 := Lib.hid (HLO1.out.keeps hnew.keep)
            have HX2 := Lib.hid (HN1.out.at_.keeps hnew.keep)
            have HOX2 := Lib.hid (HOX1.out.keeps hnew.keep)
            have HOY2 := Lib.hid (hnew.own.up HLO1.out.big)
            have HUP2 := Lib.hid (Nat.le_trans HLO1.out.big hnew.up)
            clear hnew hY1 hst HLO1 hk2 hnY HN1 HOX1
            have h642 := h641
            clear h641
            have hnY1 : Y1.n ≤ 1100 := by omega
            have hk3 : wr2.cell? ⟨g, off + j, none⟩ = some (.int .u64 (z : Int)) := by
              obtain ⟨g', off', hg', hcell'⟩ := (HR.out.below HLO2.out.below (Nat.le_refl _)).cells (by omega)
              simp only [Option.some.injEq, Addr.mk.injEq, and_true] at hg'
              obtain ⟨rfl, rfl⟩ := hg'
              rw [hcell' j hjl, HZ.out]
            go_upto_region 9 with fail
            try go_frame
            go_cut [12, 13] (fun s t wx => ∃ g X', s = .pointer (some ⟨g, 0, none⟩) ∧ t = .int .i64 (Y1.s.addE z : Int) ∧ NewAt wr2 wx g X' ∧ X'.s = (Y1.s.addS z).orZ (Y1.s.addE z) ∧ X'.n ≤ 1000)
            case first =>
              have d0 := HN2.out.at_.c0
              have d1 := HN2.out.at_.c1
              have hkA : Keep wr2 wr2.drew := (Keep.refl wr2).drew
              have hkB : Keep wr2 ((wr2.alloc (.cells #[.int .u64 0, .slice none 0 0] 25)).drew) := ((Keep.refl wr2).alloc _).drew
              have KA := Lib.hid (fun wx (hk : Keep wr2 wx) => add_own S Y1 z wx (HN2.out.at_.isIn.keeps hk) hnY1 h642)
              have KB := Lib.hid (add_before S Y1 z wr2 (HN2.out.at_.isIn.keeps hkB) hnY1 h642)
              have KC := Lib.hid (KA.out _ hkA)
              clear KA
              obtain ⟨a0, a1, a2⟩ := after_cells hkB HN2.out.at_ hk3
              first
                | (go_region_with (first
                    | (go_at_call 21; ((with_reducible refine KB.out.mono ?_); rintro r w' ⟨X', rfl, hX', hi', hn', ho', hb', z0, z1, f0, f1⟩))
                    | (go_at_call 21; ((with_reducible refine KC.out.mono ?_); rintro r w' ⟨X', rfl, hX', hi', hn', ho', hb'⟩))))
                | fail "region"
              all_goals go_wp2_with fail
              all_goals go_meet
              all_goals first
                | exact ⟨_, X', rfl, rfl, new_after hkA hi' ho' hb', hX', hn'⟩
                | exact ⟨_, X', rfl, rfl, new_before hi' ho' hb', hX', hn'⟩
            case rest =>
              obtain ⟨gZ, Z1, rfl, rfl, hnew, hZ1, hnZ1⟩ := hcut
              rename World => wr3
              rw [HAG.out.1]
              rw [HAG.out.1, HAG.out.2] at hZ1
              have HZ1 := Lib.hid (show Z1.s = Y1.s from hZ1)
              have HLO3 := Lib.hid (HLO2.out.keeps hnew.keep)
              have HX3 := Lib.hid (HX2.out.keeps hnew.keep)
              have HY3 := Lib.hid (HN2.out.at_.keeps hnew.keep)
              have HZ3 := Lib.hid hnew.at_
              have HOX3 := Lib.hid (HOX2.out.keeps hnew.keep)
              have HOZ3 := Lib.hid (hnew.own.up HLO2.out.big)
              have HUP3 := Lib.hid (Nat.le_trans HLO2.out.big hnew.up)
              clear hnew hZ1 HLO2 HX2 HN2 HOX2 HOY2 hk3 h642 hidx
              have y0 := HY3.out.c0
              have y1 := HY3.out.c1
              have z0 := HZ3.out.c0
              have z1 := HZ3.out.c1
              go_wp2_with fail
              clear y0 y1 z0 z1
              refine (S.same Y1 Z1 _ HY3.out.isIn HZ3.out.isIn hnY1 (by omega)).mono ?_
              rintro r wr4 ⟨rfl, hb4⟩
              rw [decide_eq_true (show Y1.s = Z1.s from HZ1.out.symm)]
              have HLO4 := Lib.hid (HLO3.out.keeps hb4)
              have HX4 := Lib.hid (HX3.out.keeps hb4)
              have HZ4 := Lib.hid (HZ3.out.keeps hb4)
              have HOX4 := Lib.hid (HOX3.out.keeps hb4)
              have HOZ4 := Lib.hid (HOZ3.out.keeps hb4)
              clear hb4 HLO3 HX3 HY3 HZ3 HOX3 HOZ3
              go_upto_region 12 with fail
              have x0 := HX4.out.c0
              have x1 := HX4.out.c1
              have z0 := HZ4.out.c0
              have z1 := HZ4.out.c1
              have a0 := HLO4.out.a.c0
              have a1 := HLO4.out.a.c1
              have b0 := HLO4.out.b.c0
              have b1 := HLO4.out.b.c1
              have fa0 := Row.loose HLO4.out.a.lies 0
              have fa1 := Row.loose HLO4.out.a.lies 1
              have fb0 := Row.loose HLO4.out.b.lies 0
              have fb1 := Row.loose HLO4.out.b.lies 1
              have HPUT := Lib.hid (HLO4.out.drew.put HX4.out.drew.isIn HZ4.out.drew.isIn HOX4.out.drew HOZ4.out.drew HPX.out (by rw [HZ1.out]; exact HPY.out))
              have nx1 : ¬ gX = w.heap.size + 1 := by have := HUP1.out; omega
              have nx2 : ¬ w.heap.size + 1 = gX := by have := HUP1.out; omega
              have nz1 : ¬ gZ = w.heap.size := by have := HUP3.out; omega
              have nz2 : ¬ w.heap.size = gZ := by have := HUP3.out; omega
              go_region
              all_goals go_wp2
              all_goals go_round
              all_goals first
                | exact ⟨k + 1, X1, Z1, by omega, by go_num, HPUT.out.1⟩
                | exact ⟨k + 1, X1, Z1, by omega, by go_num, HPUT.out.2⟩
                | (simp [intOf]; omega)
      · obtain rfl : k = l.length := by omega
        rw [List.take_length, Nat.sub_self, List.drop_zero] at HLO
        have a0 := HLO.out.a.c0
        have a1 := HLO.out.a.c1
        have b0 := HLO.out.b.c0
        have b1 := HLO.out.b.c1
        go_wp2_with fail
        clear a0 a1 b0 b1
        refine (S.same X Y _ HLO.out.a.isIn HLO.out.b.isIn (by have h1 := HLO.out.pa.len; have h2 := HLO.out.a.isIn.len'; omega) (by have h1 := HLO.out.pb.len; have h2 := HLO.out.b.isIn.len'; omega)).mono ?_
        rintro r w4 ⟨rfl, hb4⟩
        rw [decide_eq_true (show X.s = Y.s from HLO.out.pa.same HLO.out.pb (fun x => Iff.rfl))]
        have HB4 := Lib.hid (HLO.out.below.trans (hb4.mono HLO.out.below.size))
        clear hb4
        go_wp2_with fail
        refine (HH.out _).mono ?_
        rintro r wh ⟨rfl, hbh⟩
        have HBH := Lib.hid (HB4.out.trans (hbh.mono HB4.out.size))
        clear hbh
        go_wp2
        go_ret
        exact ⟨rfl, HBH.out⟩

end

end Go.Proofs.Ytpjgmblhlhnniaa
