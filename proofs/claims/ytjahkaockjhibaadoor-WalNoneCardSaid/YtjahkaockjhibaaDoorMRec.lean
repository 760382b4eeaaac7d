/-
  Records as they lie; what is asked of a package that writes and reads them, over texts of so many bytes.
-/
import Derived.Test.YtjahkaockjhibaaDoorMPlain
import Derived.Test.YtjahkaockjhibaaDoorProg
import Derived.Deep.QuietTactic
import Derived.BigQuiet
import Derived.StillTailTactics
import Derived.RegionTactic
import Derived.Outline
import Derived.Test.YtjahkaockjhibaaDoorMOct
import Derived.Test.YtjahkaockjhibaaDoorMCrc
import Derived.Lib.ConvBytes
import Derived.WalkMore
namespace Go.Proofs.YtjahkaockjhibaaDoor
open Go.RowKit

/-- Bytes as a text. -/
def tb (l : List UInt8) : ByteArray := ⟨l.toArray⟩
theorem tb_size (l : List UInt8) : (tb l).size = l.length := by simp [tb, ByteArray.size]
theorem tb_list (l : List UInt8) : (tb l).data.toList = l := by simp [tb]
theorem tb_app (a b : List UInt8) : tb a ++ tb b = tb (a ++ b) := by
  apply ByteArray.ext
  rw [ByteArray.data_append]
  simp [tb]
theorem tb_of (s : ByteArray) : tb s.data.toList = s := by cases s; simp [tb]
theorem tb_inj {a b : List UInt8} (h : tb a = tb b) : a = b := by rw [← tb_list a, ← tb_list b, h]
theorem tb_cut (l : List UInt8) (i j : Nat) : (tb l).extract i j = tb ((l.take j).drop i) := by
  apply ByteArray.ext
  rw [ByteArray.data_extract]
  apply Array.ext'
  simp [tb, List.drop_take]

/-- A record as a value, and as cells. -/
def recV (r : Rec) : Value := .agg #[.int .u8 (r.k.toNat : Int), .string (tb r.d)]
def recC (r : Rec) : List Value := [.int .u8 (r.k.toNat : Int), .string (tb r.d)]
theorem recV_inj {r s : Rec} (h : recC r = recC s) : r = s := by
  cases r with | mk a b =>
  cases s with | mk c d =>
  unfold recC at h
  simp only [List.cons.injEq, Value.int.injEq, Value.string.injEq, and_true, true_and] at h
  rw [tb_inj h.2, UInt8.toNat.inj (by omega : a.toNat = c.toNat)]

/-- A row of records. -/
structure Recs (w : World) (A : Option Addr) (l : List Rec) : Prop where
  at_ : ∀ (i : Nat) (h : i < l.length), ∃ g off, A = some ⟨g, off, none⟩ ∧ g < w.heap.size ∧ w.cell? ⟨g, off + i * 2, none⟩ = some (.int .u8 (l[i].k.toNat : Int)) ∧ w.cell? ⟨g, off + i * 2 + 1, none⟩ = some (.string (tb l[i].d))
theorem Recs.keeps {W w : World} {A : Option Addr} {l : List Rec} (h : Recs W A l) (hb : Below W.heap.size W w) : Recs w A l := ⟨fun i hi => by
  obtain ⟨g, off, hA, hg, h1, h2⟩ := h.at_ i hi
  exact ⟨g, off, hA, Nat.lt_of_lt_of_le hg hb.size, (hb.cell (p := ⟨g, off + i * 2, none⟩) hg).trans h1, (hb.cell (p := ⟨g, off + i * 2 + 1, none⟩) hg).trans h2⟩⟩
theorem Recs.nil {w : World} {A : Option Addr} : Recs w A [] := ⟨fun _ h => absurd h (Nat.not_lt_zero _)⟩
theorem Recs.take {w : World} {A : Option Addr} {l : List Rec} (h : Recs w A l) (n : Nat) : Recs w A (l.take n) := ⟨fun i hi => by
  rw [List.length_take] at hi
  obtain ⟨g, off, h1⟩ := h.at_ i (by omega)
  refine ⟨g, off, ?_⟩
  rw [List.getElem_take]
  exact h1⟩
theorem Recs.drop {w : World} {A : Option Addr} {l : List Rec} (h : Recs w A l) (n cap : Nat) (hc : l.length ≤ cap) : Recs w (if cap = n then A else A.map (·.add (n * 2))) (l.drop n) := ⟨fun i hi => by
  rw [List.length_drop] at hi
  obtain ⟨g, off, rfl, hg, h1, h2⟩ := h.at_ (n + i) (by omega)
  rw [if_neg (by omega)]
  refine ⟨g, off + n * 2, by simp [Addr.add_lit], hg, ?_, ?_⟩
  · rw [List.getElem_drop, show off + n * 2 + i * 2 = off + (n + i) * 2 by omega]; exact h1
  · rw [List.getElem_drop, show off + n * 2 + i * 2 + 1 = off + (n + i) * 2 + 1 by omega]; exact h2⟩

/-- What a scan gives back: records in a row, how many bytes, what the rest is. -/
def ScanV (w : World) (l : List Rec) (n x : Nat) (e : Ending) (w' : World) : Prop :=
  ∃ A c, e = .returned (.tuple #[.slice A l.length c, .int .i64 (n : Int), .int .u8 (x : Int)]) ∧ l.length ≤ c ∧ (A = none → c = 0) ∧ Recs w' A l ∧ Below w.heap.size w w'
end Go.Proofs.YtjahkaockjhibaaDoor

/-
  The walk over the document's answer: are two rows of records the same?
-/
namespace Go.Proofs.YtjahkaockjhibaaDoor
open Go.RowKit

theorem below_draw {B : Nat} {w w' : World} (h : Below B w w') (n : Nat) : Below B w (w'.drewN n) := ⟨h.os, h.tape, h.output, h.size, h.block⟩

end Go.Proofs.YtjahkaockjhibaaDoor

/-
  The walks over package record, part A: is a record's data too long; the search for one that is.
-/
namespace Go.Proofs.YtjahkaockjhibaaDoor
open Go.RowKit

set_option maxRecDepth 100000 in
theorem long_any (r : Rec) (w : World) (hr : r.d.length ≤ 1000000) :
    Calls Tryd.prog 87 #[recV r] w fun e w' => e = .returned (.bool (decide (262144 < r.d.length))) ∧ Below w.heap.size w w' := by
  unfold recV
  have hs : (tb r.d).size = r.d.length := tb_size _
  obtain ⟨n, hn⟩ : ∃ n, r.d.length = n := ⟨_, rfl⟩
  rw [hn] at hs hr ⊢
  generalize tb r.d = s at *
  subst hs
  clear hn
  by_cases h : 262144 < s.size
  · have h1 : (262144 : Int) < (s.size : Int) := by omega
    rw [decide_eq_true h]
    clear h
    go_enter Tryd.func87, Tryd.ntmps87
    go_wp2
    go_ret
    exact ⟨rfl, (Below.refl _ _).alloc (Nat.le_refl _) _⟩
  · have h1 : ¬ (262144 : Int) < (s.size : Int) := by omega
    rw [decide_eq_false h]
    clear h
    go_enter Tryd.func87, Tryd.ntmps87
    go_wp2
    go_ret
    exact ⟨rfl, (Below.refl _ _).alloc (Nat.le_refl _) _⟩

/-- All data short enough to be told as a number. -/
def Sane (l : List Rec) : Prop := ∀ r ∈ l, r.d.length ≤ 1000000
theorem Sane.at_ {l : List Rec} (h : Sane l) (i : Nat) (hi : i < l.length) : l[i].d.length ≤ 1000000 := h _ (List.getElem_mem hi)
theorem fit_take {l : List Rec} {k : Nat} (h : Fit (l.take k)) (hk : k < l.length) (hr : l[k].d.length ≤ 262144) : Fit (l.take (k + 1)) := by
  rw [List.take_succ_eq_append_getElem hk]
  intro r hm
  rcases List.mem_append.1 hm with h1 | h1
  · exact h r h1
  · rw [List.mem_singleton] at h1; rw [h1]; exact hr

instance (l : List Rec) : Decidable (Fit l) := inferInstanceAs (Decidable (∀ r ∈ l, r.d.length ≤ 262144))

/-- What the search hands back. -/
def Sought (l : List Rec) (w : World) (e : Ending) (w' : World) : Prop := (∃ i : Int, e = .returned (.int .i64 i) ∧ decide (0 ≤ i) = !decide (Fit l)) ∧ Below w.heap.size w w'

set_option maxRecDepth 100000 in
set_option maxHeartbeats 1000000 in
theorem index_any (A : Option Addr) (l : List Rec) (c : Nat) (w : World) (h : Recs w A l) (hl : l.length ≤ 1000000) (hs : Sane l) :
    Calls Tryd.prog 98 #[.slice A l.length c, .func (.func 87) #[] #[]] w (Sought l w) := by
  have HR := Lib.hid h
  clear h
  go_enter Tryd.func98, Tryd.ntmps98
  go_wp2
  go_loopw [8] (fun i wr => ∃ k : Nat, k ≤ l.length ∧ i = .int .i64 k ∧ Fit (l.take k) ∧ Below w.heap.size w wr) (fun i _ => l.length - (intOf i).toNat)
  case atStart => exact ⟨0, by omega, rfl, (fun r hr => by cases hr), Below.refl _ _⟩
  case round =>
    obtain ⟨k, hk, rfl, hf, hb⟩ := hrel
    have HF := Lib.hid hf
    have HB := Lib.hid hb
    clear hf
    by_cases hlt : k < l.length
    · obtain ⟨g, off, rfl, _, h1, h2⟩ := (HR.out.keeps hb).at_ k hlt
      have HL := Lib.hid (long_any l[k] wr (hs.at_ k hlt))
      have HT := Lib.hid (fun hx : l[k].d.length ≤ 262144 => fit_take HF.out hlt hx)
      have HT2 := Lib.hid (fun hx : 262144 < l[k].d.length => show ¬ Fit l from fun hfit => by have := hfit _ (List.getElem_mem hlt); omega)
      unfold recV at HL
      generalize l[k] = x at *
      by_cases hx : 262144 < x.d.length
      · rw [decide_eq_true hx] at HL
        have HNF := Lib.hid (HT2.out hx)
        clear hx HT HT2 hb
        go_wp2_with fail
        refine HL.out.mono ?_
        rintro e w1 ⟨rfl, hb1⟩
        have HB1 := Lib.hid (HB.out.trans (hb1.mono HB.out.size))
        clear hb1
        go_wp2
        go_ret
        exact ⟨⟨_, rfl, by rw [decide_eq_false HNF.out]; simp⟩, HB1.out⟩
      · rw [decide_eq_false hx] at HL
        have HFN := Lib.hid (HT.out (by omega))
        clear hx HT HT2 hb
        go_wp2_with fail
        refine HL.out.mono ?_
        rintro e w1 ⟨rfl, hb1⟩
        have HB1 := Lib.hid (HB.out.trans (hb1.mono HB.out.size))
        clear hb1
        go_wp2
        go_roundw
        case rel => exact ⟨k + 1, by omega, by go_num, HFN.out, HB1.out⟩
        case measure => simp [intOf]; omega
    · obtain rfl : k = l.length := by omega
      have HFL := Lib.hid (show Fit l by have := HF.out; rwa [List.take_length] at this)
      clear hb
      go_wp2
      go_ret
      exact ⟨⟨_, rfl, by rw [decide_eq_true HFL.out]; rfl⟩, HB.out⟩

set_option maxRecDepth 100000 in
theorem contains_any (A : Option Addr) (l : List Rec) (c : Nat) (w : World) (h : Recs w A l) (hl : l.length ≤ 1000000) (hs : Sane l) :
    Calls Tryd.prog 86 #[.slice A l.length c, .func (.func 87) #[] #[]] w fun e w' => e = .returned (.bool (!decide (Fit l))) ∧ Below w.heap.size w w' := by
  have HI := Lib.hid (index_any A l c w h hl hs)
  clear h
  go_enter Tryd.func86, Tryd.ntmps86
  go_wp2_with fail
  refine HI.out.mono ?_
  rintro e w1 ⟨⟨i, rfl, hi⟩, hb⟩
  have HD := Lib.hid hi
  have HB := Lib.hid hb
  clear hi hb
  go_wp2
  go_ret
  exact ⟨by rw [← HD.out]; rfl, HB.out⟩
end Go.Proofs.YtjahkaockjhibaaDoor

/-
  The walks over package record, part B: a header, Put.
-/
namespace Go.Proofs.YtjahkaockjhibaaDoor
open Go.RowKit

theorem sealed_sealL (b : List UInt8) : sealL b = sealed b := rfl

/-- A text made into bytes, whatever the world: the world behind it and the capacity as functions. -/
theorem conv_tb (l : List UInt8) : ∃ (wF : World → World) (cF : World → Nat), (∀ w, (convert 9 80 (.string (tb l))).run Tryd.prog w = .ok (.slice (some ⟨w.heap.size, 0, none⟩) l.length (cF w)) (wF w)) ∧
    ∀ w, Reads 5 (wF w) (some ⟨w.heap.size, 0, none⟩) l ∧ Below w.heap.size w (wF w) ∧ l.length ≤ cF w := by
  refine ⟨fun w => Lib.bytesWorld w 5 (tb l), fun w => grownCap w (tb l).size 0 5, fun w => ?_, fun w => ⟨fun _ => ?_, ⟨rfl, rfl, rfl, ?_, fun k hk => Lib.bytesWorld_at_old w _ _ k hk⟩, ?_⟩⟩
  · rw [Lib.run_convert_string_bytes (P := Tryd.prog) w 9 80 5 (tb l) Tryd.underlying9 Tryd.underlying80 Tryd.underlying5, tb_size]
  · refine ⟨w.heap.size, 0, (Lib.bytesCells w 5 (tb l)).toList, ((Lib.bytesCells w 5 (tb l)).size, (Lib.bytesCells w 5 (tb l)).size + 1), rfl, ?_, fun j hj => ?_⟩
    · unfold Row
      rw [Array.toArray_toList]
      exact Lib.bytesWorld_at_new w _ _
    · rw [byt_get _ _ hj, Nat.zero_add, Array.getElem?_toList]
      simp [Lib.bytesCells, tb, Array.getElem?_append, hj]
  · rw [Lib.bytesWorld_size]; omega
  · rw [← tb_size l]; exact grownCap_ge _ _ _ _

/-- Blocks of other types than bytes are as they were. -/
def Far8 (w1 w2 : World) : Prop := ∀ g t cs m, t ≠ 5 → Row w1 g t cs m → Row w2 g t cs m
/-- Bytes of the call's own that grow, nil at first. -/
def Grw (w : World) (l : List UInt8) (v : Value) (wr : World) : Prop := wr.ownsRow w.heap.size 5 1 v l.length (byt l) ∧ Below w.heap.size w wr
theorem Grw.nil {w wr : World} (h : Below w.heap.size w wr) : Grw w [] (.slice none 0 0) wr := ⟨World.ownsRow_nil _ _ _ _, h⟩
section
variable {w wr w1 w2 : World} {l r : List UInt8} {v v' : Value}
theorem Grw.keeps (h : Grw w l v wr) (hb : Below wr.heap.size wr w1) : Grw w l v w1 := by
  refine ⟨⟨h.1.1, ?_⟩, h.2.trans (hb.mono h.2.size)⟩
  rcases h.1.2 with h0 | ⟨k, cap, cur, rfl, h1, hk, rest⟩
  · exact .inl h0
  · exact .inr ⟨k, cap, cur, rfl, h1, Row.below (cs := cur.toList) hk hb (Row.lt (cs := cur.toList) hk), rest⟩
theorem Grw.more (h : Grw w l v w1) (ho : w2.ownsRow w.heap.size 5 1 v' (l.length + r.length) (byt l ++ byt r)) (hg : w1.grownBy w2 v.ownBlock) : Grw w (l ++ r) v' w2 := by
  refine ⟨by rw [byt_append, List.length_append]; exact ho, Below.grown h.2 hg h.2.size (fun g hg2 => (h.1.lt g hg2).1)⟩
theorem Grw.far (h : Grw w l v w1) (hg : w1.grownBy w2 v.ownBlock) {g : Nat} {t : TypeId} {cs : List Value} {m : Nat × Nat} (ht : t ≠ 5) (hr : Row w1 g t cs m) : Row w2 g t cs m := hr.grown hg (fun e => by
  rcases h.1.2 with ⟨rfl, _⟩ | ⟨k, cap, cur, rfl, _, hk, _⟩
  · cases e
  · injection e with e
    exact Row.ne_ (cs' := cur.toList) hr hk ht e)
theorem Grw.reads (h : Grw w l v w1) : ∃ A c, v = .slice A l.length c ∧ l.length ≤ c ∧ (A = none → c = 0) ∧ Reads 5 w1 A l := by
  rcases h.1.2 with ⟨rfl, h0⟩ | ⟨k, cap, cur, rfl, h1, hk, hc, _, _, ht⟩
  · have : l = [] := List.eq_nil_of_length_eq_zero h0
    subst this
    exact ⟨none, 0, rfl, Nat.le_refl _, fun _ => rfl, Reads.nil⟩
  · refine ⟨some ⟨k, 0, none⟩, cap, rfl, hc, fun e => (by cases e), fun _ => ⟨k, 0, cur.toList, (0, 0), rfl, hk, fun j hj => ?_⟩⟩
    rw [Nat.zero_add, ← ht, Nat.mul_one, List.getElem?_take, if_pos hj]
end

/-- More bytes onto them, at the operation. -/
theorem wpList_grw {ops : Array Oper} {rest : List Oper} {o : Oper} {a : Act} {Q : Exit → Act → World → Prop} {T : TypeId} {w w1 : World} {l r : List UInt8} {v : Value} (hgd : o.guard = none) (s x : Operand)
    (ho : o.op = .call { callee := .builtin .append, args := #[s, x], argTypes := #[80, 80] }) (hs : a.eval s = v) (hg : Grw w l v w1) (ad : Addr) (m c : Nat) (hx : a.eval x = .slice (some ad) m c) (hm : r.length = m) (hr : Reads T w1 (some ad) r)
    (hle : l.length + m ≤ 140000000000) (h : ∀ v' w2, Grw w (l ++ r) v' w2 → Far8 w1 w2 → wpList Tryd.prog ops Q rest (a.put o.dst v') w2) : wpList Tryd.prog ops Q (o :: rest) a w1 := by
  obtain ⟨i0, hi0, hz0, hz1, hz2⟩ := info_parts Tryd.info_u8
  subst hm
  exact wpList_append_own_at w1 hgd s x 80 ho w.heap.size 5 i0 _ 1 1 Tryd.underlying80 hi0 hz0 hz1 hz2 rfl (by decide) v l.length (byt l) hs hg.1 ad r.length c (byt r) hx (by rw [byt_length, Nat.mul_one]) (reads_news hr) (byt_one _) (by unfold maxLen; omega) (by omega) hg.2.size
    (fun v' w2 h1 h2 _ _ => h v' w2 (hg.more h1 h2) (fun g t cs m ht hr => hg.far h2 ht hr))

set_option maxRecDepth 100000 in
set_option maxHeartbeats 1000000 in
theorem header_any (r : Rec) (w : World) (hT : Tab w) (hr : r.d.length ≤ 1000000) :
    Calls Tryd.prog 88 #[recV r] w (NewS w 9 (headR r)) := by
  unfold recV
  have HT := Lib.hid hT
  clear hT
  have hk := r.k.toNat_lt
  have HK := Lib.hid (show be r.k.toNat 1 = [r.k] from by
    simp only [be]
    simp)
  have HF := Lib.hid (show sealL (be r.k.toNat 1 ++ be r.d.length 4) = headR r from by rw [HK.out]; rfl)
  have HL := Lib.hid (show (be r.k.toNat 1 ++ be r.d.length 4).length = 5 from by simp [be_length])
  have HL1 := Lib.hid (be_length r.k.toNat 1)
  have hs : (tb r.d).size = r.d.length := tb_size _
  generalize headR r = H at *
  obtain ⟨n, hn⟩ : ∃ n, r.d.length = n := ⟨_, rfl⟩
  rw [hn] at hs hr HF HL
  generalize tb r.d = s at *
  obtain ⟨q, hq⟩ : ∃ q, r.k.toNat = q := ⟨_, rfl⟩
  rw [hq] at HF HL hk HL1 ⊢
  subst hs
  clear hn hq HK
  obtain ⟨o, ho⟩ : ∃ o, w.alloc (.cells #[.int .u8 (q : Int), .string s] 107) = o := ⟨_, rfl⟩
  have HB0 := Lib.hid (show Below w.heap.size w o from by rw [← ho]; exact (Below.refl _ _).alloc (Nat.le_refl _) _)
  have HP := Lib.hid (put_wide none [] 0 q 1 o Reads.nil (by simp) rfl)
  simp only [List.length_nil, Nat.zero_add, List.nil_append] at HP
  have HC := Lib.hid (show Row o w.heap.size 107 [.int .u8 (q : Int), .string s] (0, 0) from by rw [← ho]; exact Row.new w 107 [.int .u8 (q : Int), .string s] (0, 0))
  have c0 : o.cell? ⟨w.heap.size, 0, none⟩ = some (.int .u8 (q : Int)) := by rw [HC.out.cell]; rfl
  go_enter Tryd.func88, Tryd.ntmps88
  go_wp2_with fail
  refine HP.out.mono ?_
  rintro e w1 ⟨rfl, hb1, hr1⟩
  have HB1 := Lib.hid (HB0.out.trans (hb1.mono HB0.out.size))
  have HC1 := Lib.hid (HC.out.below hb1 HC.out.lt)
  have HP2 := Lib.hid (put_wide (some ⟨o.heap.size, 0, none⟩) (be q 1) 1 s.size 4 w1 (row_reads hr1) (by rw [be_length]; omega) rfl)
  rw [HL1.out] at HP2
  have c1 : w1.cell? ⟨w.heap.size, 1, none⟩ = some (.string s) := by rw [HC1.out.cell]; rfl
  clear hb1 hr1 HP
  go_wp2_with fail
  refine HP2.out.mono ?_
  rintro e w2 ⟨rfl, hb2, hr2⟩
  have HB2 := Lib.hid (HB1.out.trans (hb2.mono HB1.out.size))
  have HS := Lib.hid (seal_new (some ⟨w1.heap.size, 0, none⟩) (be q 1 ++ be s.size 4) 5 w2 (HT.out.keeps HB2.out) (row_reads hr2) (by rw [HL.out]; omega))
  rw [HL.out] at HS
  clear hb2 hr2 HP2 c1
  go_wp2_with fail
  refine HS.out.mono ?_
  rintro e w3 ⟨g, rfl, hl3, hr3, hb3⟩
  have HB3 := Lib.hid (HB2.out.trans (hb3.mono HB2.out.size))
  have HR3 := Lib.hid hr3
  have HL3 := Lib.hid hl3
  clear hb3 hr3 hl3
  go_wp2
  go_ret
  exact ⟨g, rfl, by rw [← HF.out, HL3.out], by rw [← HF.out]; exact HR3.out, HB3.out⟩
end Go.Proofs.YtjahkaockjhibaaDoor

/-
  The walk over package record, part C: Put.
-/
namespace Go.Proofs.YtjahkaockjhibaaDoor
open Go.RowKit

/-- What Put hands back. -/
def Putted (l : List Rec) (w : World) (e : Ending) (w' : World) : Prop :=
  e = .returned (.tuple #[.string (if Fit l then tb (allR l) else ⟨#[]⟩), .int .i64 (if Fit l then 0 else 3)]) ∧ Below w.heap.size w w'

theorem allR_take (l : List Rec) (k : Nat) (hk : k < l.length) : allR (l.take (k + 1)) = (allR (l.take k) ++ headR l[k]) ++ sealed l[k].d := by
  rw [List.take_succ_eq_append_getElem hk, allR_append, allR_cons, allR_nil, List.append_nil, List.append_assoc]; rfl
theorem allR_le : ∀ (l : List Rec) (_ : Sane l), (allR l).length ≤ l.length * 1000013
  | [], _ => by simp [allR]
  | r :: l, h => by
    rw [allR_cons, List.length_append, one_length, List.length_cons]
    have h1 := allR_le l (fun x hx => h x (by simp [hx]))
    have h2 := h r (by simp)
    omega
theorem Sane.take {l : List Rec} (h : Sane l) (k : Nat) : Sane (l.take k) := fun r hr => h r (List.mem_of_mem_take hr)

set_option maxRecDepth 100000 in
set_option maxHeartbeats 2000000 in
theorem put_any (A : Option Addr) (l : List Rec) (c : Nat) (w : World) (hT : Tab w) (h : Recs w A l) (hl : l.length ≤ 1000) (hs : Sane l) :
    Calls Tryd.prog 75 #[.slice A l.length c] w (Putted l w) := by
  obtain ⟨i0, hi0, hz0, hz1, hz2⟩ := info_parts Tryd.info_u8
  have HC := Lib.hid (contains_any A l c w h (by omega) hs)
  have HR := Lib.hid h
  have HT := Lib.hid hT
  have HF := Lib.hid (fun hf : Fit l => show (if Fit l then tb (allR l) else ⟨#[]⟩) = tb (allR l) ∧ (if Fit l then (0 : Int) else 3) = 0 from ⟨if_pos hf, if_pos hf⟩)
  have HF2 := Lib.hid (fun hf : ¬ Fit l => show (if Fit l then tb (allR l) else ⟨#[]⟩) = ⟨#[]⟩ ∧ (if Fit l then (0 : Int) else 3) = 3 from ⟨if_neg hf, if_neg hf⟩)
  have HEND := Lib.hid (show ∀ e w', e = .returned (.tuple #[.string (if Fit l then tb (allR l) else ⟨#[]⟩), .int .i64 (if Fit l then 0 else 3)]) → Below w.heap.size w w' → Putted l w e w' from fun e w' h1 h2 => ⟨h1, h2⟩)
  obtain ⟨Q, hQ⟩ : ∃ Q, Putted l w = Q := ⟨_, rfl⟩
  rw [hQ] at HEND
  rw [hQ]
  clear hQ h hT
  by_cases hf : Fit l
  · obtain ⟨e1, e2⟩ := HF.out hf
    rw [e1, e2] at HEND
    rw [decide_eq_true hf] at HC
    clear hf HF HF2 e1 e2
    go_enter Tryd.func75, Tryd.ntmps75
    go_wp2_with fail
    refine HC.out.mono ?_
    rintro e w1 ⟨rfl, hb1⟩
    have HG := Lib.hid (Grw.nil hb1)
    clear hb1 HC
    go_wp2_with fail
    go_loopw [4, 11] (fun v i wr => ∃ (k : Nat) (u : Value), k ≤ l.length ∧ u = v ∧ i = .int .i64 k ∧ Grw w (allR (l.take k)) u wr) (fun _ i _ => l.length - (intOf i).toNat)
    case atStart => exact ⟨0, _, by omega, rfl, rfl, HG.out⟩
    case round =>
      obtain ⟨k, v, hk, rfl, rfl, hg⟩ := hrel
      have HGK := Lib.hid hg
      clear HG
      by_cases hlt : k < l.length
      · obtain ⟨g, off, rfl, _, h1, h2⟩ := (HR.out.keeps hg.2).at_ k hlt
        have HA := Lib.hid (allR_take l k hlt)
        have HLE := Lib.hid (show (allR (l.take k)).length ≤ 1000 * 1000013 from Nat.le_trans (allR_le _ (hs.take k)) (Nat.mul_le_mul_right _ (by rw [List.length_take]; omega)))
        have hsz := hs.at_ k hlt
        generalize hx : l[k] = x at *
        clear hx hg
        have HAL := Lib.hid (fun (o : Obj) => HGK.out.keeps ((Below.refl wr.heap.size wr).alloc (Nat.le_refl _) o))
        obtain ⟨o, ho⟩ : ∃ o, wr.alloc (.cells #[.int .u8 (x.k.toNat : Int), .string (tb x.d)] 107) = o := ⟨_, rfl⟩
        have HGO := Lib.hid (show Grw w (allR (l.take k)) v o from ho ▸ HAL.out _)
        have HRO := Lib.hid (show Row o wr.heap.size 107 [.int .u8 (x.k.toNat : Int), .string (tb x.d)] (0, 0) from by rw [← ho]; exact Row.new wr 107 [.int .u8 (x.k.toNat : Int), .string (tb x.d)] (0, 0))
        clear HAL
        have HH := Lib.hid (header_any x o (HT.out.keeps HGO.out.2) hsz)
        unfold recV at HH
        have c0 : o.cell? ⟨wr.heap.size, 0, none⟩ = some (.int .u8 (x.k.toNat : Int)) := by rw [HRO.out.cell]; rfl
        have c1 : o.cell? ⟨wr.heap.size, 1, none⟩ = some (.string (tb x.d)) := by rw [HRO.out.cell]; rfl
        generalize hB : allR (l.take k) = B at *
        go_wp2_with fail
        refine HH.out.mono ?_
        rintro e w2 ⟨gh, rfl, hlh, hrh, hbh⟩
        have HG2 := Lib.hid (HGO.out.keeps hbh)
        have HRH := Lib.hid hrh
        have HLH := Lib.hid hlh
        have HC2 := Lib.hid (HRO.out.below hbh HRO.out.lt)
        have HBS := Lib.hid HG2.out.2.size
        clear hbh hrh hlh HH HGO c0 c1
        go_wp2_with (at_builtin; refine wpList_grw rfl (.tmp 15) (.tmp 17) rfl rfl HG2.out ⟨gh, 0, none⟩ 9 9 rfl HLH.out HRH.out (by have := HLE.out; omega) ?_)
        intro v3 w3 hg3 hf3
        have HG3 := Lib.hid hg3
        have HC3 := Lib.hid (hf3 _ _ _ _ (by decide) HC2.out)
        obtain ⟨wF, cF, hcv, hcF⟩ := conv_tb x.d
        obtain ⟨hrd3, hbc3, hcc3⟩ := hcF w3
        have c1 : w3.cell? ⟨wr.heap.size, 1, none⟩ = some (.string (tb x.d)) := by rw [HC3.out.cell]; rfl
        have HG4 := Lib.hid (hg3.keeps hbc3)
        have HS := Lib.hid (seal_new (some ⟨w3.heap.size, 0, none⟩) x.d (cF w3) (wF w3) (HT.out.keeps HG4.out.2) hrd3 hsz)
        clear hg3 hf3 HG2 HRH HC2 HG3 hcF hrd3 hbc3 hcc3
        go_wp2_with fail
        refine HS.out.mono ?_
        rintro e w5 ⟨gs, rfl, hls, hrs, hbs⟩
        have HG5 := Lib.hid (HG4.out.keeps hbs)
        have HRS := Lib.hid hrs
        have HLS := Lib.hid hls
        clear hbs hrs hls HS HG4 c1
        go_wp2_with (at_builtin; refine wpList_grw rfl (.tmp 19) (.tmp 23) rfl rfl HG5.out ⟨gs, 0, none⟩ (x.d.length + 4) (x.d.length + 4) rfl HLS.out HRS.out (by rw [List.length_append, headR_length]; have := HLE.out; omega) ?_)
        intro v6 w6 hg6 _
        have HG6 := Lib.hid (show Grw w (allR (l.take (k + 1))) v6 w6 from by rw [HA.out, List.append_assoc]; exact hg6)
        clear hg6
        go_wp2
        go_roundw
        case rel => exact ⟨k + 1, _, by omega, rfl, by go_num, HG6.out⟩
        case measure => simp [intOf]; omega
      · obtain rfl : k = l.length := by omega
        rw [List.take_length] at HGK
        obtain ⟨A', c', rfl, hc1, hA1, hrd⟩ := HGK.out.reads
        have hcv := text_n A' (allR l) (allR l).length c' wr rfl hrd
        have HE := Lib.hid (HEND.out _ wr rfl HGK.out.2)
        clear hg hrd hc1 hA1
        go_wp2
        exact HE.out
  · obtain ⟨e1, e2⟩ := HF2.out hf
    rw [e1, e2] at HEND
    rw [decide_eq_false hf] at HC
    clear hf HF HF2 e1 e2
    go_enter Tryd.func75, Tryd.ntmps75
    go_wp2_with fail
    refine HC.out.mono ?_
    rintro e w1 ⟨rfl, hb1⟩
    have HE := Lib.hid (HEND.out _ w1 rfl hb1)
    clear hb1
    go_wp2
    exact HE.out
end Go.Proofs.YtjahkaockjhibaaDoor

/-
  The walks over package record, part D: what so many sealed bytes hold; what stands at a text's beginning.
-/
namespace Go.Proofs.YtjahkaockjhibaaDoor
open Go.RowKit

set_option maxRecDepth 100000 in
theorem unsealed_short (b : List UInt8) (n : Nat) (w : World) (h : b.length < n) :
    Calls Tryd.prog 77 #[.string (tb b), .int .i64 (n : Int)] w fun e w' => e = .returned (.tuple #[.slice none 0 0, .int .u8 2]) ∧ w = w' := by
  have hs : (tb b).size = b.length := tb_size _
  have h1 : ((tb b).size : Int) < (n : Int) := by omega
  generalize tb b = s at *
  go_enter Tryd.func77, Tryd.ntmps77
  go_wp2
  go_ret2
  exact ⟨rfl, rfl⟩

set_option maxRecDepth 100000 in
set_option maxHeartbeats 1000000 in
theorem unsealed_bad (b : List UInt8) (n : Nat) (w : World) (hT : Tab w) (h : n ≤ b.length) (h4 : 4 ≤ n) (hn : n ≤ 1000000) (hno : ¬ Sealed (b.take n)) :
    Calls Tryd.prog 77 #[.string (tb b), .int .i64 (n : Int)] w fun e w' => e = .returned (.tuple #[.slice none 0 0, .int .u8 3]) ∧ Below w.heap.size w w' := by
  have hs : (tb b).size = b.length := tb_size _
  have h1 : ¬ ((tb b).size : Int) < (n : Int) := by omega
  have h2 : (n : Int) ≤ ((tb b).size : Int) := by omega
  have hX : (tb b).extract 0 n = tb (b.take n) := by rw [tb_cut, List.drop_zero]
  have hl : (b.take n).length = n := by rw [List.length_take]; omega
  obtain ⟨wF, cF, hcv, hcF⟩ := conv_tb (b.take n)
  obtain ⟨hrd, hbc, hcc⟩ := hcF w
  have HB := Lib.hid hbc
  have HO := Lib.hid (open_refuses (some ⟨w.heap.size, 0, none⟩) (b.take n) n (cF w) (wF w) hl (hT.keeps hbc) hrd h4 hn (by omega) hno)
  rw [hl] at hcv
  generalize b.take n = x at *
  generalize tb b = s at *
  clear hs hcF hrd hbc hcc hno hT h
  go_enter Tryd.func77, Tryd.ntmps77
  go_wp2_with fail
  refine HO.out.mono ?_
  rintro e w1 ⟨rfl, hb1⟩
  have HB1 := Lib.hid (HB.out.trans (hb1.mono HB.out.size))
  clear hb1
  go_wp2
  go_ret2
  exact ⟨rfl, HB1.out⟩

/-- What is unsealed. -/
def Unsl (b : List UInt8) (n : Nat) (w : World) (e : Ending) (w' : World) : Prop :=
  ∃ g c, e = .returned (.tuple #[.slice (some ⟨g, 0, none⟩) n c, .int .u8 1]) ∧ (b.take n).length = n ∧ n ≤ c ∧ Reads 5 w' (some ⟨g, 0, none⟩) (b.take n) ∧ Below w.heap.size w w'

set_option maxRecDepth 100000 in
set_option maxHeartbeats 1000000 in
theorem unsealed_ok (b : List UInt8) (m : Nat) (w : World) (hT : Tab w) (h : m + 4 ≤ b.length) (hn : m + 4 ≤ 1000000) (hyes : Sealed (b.take (m + 4))) :
    Calls Tryd.prog 77 #[.string (tb b), .int .i64 ((m + 4 : Nat) : Int)] w (Unsl b m w) := by
  have hs : (tb b).size = b.length := tb_size _
  obtain ⟨n, hnm⟩ : ∃ n, m + 4 = n := ⟨_, rfl⟩
  have HNM := Lib.hid (show n - 4 = m by omega)
  have h4 : 4 ≤ n := by omega
  have HTT := Lib.hid (show (b.take n).take m = b.take m by rw [List.take_take, Nat.min_eq_left (by omega)])
  rw [hnm] at h hn hyes ⊢
  have h1 : ¬ ((tb b).size : Int) < (n : Int) := by omega
  have h2 : (n : Int) ≤ ((tb b).size : Int) := by omega
  have hX : (tb b).extract 0 n = tb (b.take n) := by rw [tb_cut, List.drop_zero]
  have hl : (b.take n).length = n := by rw [List.length_take]; omega
  obtain ⟨wF, cF, hcv, hcF⟩ := conv_tb (b.take n)
  obtain ⟨hrd, hbc, hcc⟩ := hcF w
  have HB := Lib.hid hbc
  have HO := Lib.hid (open_takes (some ⟨w.heap.size, 0, none⟩) (b.take n) n (cF w) (wF w) hl (hT.keeps hbc) hrd h4 hn (by omega) hyes)
  rw [hl] at hcv
  rw [HNM.out, HTT.out] at HO
  have HPOST := Lib.hid (show ∀ e w', Unsl b m w e w' → Unsl b m w e w' from fun _ _ x => x)
  unfold Unsl at HPOST ⊢
  generalize b.take m = y at *
  generalize b.take n = x at *
  generalize tb b = s at *
  clear hs hcF hrd hbc hcc hyes hT h hnm
  go_enter Tryd.func77, Tryd.ntmps77
  go_wp2_with fail
  refine HO.out.mono ?_
  rintro e w1 ⟨g, c, rfl, hy, hc, hr, hb1⟩
  have HB1 := Lib.hid (HB.out.trans (hb1.mono HB.out.size))
  have HE := Lib.hid (And.intro hy (And.intro hc hr))
  clear hb1 hy hc hr
  go_wp2
  go_ret2
  exact ⟨g, c, rfl, HE.out.1, HE.out.2.1, HE.out.2.2, HB1.out⟩

end Go.Proofs.YtjahkaockjhibaaDoor

/-
  The walk over package record, part E: what stands at a text's beginning.
-/
namespace Go.Proofs.YtjahkaockjhibaaDoor
open Go.RowKit

def lkRec : LookR → Rec
  | .told r => r
  | _ => ⟨0, []⟩
def lkN : LookR → Nat
  | .told r => 13 + r.d.length
  | _ => 0
def lkF : LookR → Nat
  | .whole => 0
  | .told _ => 1
  | .torn => 2
  | .bad => 3

/-- What read hands back. -/
def ReadV (b : List UInt8) (w : World) (e : Ending) (w' : World) : Prop :=
  e = .returned (.tuple #[recV (lkRec (lookR b)), .int .i64 (lkN (lookR b) : Int), .int .u8 (lkF (lookR b) : Int)]) ∧ Below w.heap.size w w'

/-- In the midst of read: the result's cells. -/
structure MidR (w wx : World) : Prop where
  res : Row wx w.heap.size 107 [.int .u8 0, .string ⟨#[]⟩] (0, 0)
  below : Below w.heap.size w wx
section
variable {w wx wy : World}
theorem MidR.keeps (h : MidR w wx) (hb : Below wx.heap.size wx wy) : MidR w wy := ⟨h.res.below hb h.res.lt, h.below.trans (hb.mono h.below.size)⟩
theorem MidR.now (h : MidR w wx) {g : Nat} {st st' : Option (List UInt8)} (hr : Rdr wx g st) (hg : w.heap.size ≤ g) (hn : Now wx g st' wy) : MidR w wy := by
  obtain ⟨cs, m, hrow⟩ := hr.row
  exact ⟨h.res.grown hn.1 (fun e => by injection e with e; exact Row.ne_ h.res hrow (by decide) e), Below.grown h.below hn.1 h.below.size (fun k hk => by injection hk with hk; omega)⟩
theorem MidR.c0 (h : MidR w wx) : wx.cell? ⟨w.heap.size, 0, none⟩ = some (.int .u8 0) := by rw [h.res.cell]; rfl
theorem MidR.c1 (h : MidR w wx) : wx.cell? ⟨w.heap.size, 1, none⟩ = some (.string ⟨#[]⟩) := by rw [h.res.cell]; rfl
theorem MidR.f0 (h : MidR w wx) : wx.frozen? ⟨w.heap.size, 0, none⟩ = false := h.res.loose 0
theorem MidR.f1 (h : MidR w wx) : wx.frozen? ⟨w.heap.size, 1, none⟩ = false := h.res.loose 1
theorem MidR.fin (h : MidR w wx) (u v : Value) : Row ((wx.setCell ⟨w.heap.size, 0, none⟩ u).setCell ⟨w.heap.size, 1, none⟩ v) w.heap.size 107 [u, v] (0, 0) ∧ Below w.heap.size w ((wx.setCell ⟨w.heap.size, 0, none⟩ u).setCell ⟨w.heap.size, 1, none⟩ v) :=
  ⟨(h.res.put 0 _).put 1 _, (h.below.setCell (Nat.le_refl _) _).setCell (Nat.le_refl _) _⟩
theorem MidR.new (w : World) : MidR w (w.alloc (.cells #[.int .u8 0, .string ⟨#[]⟩] 107)) := ⟨Row.new w 107 [.int .u8 0, .string ⟨#[]⟩] (0, 0), (Below.refl _ _).alloc (Nat.le_refl _) _⟩
end

theorem five_one {b : List UInt8} (h : 9 ≤ b.length) : val ((b.take 5).take 1) = (b.headD 0).toNat := by
  cases b with
  | nil => simp at h
  | cons x l => simp [val]
theorem five_four {b : List UInt8} (_ : 9 ≤ b.length) : val (((b.take 5).drop 1).take 4) = lenOf b := by
  unfold lenOf
  rw [List.drop_take, List.take_take, Nat.min_eq_left (by omega)]

set_option maxRecDepth 100000 in
set_option maxHeartbeats 2000000 in
theorem read_short (b : List UInt8) (w : World) (hL : b.length < 9) : Calls Tryd.prog 66 #[.string (tb b)] w (ReadV b w) := by
  have HU := Lib.hid (fun wx => unsealed_short b 9 wx hL)
  have hE : (tb b).toList.isEmpty = decide (b.length = 0) := by rw [ByteArray.toList_eq, tb_list]; cases b <;> simp
  obtain ⟨o, ho⟩ : ∃ o, w.alloc (.cells #[.int .u8 0, .string ⟨#[]⟩] 107) = o := ⟨_, rfl⟩
  have HM := Lib.hid (show MidR w o from ho ▸ MidR.new w)
  by_cases h0 : b.length = 0
  · have HP := Lib.hid (show ∀ e w', e = .returned (.tuple #[.agg #[.int .u8 0, .string ⟨#[]⟩], .int .i64 0, .int .u8 0]) → Below w.heap.size w w' → ReadV b w e w' from fun e w' h1 h2 => ⟨by rw [h1, show lookR b = .whole from if_pos h0]; rfl, h2⟩)
    rw [decide_eq_true h0] at hE
    generalize tb b = s at *
    generalize ReadV b w = Q at *
    clear hL h0
    have c0 := HM.out.c0
    have c1 := HM.out.c1
    have f0 := HM.out.f0
    have f1 := HM.out.f1
    go_enter Tryd.func66, Tryd.ntmps66
    go_wp2
    obtain ⟨hr, ht⟩ := HM.out.fin (.int .u8 0) (.string ⟨#[]⟩)
    have k0 := hr.cell 0
    have k1 := hr.cell 1
    simp at k0 k1
    refine bodyPost_ret (v := .tuple #[.agg #[.int .u8 0, .string ⟨#[]⟩], .int .i64 0, .int .u8 0]) ?_ rfl (HP.out _ _ rfl ht)
    simp [results, Tryd.results66, go_sem, k0, k1]
  · have HP := Lib.hid (show ∀ e w', e = .returned (.tuple #[.agg #[.int .u8 0, .string ⟨#[]⟩], .int .i64 0, .int .u8 2]) → Below w.heap.size w w' → ReadV b w e w' from fun e w' h1 h2 => ⟨by rw [h1, show lookR b = .torn from by unfold lookR; rw [if_neg h0, if_pos hL]]; rfl, h2⟩)
    rw [decide_eq_false h0] at hE
    generalize tb b = s at *
    generalize ReadV b w = Q at *
    clear hL h0
    have c0 := HM.out.c0
    have c1 := HM.out.c1
    have f0 := HM.out.f0
    have f1 := HM.out.f1
    go_enter Tryd.func66, Tryd.ntmps66
    go_wp2_with (go_at_call 77; refine (HU.out _).mono ?_; rintro e w' ⟨rfl, rfl⟩)
    obtain ⟨hr, ht⟩ := HM.out.fin (.int .u8 0) (.string ⟨#[]⟩)
    have k0 := hr.cell 0
    have k1 := hr.cell 1
    simp at k0 k1
    refine bodyPost_ret (v := .tuple #[.agg #[.int .u8 0, .string ⟨#[]⟩], .int .i64 0, .int .u8 2]) ?_ rfl (HP.out _ _ rfl ht)
    simp [results, Tryd.results66, go_sem, k0, k1]
end Go.Proofs.YtjahkaockjhibaaDoor

/-
  The walk over package record, part F: what stands at a longer text's beginning.
-/
namespace Go.Proofs.YtjahkaockjhibaaDoor
open Go.RowKit

theorem look_c {b : List UInt8} (h9 : 9 ≤ b.length) (hs : ¬ Sealed (b.take 9)) : lookR b = .bad := by
  unfold lookR; rw [if_neg (by omega), if_neg (by omega), if_pos (.inl hs)]
theorem look_d {b : List UInt8} (h9 : 9 ≤ b.length) (hl : 262144 < lenOf b) : lookR b = .bad := by
  unfold lookR; rw [if_neg (by omega), if_neg (by omega), if_pos (.inr hl)]
theorem look_e {b : List UInt8} (h9 : 9 ≤ b.length) (hs : Sealed (b.take 9)) (hl : lenOf b ≤ 262144) (ht : b.length < 13 + lenOf b) : lookR b = .torn := by
  unfold lookR; rw [if_neg (by omega), if_neg (by omega), if_neg (fun x => by rcases x with x | x; exact x hs; omega), if_pos ht]
theorem look_f {b : List UInt8} (h9 : 9 ≤ b.length) (hs : Sealed (b.take 9)) (hl : lenOf b ≤ 262144) (ht : 13 + lenOf b ≤ b.length) (hb : ¬ Sealed ((b.drop 9).take (lenOf b + 4))) : lookR b = .bad := by
  unfold lookR; rw [if_neg (by omega), if_neg (by omega), if_neg (fun x => by rcases x with x | x; exact x hs; omega), if_neg (by omega), if_pos hb]
theorem look_g {b : List UInt8} (h9 : 9 ≤ b.length) (hs : Sealed (b.take 9)) (hl : lenOf b ≤ 262144) (ht : 13 + lenOf b ≤ b.length) (hb : Sealed ((b.drop 9).take (lenOf b + 4))) : lookR b = .told ⟨b.headD 0, (b.drop 9).take (lenOf b)⟩ := by
  unfold lookR; rw [if_neg (by omega), if_neg (by omega), if_neg (fun x => by rcases x with x | x; exact x hs; omega), if_neg (by omega), if_neg (fun x => x hb)]

set_option maxRecDepth 100000 in
set_option maxHeartbeats 4000000 in
theorem read_long (b : List UInt8) (w : World) (hT : Tab w) (h9 : 9 ≤ b.length) (hmax : b.length ≤ 1000000) : Calls Tryd.prog 66 #[.string (tb b)] w (ReadV b w) := by
  have hE : (tb b).toList.isEmpty = false := by rw [ByteArray.toList_eq, tb_list]; cases b <;> simp at h9 ⊢
  obtain ⟨o, ho⟩ : ∃ o, w.alloc (.cells #[.int .u8 0, .string ⟨#[]⟩] 107) = o := ⟨_, rfl⟩
  have HM := Lib.hid (show MidR w o from ho ▸ MidR.new w)
  have HBAD := Lib.hid (show lookR b = .bad → ∀ e w', e = .returned (.tuple #[.agg #[.int .u8 0, .string ⟨#[]⟩], .int .i64 0, .int .u8 3]) → Below w.heap.size w w' → ReadV b w e w' from fun hb e w' h1 h2 => ⟨by rw [h1, hb]; rfl, h2⟩)
  have HTORN := Lib.hid (show lookR b = .torn → ∀ e w', e = .returned (.tuple #[.agg #[.int .u8 0, .string ⟨#[]⟩], .int .i64 0, .int .u8 2]) → Below w.heap.size w w' → ReadV b w e w' from fun hb e w' h1 h2 => ⟨by rw [h1, hb]; rfl, h2⟩)
  have HTOLD := Lib.hid (show lookR b = .told ⟨b.headD 0, (b.drop 9).take (lenOf b)⟩ → 13 + lenOf b ≤ b.length → ∀ e w', e = .returned (.tuple #[.agg #[.int .u8 ((b.headD 0).toNat : Int), .string (tb ((b.drop 9).take (lenOf b)))], .int .i64 ((13 + lenOf b : Nat) : Int), .int .u8 1]) → Below w.heap.size w w' → ReadV b w e w' from fun hb hl e w' h1 h2 => ⟨by
    rw [h1, hb]
    show _ = Ending.returned (.tuple #[.agg #[_, _], .int .i64 ((13 + ((b.drop 9).take (lenOf b)).length : Nat) : Int), _])
    rw [List.length_take, List.length_drop, Nat.min_eq_left (by omega)]
    rfl, h2⟩)
  have HT := Lib.hid hT
  by_cases hs : Sealed (b.take 9)
  · have hU0 := unsealed_ok b 5 o (hT.keeps HM.out.below) (by omega) (by omega) hs
    have HU := Lib.hid (show Calls Tryd.prog 77 #[.string (tb b), .int .i64 9] o (Unsl b 5 o) from hU0)
    have HV1 := Lib.hid (five_one h9)
    have HV4 := Lib.hid (five_four h9)
    have HL5 := Lib.hid (show (b.take 5).length = 5 by rw [List.length_take]; omega)
    have hX9 : (tb b).extract 9 b.length = tb (b.drop 9) := by rw [tb_cut, List.take_length]
    have hsz : (tb b).size = b.length := tb_size _
    have h9s : (9 : Int) ≤ ((tb b).size : Int) := by omega
    have HLD := Lib.hid (List.length_drop (i := 9) (l := b))
    have hlt4 : lenOf b < 4294967296 := by
      have := val_lt ((b.drop 1).take 4)
      rw [List.length_take, List.length_drop, Nat.min_eq_left (by omega)] at this
      exact this
    have HC := Lib.hid (fun hl => look_d (b := b) h9 hl)
    have HCE := Lib.hid (fun hl ht => look_e h9 hs hl ht)
    have HCF := Lib.hid (fun hl ht hb => look_f h9 hs hl ht hb)
    have HCG := Lib.hid (fun hl ht hb => look_g h9 hs hl ht hb)
    have hk := (b.headD 0).toNat_lt
    obtain ⟨k, hkk⟩ : ∃ k, (b.headD 0).toNat = k := ⟨_, rfl⟩
    rw [hkk] at HV1 HTOLD hk
    obtain ⟨n, hnn⟩ : ∃ n, lenOf b = n := ⟨_, rfl⟩
    rw [hnn] at HTOLD HC HCE HCF HCG HV4 hlt4
    obtain ⟨x, hx⟩ : ∃ x, b.drop 9 = x := ⟨_, rfl⟩
    rw [hx] at hX9 HCF HCG HTOLD HLD
    obtain ⟨y, hy⟩ : ∃ y, b.take 5 = y := ⟨_, rfl⟩
    unfold Unsl at HU
    rw [hy] at HU HV1 HV4 HL5
    generalize ReadV b w = Q at *
    have wk : IntKind.u8.wrap (k : Int) = (k : Int) := IntWalk.u8_in _ (by omega)
    clear hU0 hs h9 hkk hnn hx hy
    go_enter Tryd.func66, Tryd.ntmps66
    go_wp2_with fail
    refine HU.out.mono ?_
    rintro e w1 ⟨g1, cap1, rfl, hl1, hc1, hr1, hb1⟩
    have HM1 := Lib.hid (HM.out.keeps hb1)
    have HO := Lib.hid (open_any (some ⟨g1, 0, none⟩) y cap1 w1 hr1 (by rw [hl1]; omega))
    rw [hl1] at HO
    clear hb1 hr1 hl1 hc1 HU
    go_wp2_with fail
    refine HO.out.mono ?_
    rintro e w2 ⟨g2, rfl, hg2, hrd2, hb2⟩
    have HM2 := Lib.hid (HM1.out.keeps hb2)
    have HG2 := Lib.hid (show w.heap.size ≤ g2 from Nat.le_trans HM1.out.below.size hg2)
    have HN1 := Lib.hid (num_any g2 (some y) 1 w2 hrd2)
    have e1 : rnum (some y) 1 = (k, some (y.drop 1)) := by
      show (if isW 1 = true ∧ (1 : Int) ≤ (y.length : Int) then (val (y.take 1), some (y.drop 1)) else (0, none)) = _
      rw [if_pos ⟨rfl, by rw [HL5.out]; omega⟩, HV1.out]
    have e2 : rnum (some (y.drop 1)) 4 = (n, some ((y.drop 1).drop 4)) := by
      show (if isW 4 = true ∧ (4 : Int) ≤ ((y.drop 1).length : Int) then (val ((y.drop 1).take 4), some ((y.drop 1).drop 4)) else (0, none)) = _
      rw [if_pos ⟨rfl, by rw [List.length_drop, HL5.out]; omega⟩, HV4.out]
    rw [e1] at HN1
    have HRD2 := Lib.hid hrd2
    have HE2 := Lib.hid e2
    clear hrd2 hg2 hb2 HO e1 e2
    go_wp2_with fail
    refine HN1.out.mono ?_
    rintro e w3 ⟨rfl, hn3⟩
    have HM3 := Lib.hid (HM2.out.now HRD2.out HG2.out hn3)
    have HRD3 := Lib.hid hn3.2
    have HN2 := Lib.hid (num_any g2 (some (y.drop 1)) 4 w3 hn3.2)
    rw [HE2.out] at HN2
    clear hn3 HN1
    go_wp2_with fail
    refine HN2.out.mono ?_
    rintro e w4 ⟨rfl, hn4⟩
    have HM4 := Lib.hid (HM3.out.now HRD3.out HG2.out hn4)
    clear hn4 HN2
    have wn : IntKind.i64.wrap (n : Int) = (n : Int) := IntWalk.i64_in _ (by omega)
    by_cases hl : 262144 < n
    · have HP := Lib.hid (HBAD.out (HC.out hl))
      have hl2 : (262144 : Int) < (n : Int) := by omega
      clear hl
      have c0 := HM4.out.c0
      have c1 := HM4.out.c1
      have f0 := HM4.out.f0
      have f1 := HM4.out.f1
      go_wp2
      obtain ⟨hr, ht⟩ := HM4.out.fin (.int .u8 0) (.string ⟨#[]⟩)
      have k0 := hr.cell 0
      have k1 := hr.cell 1
      simp at k0 k1
      refine bodyPost_ret (v := .tuple #[.agg #[.int .u8 0, .string ⟨#[]⟩], .int .i64 0, .int .u8 3]) ?_ rfl (HP.out _ _ rfl ht)
      simp [results, Tryd.results66, go_sem, k0, k1]
    · have hl2 : ¬ (262144 : Int) < (n : Int) := by omega
      obtain ⟨m, hm⟩ : ∃ m, n + 4 = m := ⟨_, rfl⟩
      have hnm : (n : Int) + 4 = (m : Int) := by omega
      have wm : IntKind.i64.wrap (m : Int) = (m : Int) := IntWalk.i64_in _ (by omega)
      by_cases ht : b.length < 13 + n
      · have HP := Lib.hid (HTORN.out (HCE.out (by omega) ht))
        have HU2 := Lib.hid (fun wx => unsealed_short x m wx (by have := HLD.out; omega))
        clear hl ht hm
        have c0 := HM4.out.c0
        have c1 := HM4.out.c1
        have f0 := HM4.out.f0
        have f1 := HM4.out.f1
        go_wp2_with (go_at_call 77; refine (HU2.out _).mono ?_; rintro e w' ⟨rfl, rfl⟩)
        obtain ⟨hr, ht⟩ := HM4.out.fin (.int .u8 0) (.string ⟨#[]⟩)
        have k0 := hr.cell 0
        have k1 := hr.cell 1
        simp at k0 k1
        refine bodyPost_ret (v := .tuple #[.agg #[.int .u8 0, .string ⟨#[]⟩], .int .i64 0, .int .u8 2]) ?_ rfl (HP.out _ _ rfl ht)
        simp [results, Tryd.results66, go_sem, k0, k1]
      · have hT4 : Tab w4 := HT.out.keeps HM4.out.below
        rw [hm] at HCF HCG
        by_cases hb : Sealed (x.take m)
        · have HP := Lib.hid (HTOLD.out (HCG.out (by omega) (by omega) hb) (by omega))
          have HU2 := Lib.hid (unsealed_ok x n w4 hT4 (by have := HLD.out; omega) (by omega) (by rw [hm]; exact hb))
          unfold Unsl at HU2
          rw [hm] at HU2
          obtain ⟨D, hD⟩ : ∃ D, x.take n = D := ⟨_, rfl⟩
          rw [hD] at HP HU2
          obtain ⟨p, hp⟩ : ∃ p, 13 + n = p := ⟨_, rfl⟩
          rw [hp] at HP
          have hmp : 9 + (m : Int) = (p : Int) := by omega
          have wp : IntKind.i64.wrap (p : Int) = (p : Int) := IntWalk.i64_in _ (by omega)
          clear hp hm hl ht hb hT4 hD HTOLD HCG
          go_wp2_with fail
          refine HU2.out.mono ?_
          rintro e w5 ⟨g5, cap5, rfl, hl5, hc5, hr5, hb5⟩
          have HM5 := Lib.hid (HM4.out.keeps hb5)
          have hcv : (convert 80 9 (.slice (some ⟨g5, 0, none⟩) n cap5)).run Tryd.prog w5 = .ok (.string (tb D)) w5 := text_n (some ⟨g5, 0, none⟩) D n cap5 w5 hl5 hr5
          clear hb5 hr5 hl5 hc5 HU2
          have c0 := HM5.out.c0
          have c1 := HM5.out.c1
          have f0 := HM5.out.f0
          have f1 := HM5.out.f1
          go_wp2
          obtain ⟨hr, ht⟩ := HM5.out.fin (.int .u8 (k : Int)) (.string (tb D))
          have k0 := hr.cell 0
          have k1 := hr.cell 1
          simp at k0 k1
          refine bodyPost_ret (v := .tuple #[.agg #[.int .u8 (k : Int), .string (tb D)], .int .i64 (p : Int), .int .u8 1]) ?_ rfl (HP.out _ _ rfl ht)
          simp [results, Tryd.results66, go_sem, k0, k1]
        · have HP := Lib.hid (HBAD.out (HCF.out (by omega) (by omega) hb))
          have HU2 := Lib.hid (unsealed_bad x m w4 hT4 (by have := HLD.out; omega) (by omega) (by omega) hb)
          clear hl ht hb hT4 hm
          go_wp2_with fail
          refine HU2.out.mono ?_
          rintro e w5 ⟨rfl, hb5⟩
          have HM5 := Lib.hid (HM4.out.keeps hb5)
          clear hb5 HU2
          have c0 := HM5.out.c0
          have c1 := HM5.out.c1
          have f0 := HM5.out.f0
          have f1 := HM5.out.f1
          go_wp2
          obtain ⟨hr, ht⟩ := HM5.out.fin (.int .u8 0) (.string ⟨#[]⟩)
          have k0 := hr.cell 0
          have k1 := hr.cell 1
          simp at k0 k1
          refine bodyPost_ret (v := .tuple #[.agg #[.int .u8 0, .string ⟨#[]⟩], .int .i64 0, .int .u8 3]) ?_ rfl (HP.out _ _ rfl ht)
          simp [results, Tryd.results66, go_sem, k0, k1]
  · have HP := Lib.hid (HBAD.out (look_c h9 hs))
    have HU := Lib.hid (show Calls Tryd.prog 77 #[.string (tb b), .int .i64 9] o _ from unsealed_bad b 9 o (hT.keeps HM.out.below) h9 (by omega) (by omega) hs)
    generalize tb b = s at *
    generalize ReadV b w = Q at *
    clear hs h9 hT
    go_enter Tryd.func66, Tryd.ntmps66
    go_wp2_with fail
    refine HU.out.mono ?_
    rintro e w1 ⟨rfl, hb1⟩
    have HM1 := Lib.hid (HM.out.keeps hb1)
    clear hb1
    have c0 := HM1.out.c0
    have c1 := HM1.out.c1
    have f0 := HM1.out.f0
    have f1 := HM1.out.f1
    go_wp2
    obtain ⟨hr, ht⟩ := HM1.out.fin (.int .u8 0) (.string ⟨#[]⟩)
    have k0 := hr.cell 0
    have k1 := hr.cell 1
    simp at k0 k1
    refine bodyPost_ret (v := .tuple #[.agg #[.int .u8 0, .string ⟨#[]⟩], .int .i64 0, .int .u8 3]) ?_ rfl (HP.out _ _ rfl ht)
    simp [results, Tryd.results66, go_sem, k0, k1]

theorem recread_any (b : List UInt8) (w : World) (hT : Tab w) (hmax : b.length ≤ 1000000) : Calls Tryd.prog 66 #[.string (tb b)] w (ReadV b w) := by
  rcases Nat.lt_or_ge b.length 9 with h | h
  · exact read_short b w h
  · exact read_long b w hT h hmax
end Go.Proofs.YtjahkaockjhibaaDoor

/-
  The walk over package record, part G: Scan.
-/
namespace Go.Proofs.YtjahkaockjhibaaDoor
open Go.RowKit

set_option maxRecDepth 100000 in
theorem Tryd.infoRec : (Tryd.prog.info? 107).map (fun i => (i.zero, i.size, i.bytes)) = some (some (.agg #[.int .u8 0, .string ⟨#[]⟩]), 2, 24) := by kernel_rfl

/-- All records' cells, one behind the other. -/
def recs (l : List Rec) : List Value := l.flatMap recC
theorem recs_length (l : List Rec) : (recs l).length = l.length * 2 := by
  induction l with
  | nil => rfl
  | cons r l ih => unfold recs at ih ⊢; rw [List.flatMap_cons, List.length_append, ih, List.length_cons]; show 2 + l.length * 2 = _; omega
theorem recs_snoc (l : List Rec) (r : Rec) : recs (l ++ [r]) = recs l ++ recC r := by simp [recs]
theorem recs_at : ∀ (l : List Rec) (i : Nat) (h : i < l.length), (recs l)[i * 2]? = some (.int .u8 (l[i].k.toNat : Int)) ∧ (recs l)[i * 2 + 1]? = some (.string (tb l[i].d))
  | [], _, h => absurd h (Nat.not_lt_zero _)
  | r :: l, 0, _ => ⟨rfl, rfl⟩
  | r :: l, i + 1, h => by
    have := recs_at l i (by simpa using h)
    unfold recs at this ⊢
    rw [List.flatMap_cons, List.getElem?_append_right (by show 2 ≤ _; omega), List.getElem?_append_right (by show 2 ≤ _; omega)]
    show (List.flatMap recC l)[(i + 1) * 2 - 2]? = _ ∧ (List.flatMap recC l)[(i + 1) * 2 + 1 - 2]? = _
    rw [show (i + 1) * 2 - 2 = i * 2 by omega, show (i + 1) * 2 + 1 - 2 = i * 2 + 1 by omega]
    exact this
theorem recC_one (r : Rec) : ∀ u ∈ recC r, u.oneCell' = true := by
  intro u hu
  simp only [recC, List.mem_cons, List.not_mem_nil, or_false] at hu
  rcases hu with rfl | rfl <;> rfl

/-- A row of records of the call's own that grows, nil at first. -/
def GrR (w : World) (l : List Rec) (v : Value) (wr : World) : Prop := wr.ownsRow w.heap.size 107 2 v l.length (recs l) ∧ Below w.heap.size w wr
theorem GrR.nil {w wr : World} (h : Below w.heap.size w wr) : GrR w [] (.slice none 0 0) wr := ⟨World.ownsRow_nil _ _ _ _, h⟩
section
variable {w wr w1 w2 : World} {l : List Rec} {r : Rec} {v v' : Value}
theorem GrR.keeps (h : GrR w l v wr) (hb : Below wr.heap.size wr w1) : GrR w l v w1 := by
  refine ⟨⟨h.1.1, ?_⟩, h.2.trans (hb.mono h.2.size)⟩
  rcases h.1.2 with h0 | ⟨k, cap, cur, rfl, h1, hk, rest⟩
  · exact .inl h0
  · exact .inr ⟨k, cap, cur, rfl, h1, Row.below (cs := cur.toList) hk hb (Row.lt (cs := cur.toList) hk), rest⟩
theorem GrR.alloc (h : GrR w l v wr) (o : Obj) : GrR w l v (wr.alloc o) := h.keeps ((Below.refl _ _).alloc (Nat.le_refl _) _)
theorem GrR.drewN (h : GrR w l v wr) (n : Nat) : GrR w l v (wr.drewN n) := h.keeps (below_draw (Below.refl _ _) n)
theorem GrR.more (h : GrR w l v w1) (ho : w2.ownsRow w.heap.size 107 2 v' (l.length + 1) (recs l ++ recC r)) (hg : w1.grownBy w2 v.ownBlock) : GrR w (l ++ [r]) v' w2 := by
  refine ⟨by rw [recs_snoc, List.length_append]; exact ho, Below.grown h.2 hg h.2.size (fun g hg2 => (h.1.lt g hg2).1)⟩
theorem GrR.reads (h : GrR w l v w1) : ∃ A c, v = .slice A l.length c ∧ l.length ≤ c ∧ (A = none → c = 0) ∧ Recs w1 A l := by
  rcases h.1.2 with ⟨rfl, h0⟩ | ⟨k, cap, cur, rfl, h1, hk, hc, _, _, ht⟩
  · have : l = [] := List.eq_nil_of_length_eq_zero h0
    subst this
    exact ⟨none, 0, rfl, Nat.le_refl _, fun _ => rfl, Recs.nil⟩
  · have hrow : Row w1 k 107 cur.toList (0, 0) := hk
    refine ⟨some ⟨k, 0, none⟩, cap, rfl, hc, fun e => (by cases e), ⟨fun i hi => ⟨k, 0, rfl, hrow.lt, ?_, ?_⟩⟩⟩
    · rw [hrow.cell, Nat.zero_add, ← (recs_at l i hi).1, ← ht, List.getElem?_take, if_pos (by omega)]
    · rw [hrow.cell, Nat.zero_add, ← (recs_at l i hi).2, ← ht, List.getElem?_take, if_pos (by omega)]
end

theorem GrR.recs {w w1 : World} {l : List Rec} {A : Option Addr} {c : Nat} (h : GrR w l (.slice A l.length c) w1) : Recs w1 A l := by
  obtain ⟨A', c', hv, _, _, hr⟩ := h.reads
  injection hv with hA
  exact hA ▸ hr

/-- What a scan gives back, in memory of its own. -/
def ScanN (w : World) (l : List Rec) (n x : Nat) (e : Ending) (w' : World) : Prop :=
  ∃ A c, e = .returned (.tuple #[.slice A l.length c, .int .i64 (n : Int), .int .u8 (x : Int)]) ∧ l.length ≤ c ∧ (A = none → c = 0) ∧ Recs w' A l ∧ Below w.heap.size w w' ∧ ∀ ad, A = some ad → w.heap.size ≤ ad.block
theorem GrR.fresh {w w1 : World} {l : List Rec} {A : Option Addr} {n c : Nat} (h : GrR w l (.slice A n c) w1) : ∀ ad, A = some ad → w.heap.size ≤ ad.block := by
  intro ad ha
  subst ha
  exact (h.1.lt ad.block rfl).1

theorem new_rec (w : World) (t : TypeId) (r : Rec) : ∀ j u, (recC r)[j]? = some u → (w.alloc (.cells (recC r).toArray t)).cell? ((⟨w.heap.size, 0, none⟩ : Addr).add j) = some u := by
  intro j u hu
  have hr : Row (w.alloc (.cells (recC r).toArray t)) w.heap.size t (recC r) (0, 0) := Row.new w t (recC r) (0, 0)
  rw [Addr.add_lit, hr.cell, Nat.zero_add, hu]

/-- One more onto them, at the operation. -/
theorem wpList_rec {ops : Array Oper} {rest : List Oper} {o : Oper} {a : Act} {Q : Exit → Act → World → Prop} {w w1 : World} {l : List Rec} (r : Rec) {v : Value} (hgd : o.guard = none) (s x : Operand)
    (ho : o.op = .call { callee := .builtin .append, args := #[s, x], argTypes := #[85, 85] }) (hs : a.eval s = v) (hg : GrR w l v w1) (ad : Addr) (c : Nat) (hx : a.eval x = .slice (some ad) 1 c) (hr : ∀ j u, (recC r)[j]? = some u → w1.cell? (ad.add j) = some u)
    (hle : l.length ≤ 1000000) (h : ∀ v' w2, GrR w (l ++ [r]) v' w2 → wpList Tryd.prog ops Q rest (a.put o.dst v') w2) : wpList Tryd.prog ops Q (o :: rest) a w1 := by
  obtain ⟨i0, hi0, hz0, hz1, hz2⟩ := info_parts Tryd.infoRec
  exact wpList_append_own_at w1 hgd s x 85 ho w.heap.size 107 i0 _ 2 24 Tryd.underlying85 hi0 hz0 hz1 hz2 rfl (by decide) v l.length (recs l) hs hg.1 ad 1 c (recC r) hx rfl hr (recC_one r) (by unfold maxLen; omega) (by omega) hg.2.size
    (fun v' w2 h1 h2 _ _ => h v' w2 (hg.more h1 h2))

theorem look_pos {b : List UInt8} {r : Rec} (h : lookR b = .told r) : 13 + r.d.length ≤ b.length := (look_rec h).1

set_option maxRecDepth 100000 in
set_option maxHeartbeats 2000000 in
theorem scan_new (b : List UInt8) (w : World) (hT : Tab w) (hmax : b.length ≤ 1000000) : Calls Tryd.prog 40 #[.string (tb b)] w (ScanN w (scan b).1 (scan b).2.1 (scan b).2.2) := by
  have HT := Lib.hid hT
  have HMX := Lib.hid hmax
  have HR := Lib.hid (fun wx (h : Below w.heap.size w wx) k => recread_any (b.drop k) wx (hT.keeps h) (by rw [List.length_drop]; omega))
  have HX := Lib.hid (fun k => show (tb b).extract k b.length = tb (b.drop k) by rw [tb_cut, List.take_length])
  have hsz : (tb b).size = b.length := tb_size _
  have HEND := Lib.hid (show ∀ (A : Option Addr) (l : List Rec) (c n x : Nat) (w' : World), scan b = (l, n, x) → l.length ≤ c → (A = none → c = 0) → Recs w' A l → Below w.heap.size w w' → (∀ ad, A = some ad → w.heap.size ≤ ad.block) → ScanN w (scan b).1 (scan b).2.1 (scan b).2.2 (.returned (.tuple #[.slice A l.length c, .int .i64 (n : Int), .int .u8 (x : Int)])) w' from
    fun A l c n x w' h1 h2 h3 h4 h5 h6 => by rw [h1]; exact ⟨A, c, rfl, h2, h3, h4, h5, h6⟩)
  generalize ScanN w (scan b).1 (scan b).2.1 (scan b).2.2 = Q at *
  clear hT
  go_enter Tryd.func40, Tryd.ntmps40
  go_wp2_with fail
  go_step3
  go_wp2_with fail
  go_step3
  go_wp2_with fail
  go_loopw [5, 6, 7] (fun v st i wr => ∃ (l : List Rec) (k : Nat) (u : Value), k ≤ b.length ∧ st = .int .u8 0 ∧ u = v ∧ i = .int .i64 k ∧ l.length ≤ k ∧ scan b = (l ++ (scan (b.drop k)).1, k + (scan (b.drop k)).2.1, (scan (b.drop k)).2.2) ∧ GrR w l u wr) (fun _ _ i _ => b.length - (intOf i).toNat)
  case atStart => exact ⟨[], 0, _, by omega, rfl, rfl, rfl, by simp, by simp, GrR.nil (Below.refl _ _)⟩
  case round =>
    obtain ⟨l, k, v, hk, rfl, rfl, rfl, hlk, hsc, hg⟩ := hrel
    have HG := Lib.hid hg
    have HSC := Lib.hid hsc
    have HRK := Lib.hid (HR.out wr hg.2 k)
    have hXk := HX.out k
    have hkI : (k : Int) ≤ (b.length : Int) := by omega
    have HLD := Lib.hid (List.length_drop (i := k) (l := b))
    unfold ReadV at HRK
    generalize hx : b.drop k = x at *
    have HX2 := Lib.hid hx
    clear hx hg hsc
    obtain ⟨A, c, rfl, hc, hA, hrd⟩ := HG.out.reads
    have HC := Lib.hid (And.intro hc hA)
    clear hc hA hrd
    cases hlook : lookR x with
    | whole =>
      rw [hlook] at HRK
      have HS := Lib.hid (show scan b = (l, k, 0) by rw [HSC.out, scan_of_whole hlook]; simp)
      simp only [lkRec, lkN, lkF, recV] at HRK
      clear hlook HSC
      go_wp2_with fail
      refine HRK.out.mono ?_
      rintro e w1 ⟨rfl, hb1⟩
      have HG1 := Lib.hid ((HG.out.keeps hb1).alloc (.cells #[.int .u8 0, .string (tb [])] 107))
      clear hb1 HRK HG
      go_wp2
      rw [Exit.noGoto_ret]
      refine bodyPost_ret (v := .tuple #[.slice A l.length c, .int .i64 (k : Int), .int .u8 0]) (by simp [results, Tryd.results40, go_sem]) rfl ?_
      exact HEND.out _ _ _ _ _ _ HS.out HC.out.1 HC.out.2 HG1.out.recs HG1.out.2 HG1.out.fresh
    | torn =>
      rw [hlook] at HRK
      have HS := Lib.hid (show scan b = (l, k, 1) by rw [HSC.out, scan_of_torn hlook]; simp)
      simp only [lkRec, lkN, lkF, recV] at HRK
      clear hlook HSC
      go_wp2_with fail
      refine HRK.out.mono ?_
      rintro e w1 ⟨rfl, hb1⟩
      have HG1 := Lib.hid ((HG.out.keeps hb1).alloc (.cells #[.int .u8 0, .string (tb [])] 107))
      clear hb1 HRK HG
      go_wp2
      rw [Exit.noGoto_ret]
      refine bodyPost_ret (v := .tuple #[.slice A l.length c, .int .i64 (k : Int), .int .u8 1]) (by simp [results, Tryd.results40, go_sem]) rfl ?_
      exact HEND.out _ _ _ _ _ _ HS.out HC.out.1 HC.out.2 HG1.out.recs HG1.out.2 HG1.out.fresh
    | bad =>
      rw [hlook] at HRK
      have HS := Lib.hid (show scan b = (l, k, 2) by rw [HSC.out, scan_of_bad hlook]; simp)
      simp only [lkRec, lkN, lkF, recV] at HRK
      clear hlook HSC
      go_wp2_with fail
      refine HRK.out.mono ?_
      rintro e w1 ⟨rfl, hb1⟩
      have HG1 := Lib.hid ((HG.out.keeps hb1).alloc (.cells #[.int .u8 0, .string (tb [])] 107))
      clear hb1 HRK HG
      go_wp2
      rw [Exit.noGoto_ret]
      refine bodyPost_ret (v := .tuple #[.slice A l.length c, .int .i64 (k : Int), .int .u8 2]) (by simp [results, Tryd.results40, go_sem]) rfl ?_
      exact HEND.out _ _ _ _ _ _ HS.out HC.out.1 HC.out.2 HG1.out.recs HG1.out.2 HG1.out.fresh
    | told r =>
      rw [hlook] at HRK
      have HP := Lib.hid (look_pos hlook)
      have hpos := HP.out
      have HS := Lib.hid (show scan b = ((l ++ [r]) ++ (scan (b.drop (k + (13 + r.d.length)))).1, (k + (13 + r.d.length)) + (scan (b.drop (k + (13 + r.d.length)))).2.1, (scan (b.drop (k + (13 + r.d.length)))).2.2) by
        rw [HSC.out, scan_of_rec hlook, ← HX2.out, List.drop_drop]
        simp only [List.append_assoc, List.singleton_append, Prod.mk.injEq, true_and, and_true]
        omega)
      simp only [lkRec, lkN, lkF, recV] at HRK
      obtain ⟨d, hd⟩ : ∃ d, 13 + r.d.length = d := ⟨_, rfl⟩
      rw [hd] at HRK HS hpos
      have hd13 : 13 ≤ d := by omega
      obtain ⟨k2, hk2⟩ : ∃ k2, k + d = k2 := ⟨_, rfl⟩
      have hkd : (k : Int) + (d : Int) = (k2 : Int) := by omega
      have hw2 : IntKind.i64.wrap (k2 : Int) = (k2 : Int) := IntWalk.i64_in _ (by have := HLD.out; have := HMX.out; omega)
      rw [hk2] at HS
      clear hlook HSC hd
      go_wp2_with fail
      refine HRK.out.mono ?_
      rintro e w1 ⟨rfl, hb1⟩
      have HG1 := Lib.hid (HG.out.keeps hb1)
      obtain ⟨o1, ho1⟩ : ∃ o1, w1.alloc (.cells #[.int .u8 (r.k.toNat : Int), .string (tb r.d)] 107) = o1 := ⟨_, rfl⟩
      have HG2 := Lib.hid (show GrR w l (.slice A l.length c) o1 from ho1 ▸ HG1.out.alloc _)
      have hrow : Row o1 w1.heap.size 107 (recC r) (0, 0) := ho1 ▸ Row.new w1 107 (recC r) (0, 0)
      have c0 : o1.cell? ⟨w1.heap.size, 0, none⟩ = some (.int .u8 (r.k.toNat : Int)) := by rw [hrow.cell]; rfl
      have c1 : o1.cell? ⟨w1.heap.size, 1, none⟩ = some (.string (tb r.d)) := by rw [hrow.cell]; rfl
      have HG3 := Lib.hid (HG2.out.alloc (.cells (recC r).toArray 107))
      have HN := Lib.hid (new_rec o1 107 r)
      have hll : l.length ≤ 1000000 := by have := HMX.out; omega
      clear hb1 HRK HG hrow
      go_wp2_with (at_builtin; refine wpList_rec r rfl (.tmp 22) (.tmp 24) rfl rfl HG3.out ⟨o1.heap.size, 0, none⟩ 1 rfl HN.out hll ?_)
      intro v5 w5 hg5
      have HG5 := Lib.hid hg5
      clear hg5 HG1 HG2 HG3 HN c0 c1
      go_wp2
      go_roundw
      case rel => exact ⟨l ++ [r], k2, _, by have := HLD.out; omega, rfl, rfl, by go_num, by simp; omega, HS.out, HG5.out⟩
      case measure => have := HLD.out; simp [intOf]; omega
theorem scan_any (b : List UInt8) (w : World) (hT : Tab w) (hmax : b.length ≤ 1000000) : Calls Tryd.prog 40 #[.string (tb b)] w (ScanV w (scan b).1 (scan b).2.1 (scan b).2.2) :=
  (scan_new b w hT hmax).mono fun _ _ ⟨A, c, h1, h2, h3, h4, h5, _⟩ => ⟨A, c, h1, h2, h3, h4, h5⟩
end Go.Proofs.YtjahkaockjhibaaDoor
