/-
  The walks over package record, part B: a header, Put.
-/
import Derived.Test.YtlhcacancnmhcaaDoorRecCodeA
import Derived.Lib.ConvBytes
namespace Go.Proofs.YtlhcacancnmhcaaDoor
open Go.RowKit

theorem sealed_sealL (b : List UInt8) : sealL b = sealed b := rfl

/-- A text made into bytes, whatever the world: the world behind it and the capacity as functions. -/
theorem conv_tb (l : List UInt8) : ∃ (wF : World → World) (cF : World → Nat), (∀ w, (convert 9 47 (.string (tb l))).run Tryd.prog w = .ok (.slice (some ⟨w.heap.size, 0, none⟩) l.length (cF w)) (wF w)) ∧
    ∀ w, Reads 5 (wF w) (some ⟨w.heap.size, 0, none⟩) l ∧ Below w.heap.size w (wF w) ∧ l.length ≤ cF w := by
  refine ⟨fun w => Lib.bytesWorld w 5 (tb l), fun w => grownCap w (tb l).size 0 5, fun w => ?_, fun w => ⟨fun _ => ?_, ⟨rfl, rfl, rfl, ?_, fun k hk => Lib.bytesWorld_at_old w _ _ k hk⟩, ?_⟩⟩
  · rw [Lib.run_convert_string_bytes (P := Tryd.prog) w 9 47 5 (tb l) Tryd.underlying9 Tryd.underlying47 Tryd.underlying5, tb_size]
  · refine ⟨w.heap.size, 0, (Lib.bytesCells w 5 (tb l)).toList, ((Lib.bytesCells w 5 (tb l)).size, (Lib.bytesCells w 5 (tb l)).size + 1), rfl, ?_, fun j hj => ?_⟩
    · unfold Row
      rw [Array.toArray_toList]
      exact Lib.bytesWorld_at_new w _ _
    · rw [byt_get _ _ hj, Nat.zero_add, Array.getElem?_toList]
      simp [Lib.bytesCells, tb, Array.getElem?_append, hj]
  · rw [Lib.bytesWorld_size]; omega
  · rw [← tb_size l]; exact grownCap_ge _ _ _ _

/-- Blocks of other types than bytes are as they were. -/
def Far8 (w1 w2 : World) : Prop := ∀ g t cs m, t ≠ 5 → Row w1 g t cs m → Row w2 g t cs m
/-- Bytes of the call's own that grow, nil at first. -/
def Grw (w : World) (l : List UInt8) (v : Value) (wr : World) : Prop := wr.ownsRow w.heap.size 5 1 v l.length (byt l) ∧ Below w.heap.size w wr
theorem Grw.nil {w wr : World} (h : Below w.heap.size w wr) : Grw w [] (.slice none 0 0) wr := ⟨World.ownsRow_nil _ _ _ _, h⟩
section
variable {w wr w1 w2 : World} {l r : List UInt8} {v v' : Value}
theorem Grw.keeps (h : Grw w l v wr) (hb : Below wr.heap.size wr w1) : Grw w l v w1 := by
  refine ⟨⟨h.1.1, ?_⟩, h.2.trans (hb.mono h.2.size)⟩
  rcases h.1.2 with h0 | ⟨k, cap, cur, rfl, h1, hk, rest⟩
  · exact .inl h0
  · exact .inr ⟨k, cap, cur, rfl, h1, Row.below (cs := cur.toList) hk hb (Row.lt (cs := cur.toList) hk), rest⟩
theorem Grw.more (h : Grw w l v w1) (ho : w2.ownsRow w.heap.size 5 1 v' (l.length + r.length) (byt l ++ byt r)) (hg : w1.grownBy w2 v.ownBlock) : Grw w (l ++ r) v' w2 := by
  refine ⟨by rw [byt_append, List.length_append]; exact ho, Below.grown h.2 hg h.2.size (fun g hg2 => (h.1.lt g hg2).1)⟩
theorem Grw.far (h : Grw w l v w1) (hg : w1.grownBy w2 v.ownBlock) {g : Nat} {t : TypeId} {cs : List Value} {m : Nat × Nat} (ht : t ≠ 5) (hr : Row w1 g t cs m) : Row w2 g t cs m := hr.grown hg (fun e => by
  rcases h.1.2 with ⟨rfl, _⟩ | ⟨k, cap, cur, rfl, _, hk, _⟩
  · cases e
  · injection e with e
    exact Row.ne_ (cs' := cur.toList) hr hk ht e)
theorem Grw.reads (h : Grw w l v w1) : ∃ A c, v = .slice A l.length c ∧ l.length ≤ c ∧ (A = none → c = 0) ∧ Reads 5 w1 A l := by
  rcases h.1.2 with ⟨rfl, h0⟩ | ⟨k, cap, cur, rfl, h1, hk, hc, _, _, ht⟩
  · have : l = [] := List.eq_nil_of_length_eq_zero h0
    subst this
    exact ⟨none, 0, rfl, Nat.le_refl _, fun _ => rfl, Reads.nil⟩
  · refine ⟨some ⟨k, 0, none⟩, cap, rfl, hc, fun e => (by cases e), fun _ => ⟨k, 0, cur.toList, (0, 0), rfl, hk, fun j hj => ?_⟩⟩
    rw [Nat.zero_add, ← ht, Nat.mul_one, List.getElem?_take, if_pos hj]
end

/-- More bytes onto them, at the operation. -/
theorem wpList_grw {ops : Array Oper} {rest : List Oper} {o : Oper} {a : Act} {Q : Exit → Act → World → Prop} {T : TypeId} {w w1 : World} {l r : List UInt8} {v : Value} (hgd : o.guard = none) (s x : Operand)
    (ho : o.op = .call { callee := .builtin .append, args := #[s, x], argTypes := #[47, 47] }) (hs : a.eval s = v) (hg : Grw w l v w1) (ad : Addr) (m c : Nat) (hx : a.eval x = .slice (some ad) m c) (hm : r.length = m) (hr : Reads T w1 (some ad) r)
    (hle : l.length + m ≤ 140000000000) (h : ∀ v' w2, Grw w (l ++ r) v' w2 → Far8 w1 w2 → wpList Tryd.prog ops Q rest (a.put o.dst v') w2) : wpList Tryd.prog ops Q (o :: rest) a w1 := by
  obtain ⟨i0, hi0, hz0, hz1, hz2⟩ := info_parts Tryd.info_u8
  subst hm
  exact wpList_append_own_at w1 hgd s x 47 ho w.heap.size 5 i0 _ 1 1 Tryd.underlying47 hi0 hz0 hz1 hz2 rfl (by decide) v l.length (byt l) hs hg.1 ad r.length c (byt r) hx (by rw [byt_length, Nat.mul_one]) (reads_news hr) (byt_one _) (by unfold maxLen; omega) (by omega) hg.2.size
    (fun v' w2 h1 h2 _ _ => h v' w2 (hg.more h1 h2) (fun g t cs m ht hr => hg.far h2 ht hr))

set_option maxRecDepth 100000 in
set_option maxHeartbeats 1000000 in
theorem header_any (r : Rec) (w : World) (hT : Tab w) (hr : r.d.length ≤ 1000000) :
    Calls Tryd.prog 17 #[recV r] w (NewS w 9 (headR r)) := by
  unfold recV
  have HT := Lib.hid hT
  clear hT
  have hk := r.k.toNat_lt
  have HK := Lib.hid (show be r.k.toNat 1 = [r.k] from by
    simp only [be]
    simp)
  have HF := Lib.hid (show sealL (be r.k.toNat 1 ++ be r.d.length 4) = headR r from by rw [HK.out]; rfl)
  have HL := Lib.hid (show (be r.k.toNat 1 ++ be r.d.length 4).length = 5 from by simp [be_length])
  have HL1 := Lib.hid (be_length r.k.toNat 1)
  have hs : (tb r.d).size = r.d.length := tb_size _
  generalize headR r = H at *
  obtain ⟨n, hn⟩ : ∃ n, r.d.length = n := ⟨_, rfl⟩
  rw [hn] at hs hr HF HL
  generalize tb r.d = s at *
  obtain ⟨q, hq⟩ : ∃ q, r.k.toNat = q := ⟨_, rfl⟩
  rw [hq] at HF HL hk HL1 ⊢
  subst hs
  clear hn hq HK
  obtain ⟨o, ho⟩ : ∃ o, w.alloc (.cells #[.int .u8 (q : Int), .string s] 36) = o := ⟨_, rfl⟩
  have HB0 := Lib.hid (show Below w.heap.size w o from by rw [← ho]; exact (Below.refl _ _).alloc (Nat.le_refl _) _)
  have HP := Lib.hid (put_wide none [] 0 q 1 o Reads.nil (by simp) rfl)
  simp only [List.length_nil, Nat.zero_add, List.nil_append] at HP
  have HC := Lib.hid (show Row o w.heap.size 36 [.int .u8 (q : Int), .string s] (0, 0) from by rw [← ho]; exact Row.new w 36 [.int .u8 (q : Int), .string s] (0, 0))
  have c0 : o.cell? ⟨w.heap.size, 0, none⟩ = some (.int .u8 (q : Int)) := by rw [HC.out.cell]; rfl
  go_enter Tryd.func17, Tryd.ntmps17
  go_wp2_with fail
  refine HP.out.mono ?_
  rintro e w1 ⟨rfl, hb1, hr1⟩
  have HB1 := Lib.hid (HB0.out.trans (hb1.mono HB0.out.size))
  have HC1 := Lib.hid (HC.out.below hb1 HC.out.lt)
  have HP2 := Lib.hid (put_wide (some ⟨o.heap.size, 0, none⟩) (be q 1) 1 s.size 4 w1 (row_reads hr1) (by rw [be_length]; omega) rfl)
  rw [HL1.out] at HP2
  have c1 : w1.cell? ⟨w.heap.size, 1, none⟩ = some (.string s) := by rw [HC1.out.cell]; rfl
  clear hb1 hr1 HP
  go_wp2_with fail
  refine HP2.out.mono ?_
  rintro e w2 ⟨rfl, hb2, hr2⟩
  have HB2 := Lib.hid (HB1.out.trans (hb2.mono HB1.out.size))
  have HS := Lib.hid (seal_new (some ⟨w1.heap.size, 0, none⟩) (be q 1 ++ be s.size 4) 5 w2 (HT.out.keeps HB2.out) (row_reads hr2) (by rw [HL.out]; omega))
  rw [HL.out] at HS
  clear hb2 hr2 HP2 c1
  go_wp2_with fail
  refine HS.out.mono ?_
  rintro e w3 ⟨g, rfl, hl3, hr3, hb3⟩
  have HB3 := Lib.hid (HB2.out.trans (hb3.mono HB2.out.size))
  have HR3 := Lib.hid hr3
  have HL3 := Lib.hid hl3
  clear hb3 hr3 hl3
  go_wp2
  go_ret
  exact ⟨g, rfl, by rw [← HF.out, HL3.out], by rw [← HF.out]; exact HR3.out, HB3.out⟩
end Go.Proofs.YtlhcacancnmhcaaDoor
