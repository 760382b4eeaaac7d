/-
  strings.Clone: the same text again.
-/
import Derived.Test.YtjahkaockjhibaaDoorMTapB
import Derived.Lib.UnsafeStr
import Derived.Test.YtjahkaockjhibaaDoorMWCodB
import Derived.Test.YtjahkaockjhibaaDoorMRec
import Derived.Test.YtjahkaockjhibaaDoorMCrc
namespace Go.Proofs.YtjahkaockjhibaaDoor
open Go.RowKit

theorem Tryd.u8size : (Tryd.prog.info? 5).map (·.size) = some 1 := by kernel_rfl
/-- copy(b, s): as many bytes as there is room for. -/
theorem run_copy_str {P : Program} (w : World) (dT sT ty elem : TypeId) (g o n c : Nat) (s : ByteArray) (L : List Value) (t : TypeId)
    (hu : P.underlying dT = some (.slice elem)) (hs : (P.info? elem).map (·.size) = some 1) (hg : Row w g t L (0, 0)) (hfit : o + n ≤ L.length) :
    (Builtin.copy_ #[dT, sT] ty #[.slice (some ⟨g, o, none⟩) n c, .string s]).run P w = .ok (.int .i64 ((min s.size n : Nat) : Int)) (w.setRow g (splice L o (byt ((txt s).take n))).toArray) := by
  have hlen : (byt ((txt s).take n)).length = min s.size n := by rw [byt_length, List.length_take, txt_length]; omega
  have hst := run_storeCells_at P g o t (byt ((txt s).take n)) 0 L.toArray w hg (by rw [hlen]; simp; omega) (byt_one _)
  have htk : List.take (min s.size n) (List.map (fun b : UInt8 => Value.int IntKind.u8 (b.toNat : Int)) s.data.toList) = byt ((txt s).take n) := by
    rw [byt_take]
    show List.take (min s.size n) (byt (txt s)) = _
    rcases Nat.le_total s.size n with h | h
    · rw [Nat.min_eq_left h, List.take_of_length_le (by rw [byt_length, txt_length]; exact Nat.le_refl _), List.take_of_length_le (by rw [byt_length, txt_length]; exact h)]
    · rw [Nat.min_eq_right h]
  simp only [Nat.add_zero, List.append_assoc] at hst
  have hst2 : (storeCells ⟨g, o, none⟩ (byt ((txt s).take n))).run P w = .ok () (w.setRow g (splice L o (byt ((txt s).take n))).toArray) := hst
  cases hq : P.info? elem with
  | none => simp [hq] at hs
  | some i =>
    simp [Builtin.copy_, run_underlying hu, Builtin.lenOf, Builtin.firstCells, sizeOf, typeInfo, hq]
    rw [show Nat.min s.size n = min s.size n from rfl, htk, hst2]
    simp [Result.andThen, goInt]

theorem madeZero (n : Nat) : madeCells (Value.int .u8 0).cells n = (byt (List.replicate n 0)).toArray := by
  apply Array.ext
  · simp [madeCells, byt, Value.cells]
  · intro i h1 h2
    simp [madeCells, byt, Value.cells, Nat.mod_one]
theorem makeZeros (n : Nat) (hn : n ≤ 281474976710656) (i : Int) (hi : i = (n : Int)) (w : World) : (Instr.makeSlice 80 (.int .i64 i) (.int .i64 i)).run Tryd.prog w =
    .ok (.slice (some ⟨w.heap.size, 0, none⟩) n n) (w.alloc (.cells (byt (List.replicate n 0)).toArray 5)) := by
  obtain ⟨i0, hi0, hz0, hz1, hz2⟩ := info_parts Tryd.infoU8
  subst hi
  have h := run_make (P := Tryd.prog) w 80 5 i0 _ Tryd.underlying80 hi0 hz0 .i64 .i64 n n (by omega) (by omega) (by rw [hz2]; omega) (by omega)
  rw [h, hz1, Int.toNat_natCast, Nat.mul_one, madeZero]

theorem Tryd.u8cells : Tryd.prog.cellsOf 5 = 1 := by kernel_rfl

set_option maxRecDepth 100000 in
set_option maxHeartbeats 1000000 in
/-- The same text again. -/
theorem sclone_any (s : ByteArray) (w : World) (hs : s.size ≤ 281474976710656) : Calls Tryd.prog 73 #[.string s] w fun e w' => e = .returned (.string s) ∧ Below w.heap.size w w' := by
  rcases Nat.eq_zero_or_pos s.size with h0 | h0
  · have e : s = ⟨#[]⟩ := ByteArray.ext (Array.eq_empty_of_size_eq_zero h0)
    subst e
    go_enter Tryd.func73, Tryd.ntmps73
    go_wp2
    go_ret
    exact ⟨rfl, Below.refl _ _⟩
  · have hmk := makeZeros s.size hs (s.size : Int) rfl w
    have hr1 := Row.new w 5 (byt (List.replicate s.size 0)) (0, 0)
    have hb1 : Below w.heap.size w (w.alloc (.cells (byt (List.replicate s.size 0)).toArray 5)) := (Below.refl _ w).alloc (Nat.le_refl _) _
    obtain ⟨w1, hw1⟩ : ∃ w1, w.alloc (.cells (byt (List.replicate s.size 0)).toArray 5) = w1 := ⟨_, rfl⟩
    rw [hw1] at hmk hr1 hb1
    have hcp : ∀ ty, (Builtin.copy_ #[80, 9] ty #[.slice (some ⟨w.heap.size, 0, none⟩) s.size s.size, .string s]).run Tryd.prog w1 = _ := fun ty =>
      run_copy_str w1 80 9 ty 5 w.heap.size 0 s.size s.size s _ 5 Tryd.underlying80 Tryd.u8size hr1 (by simp [byt_length, txt_length])
    have hsp : splice (byt (List.replicate s.size 0)) 0 (byt ((txt s).take s.size)) = byt (txt s) := by
      rw [List.take_of_length_le (by rw [txt_length]; exact Nat.le_refl _)]
      unfold splice
      rw [List.drop_of_length_le (by simp [byt_length, txt_length])]
      simp
    rw [hsp, Nat.min_self] at hcp
    have hr2 := hr1.setRow_ (cs := byt (txt s))
    have hb2 : Below w.heap.size w (w1.setRow w.heap.size (byt (txt s)).toArray) := below_setRow hb1 (Nat.le_refl _) _
    obtain ⟨w2, hw2⟩ : ∃ w2, w1.setRow w.heap.size (byt (txt s)).toArray = w2 := ⟨_, rfl⟩
    rw [hw2] at hr2 hb2
    simp only [hw2] at hcp
    have hus : ∀ ty, (Builtin.unsafeString_ #[130, 3] ty #[.pointer (some ⟨w.heap.size, 0, none⟩), .int .i64 (s.size : Int)]).run Tryd.prog w2 = _ := fun ty =>
      Lib.run_unsafeString_row (P := Tryd.prog) w2 130 3 ty 5 Tryd.underlying130 Tryd.u8cells w.heap.size s.size (by unfold World.shape?; rw [show w2.heap[w.heap.size]? = _ from hr2]; simp [byt_length, txt_length]) (txt s)
        (fun e => by have : (txt s).length = 0 := by { rw [e]; rfl }
                     rw [txt_length] at this; omega) (by rw [txt_length]; exact Nat.le_refl _) (by rw [txt_length]; omega)
        (fun j x hx => by
          rw [Addr.add_lit, hr2.cell, Nat.zero_add]
          unfold byt
          rw [List.getElem?_map, hx]; rfl)
    have hb3 := Lib.below_freeze hb2 (p := ⟨w.heap.size, 0, none⟩) (Nat.le_refl _) (txt s).length
    have es : (⟨(txt s).toArray⟩ : ByteArray) = s := by cases s; simp [txt]
    rw [es] at hus
    obtain ⟨w3, hw3⟩ : ∃ w3, w2.freeze ⟨w.heap.size, 0, none⟩ (txt s).length = w3 := ⟨_, rfl⟩
    rw [hw3] at hb3
    simp only [hw3] at hus
    have HB := Lib.hid hb3
    have hn : (s.size : Int) ≤ 281474976710656 := by omega
    clear hb1 hb2 hb3 hr1 hr2 hw1 hw2 hw3 hsp es hs
    go_enter Tryd.func73, Tryd.ntmps73
    go_wp2_with fail
    go_ret
    exact ⟨rfl, HB.out⟩

set_option maxRecDepth 100000 in
theorem clone_str (s : ByteArray) (w : World) (hs : s.size ≤ 281474976710656) : Calls Tryd.prog 61 #[.string s] w fun e w' => e = .returned (.string s) ∧ Below w.heap.size w w' := by
  have HS := Lib.hid (sclone_any s w hs)
  clear hs
  go_enter Tryd.func61, Tryd.ntmps61
  go_wp2_with fail
  refine HS.out.mono ?_
  rintro e w1 ⟨rfl, hb⟩
  have HB := Lib.hid hb
  clear hb
  go_wp2
  go_ret
  exact ⟨rfl, HB.out⟩

end Go.Proofs.YtjahkaockjhibaaDoor

/-
  The code's log: a record's bytes; what a record says.
-/
namespace Go.Proofs.YtjahkaockjhibaaDoor
open Go.RowKit

set_option maxRecDepth 100000 in
set_option maxHeartbeats 1000000 in
theorem wbytes_any (x : Ent) (w : World) (hT : Tab w) (hn : x.n < 18446744073709551616) (hd : x.d.length ≤ 30000) :
    Calls Tryd.prog 62 #[entV x] w fun e w' => e = .returned (.tuple #[.string (tb (one (recE x))), .int .i64 0]) ∧ Below w.heap.size w w' := by
  obtain ⟨o, ho⟩ : ∃ o, w.alloc (.cells #[.int .u64 (x.n : Int), .int .u8 (x.k.toNat : Int), .string (tb x.d)] 48) = o := ⟨_, rfl⟩
  have HB0 := Lib.hid (show Below w.heap.size w o by rw [← ho]; exact (Below.refl _ _).alloc (Nat.le_refl _) _)
  have hrow : Row o w.heap.size 48 [.int .u64 (x.n : Int), .int .u8 (x.k.toNat : Int), .string (tb x.d)] (0, 0) := by rw [← ho]; exact Row.new w 48 [.int .u64 (x.n : Int), .int .u8 (x.k.toNat : Int), .string (tb x.d)] (0, 0)
  have c0 : o.cell? ⟨w.heap.size, 0, none⟩ = some (.int .u64 (x.n : Int)) := hrow.cell 0
  have HC := Lib.hid (show ∀ wx, Below o.heap.size o wx → wx.cell? ⟨w.heap.size, 1, none⟩ = some (.int .u8 (x.k.toNat : Int)) ∧ wx.cell? ⟨w.heap.size, 2, none⟩ = some (.string (tb x.d)) from fun wx hb => by
    have h := hrow.below hb hrow.lt
    exact ⟨h.cell 1, h.cell 2⟩)
  have HP := Lib.hid (put_wide none [] 0 x.n 8 o Reads.nil (by simp) rfl)
  simp only [List.length_nil, Nat.zero_add, List.nil_append] at HP
  have HTX := Lib.hid (fun w1 (hr : Row w1 o.heap.size 5 (byt (be x.n 8)) (0, 0)) => show (convert 80 9 (.slice (some ⟨o.heap.size, 0, none⟩) 8 8)).run Tryd.prog w1 = .ok (.string (tb (be x.n 8))) w1 from text_n _ _ _ _ _ (be_length x.n 8) (row_reads hr))
  have HQ := Lib.hid (show ∀ w2, Below w.heap.size w w2 → Calls Tryd.prog 75 #[.slice (some ⟨w2.heap.size, 0, none⟩) 1 1] (w2.alloc (.cells #[.int .u8 (x.k.toNat : Int), .string (tb (be x.n 8 ++ x.d))] 107)) (fun e w' => e = .returned (.tuple #[.string (tb (one (recE x))), .int .i64 0]) ∧ Below w.heap.size w w') from fun w2 h => by
    have hr : Recs (w2.alloc (.cells #[.int .u8 (x.k.toNat : Int), .string (tb (be x.n 8 ++ x.d))] 107)) (some ⟨w2.heap.size, 0, none⟩) [recE x] := ⟨fun i hi => by
      obtain rfl : i = 0 := by simpa using hi
      have hrw : Row (w2.alloc (.cells #[.int .u8 (x.k.toNat : Int), .string (tb (be x.n 8 ++ x.d))] 107)) w2.heap.size 107 [.int .u8 (x.k.toNat : Int), .string (tb (be x.n 8 ++ x.d))] (0, 0) := Row.new w2 107 [.int .u8 (x.k.toNat : Int), .string (tb (be x.n 8 ++ x.d))] (0, 0)
      exact ⟨w2.heap.size, 0, rfl, hrw.lt, by rw [hrw.cell]; rfl, by rw [hrw.cell]; rfl⟩⟩
    have hb : Below w.heap.size w (w2.alloc (.cells #[.int .u8 (x.k.toNat : Int), .string (tb (be x.n 8 ++ x.d))] 107)) := h.alloc h.size _
    have hfit : Fit [recE x] := fun r hr2 => by rw [List.mem_singleton] at hr2; subst hr2; rw [recE_len]; omega
    refine (put_any (some ⟨w2.heap.size, 0, none⟩) [recE x] 1 _ (hT.keeps hb) hr (by simp) (fun r hr2 => by rw [List.mem_singleton] at hr2; subst hr2; rw [recE_len]; omega)).mono fun e w' ⟨h1, h2⟩ => ⟨?_, hb.trans (h2.mono hb.size)⟩
    rw [h1, if_pos hfit, if_pos hfit, one_rec_put])
  have hX := tb_app (be x.n 8) x.d
  have z1 : (tb (be x.n 8)).size = 8 := by rw [tb_size, be_length]
  have z2 : (tb x.d).size = x.d.length := tb_size _
  have q1 : ¬ 9223372036854775807 < 8 + x.d.length := by omega
  generalize tb (one (recE x)) = Y at *
  generalize tb (be x.n 8 ++ x.d) = Z at *
  generalize tb (be x.n 8) = Bn at *
  unfold entV
  generalize tb x.d = D at *
  generalize x.k.toNat = kq at *
  clear hrow hT
  go_enter Tryd.func62, Tryd.ntmps62
  go_wp2_with fail
  try rw [ho]
  clear ho
  refine HP.out.mono ?_
  rintro e w1 ⟨rfl, hb1, hr1⟩
  have HB1 := Lib.hid (HB0.out.trans (hb1.mono HB0.out.size))
  have hcv := HTX.out w1 hr1
  obtain ⟨c1, c2⟩ := HC.out w1 hb1
  have HQ1 := Lib.hid (HQ.out w1 HB1.out)
  clear hb1 hr1 HP HTX HC HQ
  go_wp2_with fail
  refine HQ1.out.mono ?_
  rintro e w3 ⟨rfl, hb3⟩
  have HB3 := Lib.hid hb3
  clear hb3
  go_wp2
  go_ret2
  exact ⟨rfl, HB3.out⟩

/-- What entryOf hands back. -/
def entOfV (r : Rec) : Value := match entOf r with
  | some x => .tuple #[entV x, .bool true]
  | none => .tuple #[entV ⟨0, 0, []⟩, .bool false]
theorem entOf_num (r : Rec) : (rnum (some r.d) 8).1 = if 8 ≤ r.d.length then val (r.d.take 8) else 0 := by
  show (if isW 8 = true ∧ (8 : Int) ≤ (r.d.length : Int) then (val (r.d.take 8), some (r.d.drop 8)) else (0, none)).1 = _
  by_cases h : 8 ≤ r.d.length
  · rw [if_pos h, if_pos ⟨rfl, by omega⟩]
  · rw [if_neg h, if_neg (fun hh => h (by omega))]

set_option maxRecDepth 100000 in
set_option maxHeartbeats 1000000 in
theorem wentry_any (r : Rec) (w : World) (hr : r.d.length ≤ 1000000) : Calls Tryd.prog 67 #[recV r] w fun e w' => e = .returned (entOfV r) ∧ Below w.heap.size w w' := by
  obtain ⟨q, hq⟩ : ∃ q, (rnum (some r.d) 8).1 = q := ⟨_, rfl⟩
  have hq2 := (entOf_num r).symm.trans hq
  have hqv : q < 18446744073709551616 := by
    rw [← hq2]
    split
    · have := val_lt (r.d.take 8)
      rw [List.length_take] at this
      exact Nat.lt_of_lt_of_le this (Nat.le_trans (Nat.pow_le_pow_right (by decide) (Nat.min_le_left _ _)) (by decide))
    · decide
  have hV0 : q = 0 ∨ 281474976710656 < q → entOfV r = .tuple #[.agg #[.int .u64 0, .int .u8 0, .string ⟨#[]⟩], .bool false] := fun hh => by
    have : entOf r = none := by
      by_cases h8 : 8 ≤ r.d.length
      · rw [if_pos h8] at hq2
        rcases hh with hh | hh
        · exact entOf_zero (hq2.trans hh)
        · exact entOf_great (by rw [hq2]; exact hh)
      · exact entOf_short (by omega)
    unfold entOfV
    rw [this]
    rfl
  have hV1 : q ≠ 0 → q ≤ 281474976710656 → 8 ≤ r.d.length ∧ entOfV r = .tuple #[.agg #[.int .u64 (q : Int), .int .u8 (r.k.toNat : Int), .string (tb (r.d.drop 8))], .bool true] := fun h0 h1 => by
    have h8 : 8 ≤ r.d.length := by
      rcases Nat.lt_or_ge r.d.length 8 with h | h
      · rw [if_neg (by omega)] at hq2
        exact absurd hq2.symm h0
      · exact h
    rw [if_pos h8] at hq2
    refine ⟨h8, ?_⟩
    unfold entOfV
    rw [entOf_ok h8 (by rw [hq2]; exact h0) (by rw [hq2]; exact h1), hq2]
    rfl
  have HV0 := Lib.hid hV0
  have HV1 := Lib.hid hV1
  generalize entOfV r = v at *
  obtain ⟨wF, cF, hcv, hcw⟩ := conv_tb r.d
  have HCW := Lib.hid hcw
  have hxt : (tb r.d).extract 8 r.d.length = tb (r.d.drop 8) := by rw [tb_cut, List.take_length]
  have hsz : (tb r.d).size = r.d.length := tb_size _
  obtain ⟨o, ho⟩ : ∃ o, (w.alloc (.cells #[.int .u8 (r.k.toNat : Int), .string (tb r.d)] 107)).alloc (.cells #[.int .u64 0, .int .u8 0, .string ⟨#[]⟩] 48) = o := ⟨_, rfl⟩
  have hba : Below w.heap.size w (w.alloc (.cells #[.int .u8 (r.k.toNat : Int), .string (tb r.d)] 107)) := (Below.refl _ _).alloc (Nat.le_refl _) _
  have hbo : Below w.heap.size w o := by rw [← ho]; exact hba.alloc hba.size _
  have hrr : Row o w.heap.size 107 [.int .u8 (r.k.toNat : Int), .string (tb r.d)] (0, 0) := by
    rw [← ho]; exact (Row.new w 107 [.int .u8 (r.k.toNat : Int), .string (tb r.d)] (0, 0)).alloc _
  have hre : Row o (w.heap.size + 1) 48 [.int .u64 0, .int .u8 0, .string ⟨#[]⟩] (0, 0) := by
    have := Row.new (w.alloc (.cells #[.int .u8 (r.k.toNat : Int), .string (tb r.d)] 107)) 48 [.int .u64 0, .int .u8 0, .string ⟨#[]⟩] (0, 0)
    rw [show (w.alloc (.cells #[.int .u8 (r.k.toNat : Int), .string (tb r.d)] 107)).heap.size = w.heap.size + 1 by simp] at this
    rw [← ho]; exact this
  have k1 : o.cell? ⟨w.heap.size, 1, none⟩ = some (.string (tb r.d)) := hrr.cell 1
  obtain ⟨hcr, hcb, hcl⟩ := HCW.out o
  have HO := Lib.hid (open_any (some ⟨o.heap.size, 0, none⟩) r.d (cF o) (wF o) hcr (by omega))
  have HN := Lib.hid (show ∀ g w2, (wF o).heap.size ≤ g → Rdr w2 g (some r.d) → Below (wF o).heap.size (wF o) w2 → Calls Tryd.prog 79 #[.pointer (some ⟨g, 0, none⟩), .int .i64 8] w2 (fun e w3 => e = .returned (.int .u64 (q : Int)) ∧ Below w.heap.size w w3 ∧ Row w3 w.heap.size 107 [.int .u8 (r.k.toNat : Int), .string (tb r.d)] (0, 0) ∧ Row w3 (w.heap.size + 1) 48 [.int .u64 0, .int .u8 0, .string ⟨#[]⟩] (0, 0)) from fun g w2 hg hrd hb2 => by
    refine (num_any g (some r.d) 8 w2 hrd).mono ?_
    rintro e w3 ⟨rfl, hnow, _⟩
    have hb12 : Below o.heap.size o w2 := hcb.trans (hb2.mono hcb.size)
    have hs1 := hrr.lt
    have hs2 := hre.lt
    have hs3 := hcb.size
    have hbf : Below w.heap.size w w3 := (hbo.trans (hb12.mono hbo.size)).grown hnow (Nat.le_trans hbo.size hb12.size) (fun k hk => by injection hk with hk; omega)
    refine ⟨by rw [hq], hbf, ?_, ?_⟩
    · exact (hrr.below hb12 hs1).grown hnow (by intro e; injection e with e; omega)
    · exact (hre.below hb12 hs2).grown hnow (by intro e; injection e with e; omega))
  clear hV0 hV1 hq hq2 hba hbo hrr hre hcr hcb hcl hcw HCW
  unfold recV
  go_enter Tryd.func67, Tryd.ntmps67
  go_wp2_with fail
  try rw [ho]
  clear ho
  refine HO.out.mono ?_
  rintro e w2 ⟨g, rfl, hg, hrd, hb2⟩
  have HN2 := Lib.hid (HN.out g w2 hg hrd hb2)
  clear hg hrd hb2 HO HN hcv
  go_wp2_with fail
  refine HN2.out.mono ?_
  rintro e w3 ⟨rfl, hb3, hrr, hre⟩
  have HB3 := Lib.hid hb3
  have HRE := Lib.hid hre
  have HRR := Lib.hid hrr
  have b0 := hre.cell 0
  have b1 := hre.cell 1
  have b2 := hre.cell 2
  have f0 := hre.loose 0
  have f1 := hre.loose 1
  have f2 := hre.loose 2
  simp only [List.getElem?_cons_zero, List.getElem?_cons_succ] at b0 b1 b2
  have HW := Lib.hid (show ∀ x y z W', W' = ((w3.setCell ⟨w.heap.size + 1, 0, none⟩ x).setCell ⟨w.heap.size + 1, 1, none⟩ y).setCell ⟨w.heap.size + 1, 2, none⟩ z → Row W' (w.heap.size + 1) 48 [x, y, z] (0, 0) ∧ Below w.heap.size w W' from fun x y z W' e => by
    subst e
    exact ⟨((HRE.out.put 0 _).put 1 _).put 2 _, ((HB3.out.setCell (by simp) _).setCell (by simp) _).setCell (by simp) _⟩)
  clear hb3 hrr hre HN2
  by_cases h0 : q = 0
  · obtain rfl := HV0.out (.inl h0)
    subst h0
    clear HV0 HV1 HRR
    go_wp2
    obtain ⟨hr, hbb⟩ := HW.out _ _ _ _ rfl
    exact bodyPost_ret (v := .tuple #[.agg #[.int .u64 0, .int .u8 0, .string ⟨#[]⟩], .bool false]) (results_cell_tmp (by rfl) _ _ (w.heap.size + 1) _ _ (0, 0) _ _ (by rfl) (by rfl) hr Tryd.underlying48 rfl Tryd.size_ent) rfl ⟨rfl, hbb⟩
  · have h0I : ¬ (q : Int) = 0 := by omega
    have h0B : ((q : Int) == 0) = false := beq_eq_false_iff_ne.2 h0I
    by_cases h1 : 281474976710656 < q
    · obtain rfl := HV0.out (.inr h1)
      have h1I : (281474976710656 : Int) < (q : Int) := by omega
      clear HV0 HV1 HRR h0 h1
      go_wp2
      obtain ⟨hr, hbb⟩ := HW.out _ _ _ _ rfl
      exact bodyPost_ret (v := .tuple #[.agg #[.int .u64 0, .int .u8 0, .string ⟨#[]⟩], .bool false]) (results_cell_tmp (by rfl) _ _ (w.heap.size + 1) _ _ (0, 0) _ _ (by rfl) (by rfl) hr Tryd.underlying48 rfl Tryd.size_ent) rfl ⟨rfl, hbb⟩
    · obtain ⟨h8, hv⟩ := HV1.out h0 (by omega)
      have HVV := Lib.hid hv
      clear hv
      have h1I : ¬ (281474976710656 : Int) < (q : Int) := by omega
      have h8I : (8 : Int) ≤ (r.d.length : Int) := by omega
      have h8S : (8 : Int) ≤ ((tb r.d).size : Int) := by omega
      generalize tb (r.d.drop 8) = Z at *
      generalize tb r.d = D at *
      generalize r.d.length = n at *
      generalize r.k.toNat = kq at *
      subst hsz
      obtain ⟨w4, hw4⟩ : ∃ w4, w3.drew = w4 := ⟨_, rfl⟩
      have HR4 := Lib.hid (show ∀ i, w4.cell? ⟨w.heap.size, i, none⟩ = [.int .u8 (kq : Int), Value.string D][i]? from fun i => hw4 ▸ (HRR.out.below (Below.refl _ _).drew HRR.out.lt).cell i)
      have hHeld := And.intro (HR4.out 0) (HR4.out 1)
      simp only [List.getElem?_cons_zero, List.getElem?_cons_succ] at hHeld
      have b04 : w4.cell? ⟨w.heap.size + 1, 0, none⟩ = some (.int .u64 0) := hw4 ▸ b0
      have b14 : w4.cell? ⟨w.heap.size + 1, 1, none⟩ = some (.int .u8 0) := hw4 ▸ b1
      have b24 : w4.cell? ⟨w.heap.size + 1, 2, none⟩ = some (.string ⟨#[]⟩) := hw4 ▸ b2
      have f04 : w4.frozen? ⟨w.heap.size + 1, 0, none⟩ = false := hw4 ▸ f0
      have f14 : w4.frozen? ⟨w.heap.size + 1, 1, none⟩ = false := hw4 ▸ f1
      have f24 : w4.frozen? ⟨w.heap.size + 1, 2, none⟩ = false := hw4 ▸ f2
      have HW4 := Lib.hid (show ∀ x y z W', W' = ((w4.setCell ⟨w.heap.size + 1, 0, none⟩ x).setCell ⟨w.heap.size + 1, 1, none⟩ y).setCell ⟨w.heap.size + 1, 2, none⟩ z → Row W' (w.heap.size + 1) 48 [x, y, z] (0, 0) ∧ Below w.heap.size w W' ∧ Row W' w.heap.size 107 [.int .u8 (kq : Int), .string D] (0, 0) from fun x y z W' e => by
        subst e hw4
        have h1 := HRE.out.below (Below.refl _ _).drew HRE.out.lt
        have h2 := HRR.out.below (Below.refl _ _).drew HRR.out.lt
        refine ⟨((h1.put 0 _).put 1 _).put 2 _, ((HB3.out.drew.setCell (by simp) _).setCell (by simp) _).setCell (by simp) _, ?_⟩
        exact ((h2.far (by simp) _).far (by simp) _).far (by simp) _)
      clear HV0 HV1 h0 h1 HR4 HW HRE HRR HB3 b0 b1 b2 f0 f1 f2
      go_wp2_with fail
      refine wp_region_noPanic ?_
      refine wp_region_sch (fun wx => wx.cell? ⟨w.heap.size, 0, none⟩ = some (.int .u8 (kq : Int)) ∧ wx.cell? ⟨w.heap.size, 1, none⟩ = some (.string D)) (fun i => [7].contains i)
        (.takes [0, 1, 2, 3, 4, 5, 6] (.run 7 (.takes [8] .done))) (by kernel_rfl) (fun _ _ _ _ _ h => h) (by kernel_rfl) ?_
      rw [hw4]
      clear hw4
      iterate 7 (
        refine sch_takes_cons ?_
        first
          | (refine sch_take (v := ?_) rfl (by assumption) (by rfl) ?_ ?_; rotate_left; (focus (intro wy hSy; (try dsimp only at hSy); go_simp; (try with_reducible rfl))))
          | (refine sch_pass rfl (by assumption) (by rfl) ?_)
        simp only [Act.put, List.setIfInBounds_toArray, List.set_cons_zero, List.set_cons_succ])
      refine sch_takes_nil ?_
      refine sch_run rfl (fun K hK => ?_)
      go_simp
      obtain ⟨hr, hbb, hrc⟩ := HW4.out _ _ _ _ rfl
      have hHeld := And.intro (hrc.cell 0) (hrc.cell 1)
      simp only [List.getElem?_cons_zero, List.getElem?_cons_succ] at hHeld
      refine hK.out _ _ (fun _ => hHeld) ?_
      clear hK K
      try simp only [Act.put, List.setIfInBounds_toArray, List.set_cons_zero, List.set_cons_succ]
      refine sch_takes_cons ?_
      first
        | (refine sch_take (v := ?_) rfl (by assumption) (by rfl) ?_ ?_; rotate_left; (focus (intro wy hSy; (try dsimp only at hSy); go_simp; (try with_reducible rfl))))
        | (refine sch_pass rfl (by assumption) (by rfl) ?_)
      simp only [Act.put, List.setIfInBounds_toArray, List.set_cons_zero, List.set_cons_succ]
      refine sch_takes_nil ?_
      refine sch_done ?_
      refine NoPanic.normal ?_
      go_wp2
      exact bodyPost_ret (v := .tuple #[.agg #[.int .u64 (q : Int), .int .u8 (kq : Int), .string Z], .bool true]) (results_cell_tmp (by rfl) _ _ (w.heap.size + 1) _ _ (0, 0) _ _ (by rfl) (by rfl) hr Tryd.underlying48 rfl Tryd.size_ent) rfl ⟨by rw [HVV.out], hbb⟩
end Go.Proofs.YtjahkaockjhibaaDoor

/-
  The code's log: what records say.
-/
namespace Go.Proofs.YtjahkaockjhibaaDoor
open Go.RowKit

def EntriesV (l : List Rec) (w : World) (e : Ending) (w' : World) : Prop :=
  ∃ (m : List Ent) (A : Option Addr) (c : Nat) (b : Bool), e = .returned (.tuple #[.slice A m.length c, .bool b]) ∧ GrE w m (.slice A m.length c) w' ∧ (b = true → entsOf 0 l = some m) ∧ (b = false → entsOf 0 l = none) ∧ m.length ≤ l.length

theorem lastN_pos {m : List Ent} (h : m ≠ []) : lastN m = (m[m.length - 1]'(by have := List.length_pos_iff.2 h; omega)).n := by
  have := List.length_pos_iff.2 h
  unfold lastN
  rw [List.getLast?_eq_getElem?, List.getElem?_eq_getElem (by omega)]
  rfl

set_option maxRecDepth 100000 in
set_option maxHeartbeats 4000000 in
theorem wentries_any (A : Option Addr) (l : List Rec) (c : Nat) (w : World) (h : Recs w A l) (hl : l.length ≤ 1000000) (hs : Sane l) : Calls Tryd.prog 41 #[.slice A l.length c] w (EntriesV l w) := by
  have HR := Lib.hid (fun wx (hb : Below w.heap.size w wx) => h.keeps hb)
  have HE := Lib.hid (fun i (hi : i < l.length) wx => wentry_any l[i] wx (hs.at_ i hi))
  have HEND := Lib.hid (show ∀ (m : List Ent) (A' : Option Addr) (c' : Nat) (b : Bool) (w' : World), GrE w m (.slice A' m.length c') w' → (b = true → entsOf 0 l = some m) → (b = false → entsOf 0 l = none) → m.length ≤ l.length → EntriesV l w (.returned (.tuple #[.slice A' m.length c', .bool b])) w' from fun m A' c' b w' h1 h2 h3 h4 => ⟨m, A', c', b, rfl, h1, h2, h3, h4⟩)
  generalize EntriesV l w = Q at *
  clear h hs
  go_enter Tryd.func41, Tryd.ntmps41
  go_wp2_with fail
  go_step3
  go_wp2_with fail
  go_step3
  go_wp2_with fail
  go_loopw [4, 11] (fun v st wr => ∃ (m : List Ent) (i : Nat) (u : Value), i ≤ l.length ∧ u = v ∧ st = .int .i64 i ∧ m.length = i ∧ Midst l m (lastN m) (l.drop i) ∧ (i ≠ 0 → lastN m ≠ 0) ∧ lastN m ≤ 281474976710656 ∧ GrE w m u wr) (fun _ st _ => l.length - (intOf st).toNat)
  case atStart => exact ⟨[], 0, _, by omega, rfl, rfl, rfl, by show _ = _; rw [List.drop_zero]; show entsOf 0 l = (entsOf 0 l).map _; simp, fun h => absurd rfl h, Nat.zero_le _, GrE.nil (Below.refl _ _)⟩
  case round =>
    obtain ⟨m, i, v, hi, rfl, rfl, hmi, hmid, hp0, hpm, hg⟩ := hrel
    have HG := Lib.hid hg
    have HM := Lib.hid hmid
    have HMI := Lib.hid hmi
    obtain ⟨A', c', rfl, hc', ha'⟩ := hg.slot
    have hrec := HR.out wr hg.2
    rw [hmi] at hc' HG ⊢
    by_cases hlt : i < l.length
    · obtain ⟨g, off, hA, hgl, x0, x1⟩ := hrec.at_ i hlt
      have hiI : (i : Int) < (l.length : Int) := by omega
      have HEI := Lib.hid (HE.out i hlt)
      have hd : l.drop i = l[i] :: l.drop (i + 1) := List.drop_eq_getElem_cons hlt
      rw [hd] at HM
      obtain ⟨r, hr⟩ : ∃ r, l[i] = r := ⟨_, rfl⟩
      rw [hr] at x0 x1 HEI HM
      subst hA
      obtain ⟨wa, hwa⟩ : ∃ wa, wr.alloc (.cells #[.int .u8 (r.k.toNat : Int), .string (tb r.d)] 107) = wa := ⟨_, rfl⟩
      have HGA := Lib.hid (show GrE w m (.slice A' i c') wa from hwa ▸ HG.out.alloc _)
      have hra : Row wa wr.heap.size 107 [.int .u8 (r.k.toNat : Int), .string (tb r.d)] (0, 0) := hwa ▸ Row.new wr _ [.int .u8 (r.k.toNat : Int), .string (tb r.d)] (0, 0)
      have a0 : wa.cell? ⟨wr.heap.size, 0, none⟩ = some (.int .u8 (r.k.toNat : Int)) := hra.cell 0
      have a1 : wa.cell? ⟨wr.heap.size, 1, none⟩ = some (.string (tb r.d)) := hra.cell 1
      clear hg hmid hrec hgl hd hr HE hra
      go_wp2_with fail
      try rw [hwa]
      clear hwa
      unfold entOfV recV at HEI
      cases he : entOf r with
      | none =>
        rw [he] at HEI
        have HNO := Lib.hid (HM.out.none he)
        refine (HEI.out wa).mono ?_
        rintro e w1 ⟨rfl, hb1⟩
        have HG1 := Lib.hid ((HGA.out.keeps hb1).alloc (.cells #[.int .u64 0, .int .u8 0, .string (tb [])] 48))
        clear hb1 HEI HGA he HM HG a0 a1 x0 x1
        unfold entV
        have hbf : ((i : Int) == (l.length : Int)) = false := beq_eq_false_iff_ne.2 (by omega)
        go_wp2
        have := HEND.out m A' c' false _ (by rw [HMI.out]; exact HG1.out) (fun h => by cases h) (fun _ => HNO.out) (by rw [HMI.out]; omega)
        rw [HMI.out] at this
        exact this
      | some x =>
        rw [he] at HEI
        refine (HEI.out wa).mono ?_
        rintro e w1 ⟨rfl, hb1⟩
        obtain ⟨_, hx0, hxm⟩ := entOf_rec he
        obtain ⟨wb, hwb⟩ : ∃ wb, w1.alloc (.cells #[.int .u64 (x.n : Int), .int .u8 (x.k.toNat : Int), .string (tb x.d)] 48) = wb := ⟨_, rfl⟩
        have HGB := Lib.hid (show GrE w m (.slice A' i c') wb from hwb ▸ (HGA.out.keeps hb1).alloc _)
        have hrb : Row wb w1.heap.size 48 (entC x) (0, 0) := hwb ▸ Row.new w1 _ (entC x) (0, 0)
        have HRB := Lib.hid hrb
        have hdl : m.length ≤ 5000000 := by omega
        clear hb1 HEI HGA HG a0 a1 x0 x1
        unfold entV
        go_wp2_with fail
        try rw [hwb]
        clear hwb hrb
        by_cases hi0 : i = 0
        · subst hi0
          obtain rfl : m = [] := List.eq_nil_of_length_eq_zero hmi
          have HON := Lib.hid (HM.out.on he (.inl rfl))
          obtain ⟨wc, hwc⟩ : ∃ wc, wb.drew = wc := ⟨_, rfl⟩
          have HGC := Lib.hid (show GrE w [] (.slice A' 0 c') wc from hwc ▸ HGB.out.drewN 1)
          have HRC := Lib.hid (show Row wc w1.heap.size 48 (entC x) (0, 0) from hwc ▸ HRB.out.below (Below.refl _ _).drew HRB.out.lt)
          have hHeld : True := trivial
          clear HGB HRB HM
          refine wp_region_noPanic ?_
          refine wp_region_sch (fun _ => True) (fun i => [].contains i)
            (.takes [0, 1, 2, 3, 4, 5, 6, 7, 8, 9, 10, 11, 12, 13, 14] .done) (by kernel_rfl) (fun _ _ _ _ _ h => h) (by kernel_rfl) ?_
          rw [hwc]
          clear hwc
          iterate 15 (
            refine sch_takes_cons ?_
            first
              | (refine sch_take (v := ?_) rfl (by assumption) (by rfl) ?_ ?_; rotate_left; (focus (intro wy hSy; (try dsimp only at hSy); go_simp; (try with_reducible rfl))))
              | (refine sch_pass rfl (by assumption) (by rfl) ?_)
            simp only [Act.put, List.setIfInBounds_toArray, List.set_cons_zero, List.set_cons_succ])
          refine sch_takes_nil ?_
          refine sch_done ?_
          refine NoPanic.normal ?_
          have e0 : wc.cell? ⟨w1.heap.size, 0, none⟩ = some (.int .u64 (x.n : Int)) := HRC.out.cell 0
          have e1 : wc.cell? ⟨w1.heap.size, 1, none⟩ = some (.int .u8 (x.k.toNat : Int)) := HRC.out.cell 1
          have e2 : wc.cell? ⟨w1.heap.size, 2, none⟩ = some (.string (tb x.d)) := HRC.out.cell 2
          have HGD := Lib.hid (HGC.out.alloc (.cells (entC x).toArray 48))
          have HND := Lib.hid (new_ent wc 48 x)
          go_wp2_with (at_builtin; refine wpList_ent x rfl (.tmp 39) (.tmp 41) rfl rfl HGD.out ⟨wc.heap.size, 0, none⟩ 1 rfl HND.out hdl ?_)
          intro v8 w8 hg8 _
          have HG9 := Lib.hid hg8
          clear hg8 HGC HGD HND e0 e1 e2
          go_wp2
          go_roundw
          case rel => exact ⟨[] ++ [x], 1, _, hlt, rfl, by first | rfl | go_num, rfl, by rw [lastN_snoc]; exact HON.out, fun _ => by rw [lastN_snoc]; exact hx0, by rw [lastN_snoc]; exact hxm, HG9.out⟩
          case measure => simp [intOf]; omega
        · have hi0I : (0 : Int) < (i : Int) := by omega
          have hi0D : decide ((i : Int) > 0) = true := decide_eq_true (by omega)
          have hi0N : decide (0 < i) = true := decide_eq_true (by omega)
          have hne : m ≠ [] := fun e => hi0 (by rw [← hmi, e]; rfl)
          obtain ⟨wc, hwc⟩ : ∃ wc, wb.drew = wc := ⟨_, rfl⟩
          have HGC := Lib.hid (show GrE w m (.slice A' i c') wc from hwc ▸ HGB.out.drewN 1)
          have HRC := Lib.hid (show Row wc w1.heap.size 48 (entC x) (0, 0) from hwc ▸ HRB.out.below (Below.refl _ _).drew HRB.out.lt)
          obtain ⟨g2, off2, hA2, _, d0, _, _⟩ := HGC.out.ents_of hmi (m.length - 1) (by omega)
          rw [← lastN_pos hne, hmi] at d0
          obtain ⟨j, hj⟩ : ∃ j, i - 1 = j := ⟨_, rfl⟩
          rw [hj] at d0
          have hwj : IntKind.i64.wrap ((i : Int) - 1) = (j : Int) := by rw [IntWalk.i64_in _ (by omega)]; omega
          have hjI : (j : Int) < (i : Int) := by omega
          obtain ⟨p, hp⟩ : ∃ p, lastN m = p := ⟨_, rfl⟩
          rw [hp] at d0 hp0 hpm HM
          have hpw : IntKind.u64.wrap ((p : Int) + 1) = (p : Int) + 1 := IntWalk.u64_in _ (by omega)
          have hHeld : wc.cell? ⟨w1.heap.size, 0, none⟩ = some (.int .u64 (x.n : Int)) ∧ wc.cell? ⟨g2, off2 + j * 3, none⟩ = some (.int .u64 (p : Int)) := ⟨HRC.out.cell 0, d0⟩
          subst hA2
          by_cases hgap : x.n = p + 1
          · have HON := Lib.hid (HM.out.on he (.inr hgap))
            have hgI : (x.n : Int) = (p : Int) + 1 := by omega
            have hgB : ((x.n : Int) != (p : Int) + 1) = false := by rw [hgI]; simp
            clear HGB HRB HM d0 hj hp he hgI hgap
            refine wp_region_noPanic ?_
            refine wp_region_sch (fun wx => wx.cell? ⟨w1.heap.size, 0, none⟩ = some (.int .u64 (x.n : Int)) ∧ wx.cell? ⟨g2, off2 + j * 3, none⟩ = some (.int .u64 (p : Int))) (fun i => [].contains i)
              (.takes [0, 1, 2, 3, 4, 5, 6, 7, 8, 9, 10, 11, 12, 13, 14] .done) (by kernel_rfl) (fun _ _ _ _ _ h => h) (by kernel_rfl) ?_
            rw [hwc]
            clear hwc
            iterate 15 (
              refine sch_takes_cons ?_
              first
                | (refine sch_take (v := ?_) rfl (by assumption) (by rfl) ?_ ?_; rotate_left; (focus (intro wy hSy; (try dsimp only at hSy); go_simp; (try with_reducible rfl))))
                | (refine sch_pass rfl (by assumption) (by rfl) ?_)
              simp only [Act.put, List.setIfInBounds_toArray, List.set_cons_zero, List.set_cons_succ])
            refine sch_takes_nil ?_
            refine sch_done ?_
            refine NoPanic.normal ?_
            have e0 : wc.cell? ⟨w1.heap.size, 0, none⟩ = some (.int .u64 (x.n : Int)) := HRC.out.cell 0
            have e1 : wc.cell? ⟨w1.heap.size, 1, none⟩ = some (.int .u8 (x.k.toNat : Int)) := HRC.out.cell 1
            have e2 : wc.cell? ⟨w1.heap.size, 2, none⟩ = some (.string (tb x.d)) := HRC.out.cell 2
            have HGD := Lib.hid (HGC.out.alloc (.cells (entC x).toArray 48))
            have HND := Lib.hid (new_ent wc 48 x)
            have HMX := Lib.hid (And.intro hx0 hxm)
            clear hx0 hxm hHeld
            go_wp2_with (at_builtin; refine wpList_ent x rfl (.tmp 39) (.tmp 41) rfl rfl HGD.out ⟨wc.heap.size, 0, none⟩ 1 rfl HND.out hdl ?_)
            intro v8 w8 hg8 _
            have HG9 := Lib.hid hg8
            clear hg8 HGC HGD HND e0 e1 e2
            go_wp2
            go_roundw
            case rel => exact ⟨m ++ [x], i + 1, _, hlt, rfl, by first | rfl | go_num, by rw [List.length_append, HMI.out]; rfl, by rw [lastN_snoc]; exact HON.out, fun _ => by rw [lastN_snoc]; exact HMX.out.1, by rw [lastN_snoc]; exact HMX.out.2, HG9.out⟩
            case measure => simp [intOf]; omega
          · have HNO := Lib.hid (HM.out.gap he (fun hh => hh.elim (hp0 hi0) hgap))
            have hgI : ¬ (x.n : Int) = (p : Int) + 1 := by omega
            have hgB : ((x.n : Int) != (p : Int) + 1) = true := bne_iff_ne.2 hgI
            clear HGB HRB HM d0 hj hp he hgI hgap
            refine wp_region_noPanic ?_
            refine wp_region_sch (fun wx => wx.cell? ⟨w1.heap.size, 0, none⟩ = some (.int .u64 (x.n : Int)) ∧ wx.cell? ⟨g2, off2 + j * 3, none⟩ = some (.int .u64 (p : Int))) (fun i => [].contains i)
              (.takes [0, 1, 2, 3, 4, 5, 6, 7, 8, 9, 10, 11, 12, 13, 14] .done) (by kernel_rfl) (fun _ _ _ _ _ h => h) (by kernel_rfl) ?_
            rw [hwc]
            clear hwc
            iterate 15 (
              refine sch_takes_cons ?_
              first
                | (refine sch_take (v := ?_) rfl (by assumption) (by rfl) ?_ ?_; rotate_left; (focus (intro wy hSy; (try dsimp only at hSy); go_simp; (try with_reducible rfl))))
                | (refine sch_pass rfl (by assumption) (by rfl) ?_)
              simp only [Act.put, List.setIfInBounds_toArray, List.set_cons_zero, List.set_cons_succ])
            refine sch_takes_nil ?_
            refine sch_done ?_
            refine NoPanic.normal ?_
            clear hHeld HRC
            have hbf : ((i : Int) == (l.length : Int)) = false := beq_eq_false_iff_ne.2 (by omega)
            go_wp2
            have := HEND.out m (some ⟨g2, off2, none⟩) c' false _ (by rw [HMI.out]; exact HGC.out) (fun h => by cases h) (fun _ => HNO.out) (by rw [HMI.out]; omega)
            rw [HMI.out] at this
            exact this
    · obtain rfl : i = l.length := by omega
      have HDN := Lib.hid (show entsOf 0 l = some m from by
        have := HM.out
        rw [List.drop_length] at this
        exact this.done)
      clear HM hg hmid hlt hrec
      go_wp2
      have := HEND.out m A' c' true _ (by rw [HMI.out]; exact HG.out) (fun _ => HDN.out) (fun h => by cases h) (by rw [HMI.out]; exact Nat.le_refl _)
      rw [HMI.out] at this
      exact this
end Go.Proofs.YtjahkaockjhibaaDoor
