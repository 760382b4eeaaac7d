/-
  The code's master in memory; its short calls.
-/
import Derived.Test.YtnmfgmlmjbfdcaaMDevF
import Derived.Test.YtnmfgmlmjbfdcaaMasUnpB
import Derived.Test.YtnmfgmlmjbfdcaaMBlkEF
namespace Go.Proofs.Ytnmfgmlmjbfdcaa
open Go.RowKit

/-- What is under way, as three cells. -/
def nextV (at_ : Nat) (way : Bool) (top : Nat) (s : List UInt8) : List Value := if way = true then [.int .i64 ((1 - at_ : Nat) : Int), .int .u64 (top : Int), .string (tb s)] else [.int .i64 0, .int .u64 0, .string ⟨#[]⟩]
/-- A master: where it lies, its device, what it is, the version that is under way. -/
structure MV where
  A : Nat
  d : DV
  m : MS
  top : Nat
namespace MV
def ptr (x : MV) : Value := .pointer (some ⟨x.A, 0, none⟩)
def cells (x : MV) : List Value := [x.d.ptr, .int .i64 (x.m.at_ : Int), .int .u64 (x.m.v : Int), .string (tb x.m.s)] ++ nextV x.m.at_ x.m.way x.top x.m.next
def mine (x : MV) (k : Nat) : Prop := k = x.A ∨ x.d.mine k
structure In (x : MV) (w : World) : Prop where
  row : Row w x.A 76 x.cells (0, 0)
  dev : x.d.In w
  two : 2 ≤ x.d.nb
  one : x.m.at_ ≤ 1
  vlt : x.m.v < 18446744073709551616
  way : x.m.way = true → x.top = x.d.top ∧ x.top ≠ 0
section
variable {x : MV} {w w' : World} {F : Nat → Prop}
theorem In.only (h : x.In w) (ho : Only F w w') (hF : ∀ k, x.mine k → ¬ F k) : x.In w' :=
  { h with row := h.row.only ho (hF _ (.inl rfl)), dev := h.dev.only ho fun k hk => hF k (.inr hk) }
theorem In.keeps (h : x.In w) (hb : Below w.heap.size w w') : x.In w' := h.only (Only.below hb fun _ => False) fun _ _ hf => hf
theorem In.drewN (h : x.In w) (n : Nat) : x.In (w.drewN n) := h.keeps ⟨rfl, rfl, rfl, Nat.le_refl _, fun _ _ => rfl⟩
theorem In.drew (h : x.In w) : x.In w.drew := h.keeps ⟨rfl, rfl, rfl, Nat.le_refl _, fun _ _ => rfl⟩
theorem In.mineLt (h : x.In w) : ∀ k, x.mine k → k < w.heap.size := by
  rintro k (rfl | hk)
  · exact h.row.lt
  · exact h.dev.mineLt k hk
theorem In.notDev (h : x.In w) : ¬ x.d.mine x.A := h.dev.notMine h.row (by decide) (by decide) (by decide)
theorem In.c0 (h : x.In w) : w.cell? ⟨x.A, 0, none⟩ = some (.pointer (some ⟨x.d.A, 0, none⟩)) := h.row.cell 0
theorem In.c1 (h : x.In w) : w.cell? ⟨x.A, 1, none⟩ = some (.int .i64 (x.m.at_ : Int)) := h.row.cell 1
theorem In.c2 (h : x.In w) : w.cell? ⟨x.A, 2, none⟩ = some (.int .u64 (x.m.v : Int)) := h.row.cell 2
theorem In.c3 (h : x.In w) : w.cell? ⟨x.A, 3, none⟩ = some (.string (tb x.m.s)) := h.row.cell 3
theorem In.c4 (h : x.In w) : w.cell? ⟨x.A, 4, none⟩ = (nextV x.m.at_ x.m.way x.top x.m.next)[0]? := by rw [h.row.cell]; rfl
theorem In.c5 (h : x.In w) : w.cell? ⟨x.A, 5, none⟩ = (nextV x.m.at_ x.m.way x.top x.m.next)[1]? := by rw [h.row.cell]; rfl
theorem In.c6 (h : x.In w) : w.cell? ⟨x.A, 6, none⟩ = (nextV x.m.at_ x.m.way x.top x.m.next)[2]? := by rw [h.row.cell]; rfl
end
end MV

set_option maxRecDepth 100000 in
theorem mnone_any (A B : Nat) (w : World) (c0 : w.cell? ⟨A, 0, none⟩ = some (.pointer (some ⟨B, 0, none⟩))) : Calls Try.prog 46 #[.pointer (some ⟨A, 0, none⟩)] w fun e w' => e = .returned (.bool false) ∧ w = w' := by
  go_enter Try.func46, Try.ntmps46
  go_wp2
  go_ret
  exact ⟨rfl, rfl⟩

section
variable {x : MV} {w : World}
set_option maxRecDepth 100000 in
theorem mdata_any (h : x.In w) : Calls Try.prog 20 #[x.ptr] w fun e w' => e = .returned (.string (tb x.m.s)) ∧ w = w' := by
  have HN := Lib.hid (mnone_any x.A x.d.A w h.c0)
  have c3 := h.c3
  clear h
  unfold MV.ptr
  go_enter Try.func20, Try.ntmps20
  go_wp2_with fail
  refine HN.out.mono ?_
  rintro e w1 ⟨rfl, rfl⟩
  go_wp2
  go_ret
  exact ⟨rfl, rfl⟩
set_option maxRecDepth 100000 in
theorem mversion_any (h : x.In w) : Calls Try.prog 21 #[x.ptr] w fun e w' => e = .returned (.int .u64 (x.m.v : Int)) ∧ w = w' := by
  have HN := Lib.hid (mnone_any x.A x.d.A w h.c0)
  have c2 := h.c2
  clear h
  unfold MV.ptr
  go_enter Try.func21, Try.ntmps21
  go_wp2_with fail
  refine HN.out.mono ?_
  rintro e w1 ⟨rfl, rfl⟩
  go_wp2
  go_ret
  exact ⟨rfl, rfl⟩
set_option maxRecDepth 100000 in
theorem mbusy_any (h : x.In w) : Calls Try.prog 22 #[x.ptr] w fun e w' => e = .returned (.bool x.m.way) ∧ w = w' := by
  have HN := Lib.hid (mnone_any x.A x.d.A w h.c0)
  have c5 := h.c5
  have hw := h.way
  clear h
  unfold MV.ptr
  cases hway : x.m.way with
  | false =>
    rw [hway] at c5
    have c5' : w.cell? ⟨x.A, 5, none⟩ = some (.int .u64 0) := c5
    clear c5 hw hway
    go_enter Try.func22, Try.ntmps22
    go_wp2_with fail
    refine HN.out.mono ?_
    rintro e w1 ⟨rfl, rfl⟩
    go_wp2
    go_ret
    exact ⟨rfl, rfl⟩
  | true =>
    rw [hway] at c5
    have c5' : w.cell? ⟨x.A, 5, none⟩ = some (.int .u64 (x.top : Int)) := c5
    have ht : ((x.top : Int) != 0) = true := by have := (hw hway).2; simp; omega
    clear c5 hw hway
    go_enter Try.func22, Try.ntmps22
    go_wp2_with fail
    refine HN.out.mono ?_
    rintro e w1 ⟨rfl, rfl⟩
    go_wp2
    go_ret
    exact ⟨rfl, rfl⟩
end

/-- The bytes of both blocks, as a value. -/
def pairV (a b : ByteArray) : Value := .agg #[.string a, .string b]

theorem Try.size_pair : (Try.prog.info? 102).map (·.size) = some 2 := by kernel_rfl
theorem res_cell_tmp {P : Program} {fn : Func} {p q : Tmp} {ty : TypeId} (h : fn.results = #[.cell p ty, .tmp q]) (tmps : Array Value) (w : World) (g : Nat) (t : TypeId) (cs : Array Value) (fr : Nat × Nat) (d : TypeDesc) (v : Value)
    (hp : tmps.getD p undef = .pointer (some ⟨g, 0, none⟩)) (hq : tmps.getD q undef = v) (hg : w.heap[g]? = some (.cells cs t fr))
    (hu : P.underlying ty = some d) (hd : (match d with | .struct _ | .array _ _ => true | _ => false) = true) (hi : (P.info? ty).map (·.size) = some cs.size) :
    (results fn tmps).run P w = .ok (.tuple #[.agg cs, v]) w := by
  have hp' : tmps[p]?.getD undef = .pointer (some ⟨g, 0, none⟩) := by simpa using hp
  have hq' : tmps[q]?.getD undef = v := by simpa using hq
  simp [results, h, hp', hq', asAddr, run_loadVar_row w g t ty cs fr d hg hu hd hi]

/-- The blocks that are read so far. -/
def pairL (a b : ByteArray) (k : Nat) : List Value := [.string (if 0 < k then a else ⟨#[]⟩), .string (if 1 < k then b else ⟨#[]⟩)]
/-- The memory of pair, in between. -/
structure PairW (w : World) (D : Value) (l : List Value) (wr : World) : Prop where
  below : Below w.heap.size w wr
  box : Row wr w.heap.size 72 [D] (0, 0)
  res : Row wr (w.heap.size + 1) 102 [.string ⟨#[]⟩, .string ⟨#[]⟩] (0, 0)
  arr : Row wr (w.heap.size + 1 + 1) 102 l (0, 0)
theorem PairW.drewN {w wr : World} {D : Value} {l : List Value} (h : PairW w D l wr) (n : Nat) : PairW w D l (wr.drewN n) := ⟨⟨h.below.os, h.below.tape, h.below.output, h.below.size, h.below.block⟩, h.box.drewN n, h.res.drewN n, h.arr.drewN n⟩
theorem PairW.put {w wr : World} {D : Value} {l : List Value} (h : PairW w D l wr) (i : Nat) (v : Value) : PairW w D (l.set i v) (wr.setCell ⟨w.heap.size + 1 + 1, i, none⟩ v) :=
  ⟨h.below.setCell (p := ⟨w.heap.size + 1 + 1, i, none⟩) (by simp; omega) v, h.box.far (by simp; omega) v, h.res.far (by simp) v, h.arr.put i v⟩
theorem PairW.new (w : World) (D : Value) : PairW w D (pairL ⟨#[]⟩ ⟨#[]⟩ 0) (((w.alloc (.cells #[D] 72)).alloc (.cells #[.string ⟨#[]⟩, .string ⟨#[]⟩] 102)).alloc (.cells #[.string ⟨#[]⟩, .string ⟨#[]⟩] 102)) := by
  have r1 := Row.new w 72 [D] (0, 0)
  have b1 : Below w.heap.size w (w.alloc (.cells #[D] 72)) := (Below.refl _ _).alloc (Nat.le_refl _) _
  have s1 : (w.alloc (.cells #[D] 72)).heap.size = w.heap.size + 1 := by simp
  rw [show ([D] : List Value).toArray = #[D] from rfl] at r1
  generalize w.alloc (.cells #[D] 72) = w1 at *
  have r2 := Row.new w1 102 [.string ⟨#[]⟩, .string ⟨#[]⟩] (0, 0)
  rw [s1, show ([.string ⟨#[]⟩, .string ⟨#[]⟩] : List Value).toArray = #[.string ⟨#[]⟩, .string ⟨#[]⟩] from rfl] at r2
  have s2 : (w1.alloc (.cells #[.string ⟨#[]⟩, .string ⟨#[]⟩] 102)).heap.size = w.heap.size + 1 + 1 := by simp [s1]
  have b2 := b1.alloc b1.size (.cells #[.string ⟨#[]⟩, .string ⟨#[]⟩] 102)
  have r12 := r1.alloc (.cells #[.string ⟨#[]⟩, .string ⟨#[]⟩] 102)
  generalize w1.alloc (.cells #[.string ⟨#[]⟩, .string ⟨#[]⟩] 102) = w2 at *
  have r3 := Row.new w2 102 [.string ⟨#[]⟩, .string ⟨#[]⟩] (0, 0)
  rw [s2] at r3
  exact ⟨b2.alloc b2.size _, r12.alloc _, r2.alloc _, r3⟩

set_option maxRecDepth 100000 in
set_option maxHeartbeats 2000000 in
/-- Both blocks are read. -/
theorem mpair_any (d : DV) (w : World) (h : d.In w) (h2 : 2 ≤ d.nb) : Calls Try.prog 44 #[.agg #[d.ptr]] w fun e w' => e = .returned (.tuple #[pairV (tb (d.bl 0)) (tb (d.bl 1)), .int .i64 0]) ∧ Below w.heap.size w w' := by
  have hr : ∀ (wx : World) (b : Nat), Below w.heap.size w wx → b ≤ 1 → Calls Try.prog 32 #[d.ptr, .int .i64 (b : Int)] wx fun e w' => e = .returned (.tuple #[.string (tb (d.bl b)), .int .i64 0]) ∧ ∃ n, w' = wx.drewN n := fun wx b hb hb1 => by
    have := read_any d wx (h.keeps hb) (b : Int)
    rw [read_block d b (by omega), chk_in d b (by omega)] at this
    exact this
  have HR0 := Lib.hid (fun wx hb => hr wx 0 hb (by decide))
  have HR1 := Lib.hid (fun wx hb => hr wx 1 hb (by decide))
  clear hr h
  generalize tb (d.bl 0) = a at *
  generalize tb (d.bl 1) = b at *
  unfold DV.ptr at HR0 HR1 ⊢
  have HN := Lib.hid (PairW.new w (.pointer (some ⟨d.A, 0, none⟩)))
  go_enter Try.func44, Try.ntmps44
  go_wp2_with fail
  obtain ⟨w3, hw3⟩ : ∃ w3, ((w.alloc (.cells #[.pointer (some ⟨d.A, 0, none⟩)] 72)).alloc (.cells #[.string ⟨#[]⟩, .string ⟨#[]⟩] 102)).alloc (.cells #[.string ⟨#[]⟩, .string ⟨#[]⟩] 102) = w3 := ⟨_, rfl⟩
  rw [hw3] at HN ⊢
  clear hw3
  go_loopw [8] (fun i wr => ∃ k : Nat, k ≤ 2 ∧ i = .int .i64 k ∧ Hid (PairW w (.pointer (some ⟨d.A, 0, none⟩)) (pairL a b k) wr)) (fun i _ => 2 - (intOf i).toNat)
  case atStart => exact ⟨0, by decide, rfl, HN⟩
  case round =>
    obtain ⟨k, hk, rfl, HP⟩ := hrel
    have c0 : wr.cell? ⟨w.heap.size, 0, none⟩ = some (.pointer (some ⟨d.A, 0, none⟩)) := HP.out.box.cell 0
    rcases (show k = 0 ∨ k = 1 ∨ k = 2 by omega) with rfl | rfl | rfl
    · go_wp2_with fail
      refine (HR0.out wr HP.out.below).mono ?_
      rintro e w4 ⟨rfl, n, rfl⟩
      have HP4 := Lib.hid ((HP.out.drewN n).put 0 (.string a))
      have c4 : (wr.drewN n).cell? ⟨w.heap.size + 1 + 1, 0, none⟩ = some (.string ⟨#[]⟩) := HP.out.arr.cell 0
      have f4 := (HP.out.arr.drewN n).loose 0
      clear HP c0
      go_wp2
      go_roundw
      case rel => exact ⟨1, by decide, by go_num, HP4⟩
      case measure => simp [intOf]
    · go_wp2_with fail
      refine (HR1.out wr HP.out.below).mono ?_
      rintro e w4 ⟨rfl, n, rfl⟩
      have HP4 := Lib.hid ((HP.out.drewN n).put 1 (.string b))
      have c4 : (wr.drewN n).cell? ⟨w.heap.size + 1 + 1, 1, none⟩ = some (.string ⟨#[]⟩) := HP.out.arr.cell 1
      have f4 := (HP.out.arr.drewN n).loose 1
      clear HP c0
      go_wp2
      go_roundw
      case rel => exact ⟨2, by decide, by go_num, HP4⟩
      case measure => simp [intOf]
    · have c4 : wr.cell? ⟨w.heap.size + 1 + 1, 0, none⟩ = some (.string a) := HP.out.arr.cell 0
      have c5 : wr.cell? ⟨w.heap.size + 1 + 1, 1, none⟩ = some (.string b) := HP.out.arr.cell 1
      have r4 : wr.cell? ⟨w.heap.size + 1, 0, none⟩ = some (.string ⟨#[]⟩) := HP.out.res.cell 0
      have r5 : wr.cell? ⟨w.heap.size + 1, 1, none⟩ = some (.string ⟨#[]⟩) := HP.out.res.cell 1
      have f4 := HP.out.res.loose 0
      have f5 := HP.out.res.loose 1
      have HE := Lib.hid (show Row ((wr.setCell ⟨w.heap.size + 1, 0, none⟩ (.string a)).setCell ⟨w.heap.size + 1, 1, none⟩ (.string b)) (w.heap.size + 1) 102 [.string a, .string b] (0, 0) ∧ Below w.heap.size w ((wr.setCell ⟨w.heap.size + 1, 0, none⟩ (.string a)).setCell ⟨w.heap.size + 1, 1, none⟩ (.string b)) from
        ⟨(HP.out.res.put 0 _).put 1 _, (HP.out.below.setCell (p := ⟨w.heap.size + 1, 0, none⟩) (by simp) _).setCell (p := ⟨w.heap.size + 1, 1, none⟩) (by simp) _⟩)
      clear HP c0
      go_wp2
      exact bodyPost_ret (v := .tuple #[pairV a b, .int .i64 0]) (res_cell_tmp (by rfl) _ _ (w.heap.size + 1) _ _ (0, 0) _ _ (by rfl) (by rfl) HE.out.1 Try.underlying102 rfl Try.size_pair) rfl ⟨rfl, HE.out.2⟩

set_option maxRecDepth 100000 in
set_option maxHeartbeats 2000000 in
/-- A device of one block. -/
theorem mpair_one (d : DV) (w : World) (h : d.In w) (h2 : d.nb = 1) : Calls Try.prog 44 #[.agg #[d.ptr]] w fun e w' => e = .returned (.tuple #[pairV ⟨#[]⟩ ⟨#[]⟩, .int .i64 2]) ∧ Below w.heap.size w w' := by
  have HR0 := Lib.hid (show ∀ wx, Below w.heap.size w wx → Calls Try.prog 32 #[d.ptr, .int .i64 (0 : Int)] wx fun e w' => e = .returned (.tuple #[.string (tb (d.bl 0)), .int .i64 0]) ∧ ∃ n, w' = wx.drewN n from fun wx hb => by
    have := read_any d wx (h.keeps hb) ((0 : Nat) : Int)
    rw [read_block d 0 (by omega), chk_in d 0 (by omega)] at this
    exact this)
  have HR1 := Lib.hid (show ∀ wx, Below w.heap.size w wx → Calls Try.prog 32 #[d.ptr, .int .i64 (1 : Int)] wx fun e w' => e = .returned (.tuple #[.string ⟨#[]⟩, .int .i64 2]) ∧ ∃ n, w' = wx.drewN n from fun wx hb => by
    have := read_any d wx (h.keeps hb) (1 : Int)
    have hc : chk d 1 = 2 := if_neg (by omega)
    unfold DV.read at this
    rw [if_neg (by rw [hc]; decide), hc] at this
    exact this)
  clear h
  generalize tb (d.bl 0) = a at *
  unfold DV.ptr at HR0 HR1 ⊢
  have HN := Lib.hid (PairW.new w (.pointer (some ⟨d.A, 0, none⟩)))
  go_enter Try.func44, Try.ntmps44
  go_wp2_with fail
  obtain ⟨w3, hw3⟩ : ∃ w3, ((w.alloc (.cells #[.pointer (some ⟨d.A, 0, none⟩)] 72)).alloc (.cells #[.string ⟨#[]⟩, .string ⟨#[]⟩] 102)).alloc (.cells #[.string ⟨#[]⟩, .string ⟨#[]⟩] 102) = w3 := ⟨_, rfl⟩
  rw [hw3] at HN ⊢
  clear hw3
  go_loopw [8] (fun i wr => ∃ k : Nat, k ≤ 1 ∧ i = .int .i64 k ∧ ∃ l, Hid (PairW w (.pointer (some ⟨d.A, 0, none⟩)) l wr) ∧ (k = 0 → l = pairL ⟨#[]⟩ ⟨#[]⟩ 0)) (fun i _ => 2 - (intOf i).toNat)
  case atStart => exact ⟨0, by decide, rfl, _, HN, fun _ => rfl⟩
  case round =>
    obtain ⟨k, hk, rfl, l, HP, hl⟩ := hrel
    have c0 : wr.cell? ⟨w.heap.size, 0, none⟩ = some (.pointer (some ⟨d.A, 0, none⟩)) := HP.out.box.cell 0
    rcases (show k = 0 ∨ k = 1 by omega) with rfl | rfl
    · obtain rfl := hl rfl
      go_wp2_with fail
      refine (HR0.out wr HP.out.below).mono ?_
      rintro e w4 ⟨rfl, n, rfl⟩
      have HP4 := Lib.hid ((HP.out.drewN n).put 0 (.string a))
      have c4 : (wr.drewN n).cell? ⟨w.heap.size + 1 + 1, 0, none⟩ = some (.string ⟨#[]⟩) := HP.out.arr.cell 0
      have f4 := (HP.out.arr.drewN n).loose 0
      clear HP c0
      go_wp2
      go_roundw
      case rel => exact ⟨1, by decide, by go_num, _, HP4, fun h => by cases h⟩
      case measure => simp [intOf]
    · go_wp2_with fail
      refine (HR1.out wr HP.out.below).mono ?_
      rintro e w4 ⟨rfl, n, rfl⟩
      have HP4 := Lib.hid (HP.out.drewN n)
      obtain ⟨w5, hw5⟩ : ∃ w5, wr.drewN n = w5 := ⟨_, rfl⟩
      rw [hw5] at HP4 ⊢
      have r4 : w5.cell? ⟨w.heap.size + 1, 0, none⟩ = some (.string ⟨#[]⟩) := HP4.out.res.cell 0
      have r5 : w5.cell? ⟨w.heap.size + 1, 1, none⟩ = some (.string ⟨#[]⟩) := HP4.out.res.cell 1
      have f4 := HP4.out.res.loose 0
      have f5 := HP4.out.res.loose 1
      have HE := Lib.hid (show Row ((w5.setCell ⟨w.heap.size + 1, 0, none⟩ (.string ⟨#[]⟩)).setCell ⟨w.heap.size + 1, 1, none⟩ (.string ⟨#[]⟩)) (w.heap.size + 1) 102 [.string ⟨#[]⟩, .string ⟨#[]⟩] (0, 0) ∧ Below w.heap.size w ((w5.setCell ⟨w.heap.size + 1, 0, none⟩ (.string ⟨#[]⟩)).setCell ⟨w.heap.size + 1, 1, none⟩ (.string ⟨#[]⟩)) from
        ⟨(HP4.out.res.put 0 _).put 1 _, (HP4.out.below.setCell (p := ⟨w.heap.size + 1, 0, none⟩) (by simp) _).setCell (p := ⟨w.heap.size + 1, 1, none⟩) (by simp) _⟩)
      clear HP c0 HP4 hw5
      go_wp2
      exact bodyPost_ret (v := .tuple #[pairV ⟨#[]⟩ ⟨#[]⟩, .int .i64 2]) (res_cell_tmp (by rfl) _ _ (w.heap.size + 1) _ _ (0, 0) _ _ (by rfl) (by rfl) HE.out.1 Try.underlying102 rfl Try.size_pair) rfl ⟨rfl, HE.out.2⟩

set_option maxRecDepth 100000 in
set_option maxHeartbeats 2000000 in
/-- No device. -/
theorem mpair_none (w : World) : Calls Try.prog 44 #[.agg #[.pointer none]] w fun e w' => e = .returned (.tuple #[pairV ⟨#[]⟩ ⟨#[]⟩, .int .i64 1]) ∧ Below w.heap.size w w' := by
  have HR := Lib.hid (fun wx => read_none (w := wx) (v := .pointer none) ⟨.inl rfl⟩ (0 : Int))
  have HN := Lib.hid (PairW.new w (.pointer none))
  go_enter Try.func44, Try.ntmps44
  go_wp2_with fail
  obtain ⟨w3, hw3⟩ : ∃ w3, ((w.alloc (.cells #[.pointer none] 72)).alloc (.cells #[.string ⟨#[]⟩, .string ⟨#[]⟩] 102)).alloc (.cells #[.string ⟨#[]⟩, .string ⟨#[]⟩] 102) = w3 := ⟨_, rfl⟩
  rw [hw3] at HN ⊢
  clear hw3
  go_loopw [8] (fun i wr => i = .int .i64 0 ∧ wr = w3) (fun i _ => 2 - (intOf i).toNat)
  case atStart => exact ⟨rfl, rfl⟩
  case round =>
    obtain ⟨rfl, rfl⟩ := hrel
    have c0 : wr.cell? ⟨w.heap.size, 0, none⟩ = some (.pointer none) := HN.out.box.cell 0
    go_wp2_with fail
    refine (HR.out wr).mono ?_
    rintro e w4 ⟨rfl, rfl⟩
    have r4 : wr.cell? ⟨w.heap.size + 1, 0, none⟩ = some (.string ⟨#[]⟩) := HN.out.res.cell 0
    have r5 : wr.cell? ⟨w.heap.size + 1, 1, none⟩ = some (.string ⟨#[]⟩) := HN.out.res.cell 1
    have f4 := HN.out.res.loose 0
    have f5 := HN.out.res.loose 1
    have HE := Lib.hid (show Row ((wr.setCell ⟨w.heap.size + 1, 0, none⟩ (.string ⟨#[]⟩)).setCell ⟨w.heap.size + 1, 1, none⟩ (.string ⟨#[]⟩)) (w.heap.size + 1) 102 [.string ⟨#[]⟩, .string ⟨#[]⟩] (0, 0) ∧ Below w.heap.size w ((wr.setCell ⟨w.heap.size + 1, 0, none⟩ (.string ⟨#[]⟩)).setCell ⟨w.heap.size + 1, 1, none⟩ (.string ⟨#[]⟩)) from
      ⟨(HN.out.res.put 0 _).put 1 _, (HN.out.below.setCell (p := ⟨w.heap.size + 1, 0, none⟩) (by simp) _).setCell (p := ⟨w.heap.size + 1, 1, none⟩) (by simp) _⟩)
    clear HN c0
    go_wp2
    exact bodyPost_ret (v := .tuple #[pairV ⟨#[]⟩ ⟨#[]⟩, .int .i64 1]) (res_cell_tmp (by rfl) _ _ (w.heap.size + 1) _ _ (0, 0) _ _ (by rfl) (by rfl) HE.out.1 Try.underlying102 rfl Try.size_pair) rfl ⟨rfl, HE.out.2⟩
end Go.Proofs.Ytnmfgmlmjbfdcaa
