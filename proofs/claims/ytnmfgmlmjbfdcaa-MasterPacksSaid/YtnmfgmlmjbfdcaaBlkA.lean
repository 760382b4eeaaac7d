/-
  The walks over package block: isNone, check, piece, fill, from.
-/
import Derived.Test.YtnmfgmlmjbfdcaaBlkBase
import Derived.Lib.BufferWrite
namespace Go.Proofs.Ytnmfgmlmjbfdcaa
open Go.RowKit

set_option maxRecDepth 100000 in
theorem isNone_nil (w : World) : Calls Try.prog 50 #[.pointer none] w fun e w' => e = .returned (.bool true) ∧ w = w' := by
  go_enter Try.func50, Try.ntmps50
  go_wp2
  go_ret
  exact ⟨rfl, rfl⟩

set_option maxRecDepth 100000 in
theorem isNone_zero (A : Nat) (w : World) (h : w.cell? ⟨A, 1, none⟩ = some (.int .i64 0)) : Calls Try.prog 50 #[.pointer (some ⟨A, 0, none⟩)] w fun e w' => e = .returned (.bool true) ∧ w = w' := by
  go_enter Try.func50, Try.ntmps50
  go_wp2
  go_ret
  exact ⟨rfl, rfl⟩

set_option maxRecDepth 100000 in
theorem isNone_any (d : DV) (w : World) (h : d.Top w) : Calls Try.prog 50 #[d.ptr] w fun e w' => e = .returned (.bool false) ∧ w = w' := by
  have c1 := h.c1
  have hn : decide (d.ns * 64 = 0) = false := by have := h.ns1; simp; omega
  have hn2 : 1 ≤ d.ns := h.ns1
  obtain ⟨n, hnn⟩ : ∃ n, n = d.ns * 64 := ⟨_, rfl⟩
  rw [← hnn] at c1 hn
  have hpos : 0 < n := by omega
  clear hnn hn hn2
  unfold DV.ptr
  go_enter Try.func50, Try.ntmps50
  go_wp2
  go_ret
  exact ⟨by simp; omega, rfl⟩

/-- The error of a call that names block b. -/
def chk (d : DV) (b : Int) : Int := if 0 ≤ b ∧ b < d.nb then 0 else 2

set_option maxRecDepth 100000 in
theorem check_nil (b : Int) (w : World) : Calls Try.prog 56 #[.pointer none, .int .i64 b] w fun e w' => e = .returned (.int .i64 1) ∧ w = w' := by
  go_enter Try.func56, Try.ntmps56
  go_wp2_with fail
  refine (isNone_nil _).mono ?_
  rintro e w1 ⟨rfl, rfl⟩
  go_wp2
  go_ret
  exact ⟨rfl, rfl⟩
set_option maxRecDepth 100000 in
theorem check_zero (A : Nat) (b : Int) (w : World) (h : w.cell? ⟨A, 1, none⟩ = some (.int .i64 0)) : Calls Try.prog 56 #[.pointer (some ⟨A, 0, none⟩), .int .i64 b] w fun e w' => e = .returned (.int .i64 1) ∧ w = w' := by
  go_enter Try.func56, Try.ntmps56
  go_wp2_with fail
  refine (isNone_zero A _ h).mono ?_
  rintro e w1 ⟨rfl, rfl⟩
  go_wp2
  go_ret
  exact ⟨rfl, rfl⟩
set_option maxRecDepth 100000 in
theorem check_any (d : DV) (b : Int) (w : World) (h : d.Top w) : Calls Try.prog 56 #[d.ptr, .int .i64 b] w fun e w' => e = .returned (.int .i64 (chk d b)) ∧ w = w' := by
  have HN := Lib.hid (isNone_any d w h)
  have c0 := h.c0
  have HC := Lib.hid (show chk d b = if 0 ≤ b ∧ b < d.nb then 0 else 2 from rfl)
  generalize chk d b = E at *
  unfold DV.ptr at HN ⊢
  go_enter Try.func56, Try.ntmps56
  go_wp2_with fail
  refine HN.out.mono ?_
  rintro e w1 ⟨rfl, rfl⟩
  rcases Int.lt_or_le b 0 with h0 | h0
  · go_wp2
    go_ret
    exact ⟨by rw [HC.out, if_neg (by omega)]; rfl, rfl⟩
  · rcases Int.lt_or_le b d.nb with h1 | h1
    · go_wp2
      go_ret
      exact ⟨by rw [HC.out, if_pos (by omega)]; rfl, rfl⟩
    · go_wp2
      go_ret
      exact ⟨by rw [HC.out, if_neg (by omega)]; rfl, rfl⟩

theorem slice_between {P : Program} {t : TypeId} (ht : P.underlying t = some (.slice (P.elem t))) (hs : ∀ w, (sizeOf (P.elem t)).run P w = .ok 1 w) (B a n c l h : Nat) (h1 : l ≤ h) (h2 : h ≤ c) (h3 : l < c) (w : World) :
    (Instr.slice t (.slice (some ⟨B, a, none⟩) n c) (some (.int .i64 (l : Int))) (some (.int .i64 (h : Int))) none).run P w = .ok (.slice (some ⟨B, a + l, none⟩) (h - l) (c - l)) w := by
  rw [run_slice_lh (w := w) t _ n c ht .i64 .i64 (l : Int) (h : Int) (by omega) (by omega) (by omega), hs]
  simp only [Result.andThen, sliced, Nat.mul_one, Int.toNat_natCast, if_neg (show ¬ c = l by omega), Option.map_some, Addr.add_lit]
theorem mul_wrap {b sz : Nat} (h : b * sz ≤ 100000000) : IntKind.i64.wrap ((b : Int) * (sz : Int)) = ((b * sz : Nat) : Int) := by
  rw [show ((b : Int) * (sz : Int)) = ((b * sz : Nat) : Int) by simp]
  exact IntWalk.i64_in _ (by omega)

set_option maxRecDepth 100000 in
/-- The bytes of a block among those of all. -/
theorem piece_any (d : DV) (B c b : Nat) (w : World) (h : d.Top w) (hb : b < d.nb) (hc : d.all ≤ c) :
    Calls Try.prog 57 #[d.ptr, .slice (some ⟨B, 0, none⟩) d.all c, .int .i64 (b : Int)] w fun e w' => e = .returned (.slice (some ⟨B, b * d.sz, none⟩) d.sz (c - b * d.sz)) ∧ ∃ n, w' = w.drewN n := by
  have c1 := h.c1
  have hin := block_in d.sz hb
  have hall : d.nb * d.sz ≤ 16384000 := h.allLe
  have hs := h.ns1
  have hbm : (b : Int) ≤ 1000 := by have := h.nb2; omega
  have hp : 0 < d.sz := by show 0 < d.ns * 64; omega
  have hc' : d.nb * d.sz ≤ c := hc
  unfold DV.ptr
  show Calls Try.prog 57 #[.pointer (some ⟨d.A, 0, none⟩), .slice (some ⟨B, 0, none⟩) (d.nb * d.sz) c, .int .i64 (b : Int)] w _
  replace c1 : w.cell? ⟨d.A, 1, none⟩ = some (.int .i64 (d.sz : Int)) := c1
  have h2 : (b + 1) * d.sz = b * d.sz + d.sz := Nat.succ_mul _ _
  generalize d.nb * d.sz = N at *
  generalize d.sz = sz at *
  have e1 := mul_wrap (b := b) (sz := sz) (by omega)
  have e2 : IntKind.i64.wrap (((b : Int) + 1) * (sz : Int)) = ((b * sz + sz : Nat) : Int) := by
    have := mul_wrap (b := b + 1) (sz := sz) (by omega)
    rw [h2] at this
    rw [← this]; simp
  generalize b * sz = o at *
  clear h2 hc h
  have e0 : IntKind.i64.wrap ((b : Int) + 1) = (b : Int) + 1 := IntWalk.i64_in _ (by omega)
  have hsl := slice_between (P := Try.prog) (t := 69) Try.underlying69 (fun w => by kernel_rfl) B 0 N c o (o + sz) (by omega) (by omega) (by omega)
  rw [show o + sz - o = sz by omega, Nat.zero_add] at hsl
  go_enter Try.func57, Try.ntmps57
  go_wp2_with fail
  go_quiet (fail)
  go_wp2
  go_ret
  refine ⟨?_, _, rfl⟩
  show Ending.returned (.slice (some ⟨B, o, none⟩) (o + sz - o) (c - o)) = _
  rw [show o + sz - o = sz by omega]

set_option maxRecDepth 100000 in
theorem Try.u8size : (Try.prog.info? 5).map (·.size) = some 1 := by kernel_rfl
set_option maxRecDepth 100000 in
theorem Try.u8zero (w : World) : (zeroValue 5).run Try.prog w = .ok (.int .u8 0) w := by kernel_rfl

/-- copy(b, s): as many bytes as there is room for. -/
theorem run_copy_str {P : Program} (w : World) (dT sT ty elem : TypeId) (g o n c : Nat) (s : ByteArray) (L : List Value) (t : TypeId)
    (hu : P.underlying dT = some (.slice elem)) (hs : (P.info? elem).map (·.size) = some 1) (hg : Row w g t L (0, 0)) (hfit : o + n ≤ L.length) :
    (Builtin.copy_ #[dT, sT] ty #[.slice (some ⟨g, o, none⟩) n c, .string s]).run P w = .ok (.int .i64 ((min s.size n : Nat) : Int)) (w.setRow g (splice L o (byt ((txt s).take n))).toArray) := by
  have hlen : (byt ((txt s).take n)).length = min s.size n := by rw [byt_length, List.length_take, txt_length]; omega
  have hst := run_storeCells_at P g o t (byt ((txt s).take n)) 0 L.toArray w hg (by rw [hlen]; simp; omega) (byt_one _)
  have htk : List.take (min s.size n) (List.map (fun b : UInt8 => Value.int IntKind.u8 (b.toNat : Int)) s.data.toList) = byt ((txt s).take n) := by
    rw [byt_take]
    show List.take (min s.size n) (byt (txt s)) = _
    rcases Nat.le_total s.size n with h | h
    · rw [Nat.min_eq_left h, List.take_of_length_le (by rw [byt_length, txt_length]; exact Nat.le_refl _), List.take_of_length_le (by rw [byt_length, txt_length]; exact h)]
    · rw [Nat.min_eq_right h]
  simp only [Nat.add_zero, List.append_assoc] at hst
  have hst2 : (storeCells ⟨g, o, none⟩ (byt ((txt s).take n))).run P w = .ok () (w.setRow g (splice L o (byt ((txt s).take n))).toArray) := hst
  cases hq : P.info? elem with
  | none => simp [hq] at hs
  | some i =>
    simp [Builtin.copy_, run_underlying hu, Builtin.lenOf, Builtin.firstCells, sizeOf, typeInfo, hq]
    rw [show Nat.min s.size n = min s.size n from rfl, htk, hst2]
    simp [Result.andThen, goInt]

theorem setRow_same {w : World} {g : Nat} {t : TypeId} {L : List Value} {m : Nat × Nat} (hg : Row w g t L m) : w.setRow g L.toArray = w := setRow_self w g L.toArray t m hg

/-- clear(b): bytes 0. -/
theorem run_clear_str {P : Program} (w : World) (T ty : TypeId) (elem : TypeId) (g o n c : Nat) (L : List Value) (t : TypeId)
    (hu : P.underlying T = some (.slice elem)) (hz : ∀ w, (zeroValue elem).run P w = .ok (.int .u8 0) w) (hg : Row w g t L (0, 0)) (hfit : o + n ≤ L.length) (A : Option Addr) (hA : 0 < n → A = some ⟨g, o, none⟩) :
    (Builtin.clear_ #[T] ty #[.slice A n c]).run P w = .ok (.tuple #[]) (w.setRow g (splice L o (byt (List.replicate n 0))).toArray) := by
  rcases Nat.eq_zero_or_pos n with h0 | h0
  · subst h0
    have e : (splice L o (byt (List.replicate 0 0))) = L := splice_nil L o
    rw [e, setRow_same hg]
    cases A <;> simp [Builtin.clear_, run_underlying hu]
  · obtain rfl := hA h0
    have hst := run_storeCells_at P g o t (byt (List.replicate n 0)) 0 L.toArray w hg (by rw [byt_length]; simpa using hfit) (byt_one _)
    simp only [Nat.add_zero, List.append_assoc] at hst
    have hst2 : (storeCells ⟨g, o, none⟩ (byt (List.replicate n 0))).run P w = .ok () (w.setRow g (splice L o (byt (List.replicate n 0))).toArray) := hst
    have hzc : (Builtin.zeroCells (Value.int .u8 0).cells n).toList = byt (List.replicate n 0) := by
      simp [Builtin.zeroCells, Value.cells, byt]
      apply List.ext_getElem
      · simp
      · intro i h1 h2
        simp [Nat.mod_one]
    obtain ⟨m, rfl⟩ : ∃ m, n = m + 1 := ⟨n - 1, by omega⟩
    simp [Builtin.clear_, run_underlying hu, hz, hzc, hst2]

theorem byt_splice (L : List UInt8) (X : List Value) (o : Nat) (cs : List UInt8) (h : o + cs.length ≤ L.length) : splice (byt L ++ X) o (byt cs) = byt (splice L o cs) ++ X := by
  rw [splice_left _ _ _ _ (by rw [byt_length, byt_length]; exact h)]
  unfold byt
  rw [splice_map]

set_option maxRecDepth 100000 in
/-- The bytes from o on become the beginning of s, with bytes 0 behind it. -/
theorem fill_any (B o n c : Nat) (L : List Value) (t : TypeId) (s : ByteArray) (w : World) (hr : Row w B t L (0, 0)) (ho : o + n ≤ L.length) (hn : n ≤ c) :
    Calls Try.prog 53 #[.slice (some ⟨B, o, none⟩) n c, .string s] w fun e w' => e = .returned (.tuple #[]) ∧ Row w' B t (splice L o (byt (pad n (txt s)))) (0, 0) ∧ Only (· = B) w w' := by
  have hl1 : (byt ((txt s).take n)).length = min s.size n := by rw [byt_length, List.length_take, txt_length]; omega
  have hcp : ∀ ty, (Builtin.copy_ #[69, 9] ty #[.slice (some ⟨B, o, none⟩) n c, .string s]).run Try.prog w = _ := fun ty =>
    run_copy_str w 69 9 ty 5 B o n c s L t Try.underlying69 Try.u8size hr ho
  have hr1 : Row (w.setRow B (splice L o (byt ((txt s).take n))).toArray) B t (splice L o (byt ((txt s).take n))) (0, 0) := hr.setRow_
  have hlen1 : (splice L o (byt ((txt s).take n))).length = L.length := splice_length _ _ _ (by rw [hl1]; omega)
  obtain ⟨k, hk⟩ : ∃ k, min s.size n = k := ⟨_, rfl⟩
  have hkn : k ≤ n := by omega
  have hO1 : Only (· = B) w (w.setRow B (splice L o (byt ((txt s).take n))).toArray) := Only.setRow (F := (· = B)) (g := B) (Only.refl _ w) rfl _
  obtain ⟨w1, hw1⟩ : ∃ w1, w.setRow B (splice L o (byt ((txt s).take n))).toArray = w1 := ⟨_, rfl⟩
  rw [hk] at hl1
  rw [hw1] at hr1 hO1
  simp only [hk, hw1] at hcp
  have hs1 : (Instr.slice 69 (.slice (some ⟨B, o, none⟩) n c) (some (.int .i64 (k : Int))) none none).run Try.prog w1 = .ok (.slice (if c = k then some ⟨B, o, none⟩ else some ⟨B, o + k, none⟩) (n - k) (c - k)) w1 := by
    rw [run_slice_l (w := w1) 69 _ n c Try.underlying69 .i64 (k : Int) (by omega) (by omega), show (sizeOf (Try.prog.elem 69)).run Try.prog w1 = .ok 1 w1 by kernel_rfl]
    simp only [Result.andThen, sliced, Nat.mul_one, Int.toNat_natCast, Option.map_some, Addr.add_lit]
  obtain ⟨A2, hA2⟩ : ∃ A2, (if c = k then some ⟨B, o, none⟩ else some ⟨B, o + k, none⟩ : Option Addr) = A2 := ⟨_, rfl⟩
  rw [hA2] at hs1
  have hA3 : 0 < n - k → A2 = some ⟨B, o + k, none⟩ := fun h => by rw [← hA2, if_neg (by omega)]
  have hcl : ∀ ty, (Builtin.clear_ #[69] ty #[.slice A2 (n - k) (c - k)]).run Try.prog w1 = _ := fun ty =>
    run_clear_str w1 69 ty 5 B (o + k) (n - k) (c - k) (splice L o (byt ((txt s).take n))) t Try.underlying69 Try.u8zero hr1 (by rw [hlen1]; omega) A2 hA3
  have hfin : splice (splice L o (byt ((txt s).take n))) (o + k) (byt (List.replicate (n - k) 0)) = splice L o (byt (pad n (txt s))) := by
    rw [← hl1, splice_splice _ _ _ _ (by rw [hl1, byt_length, List.length_replicate]; omega), ← byt_append]
    congr 2
    unfold pad
    rw [hl1]
    congr 1
    rw [txt_length]; congr 1; omega
  have hr2 := hr1.setRow_ (cs := splice L o (byt (pad n (txt s))))
  have hO2 : Only (· = B) w (w1.setRow B (splice L o (byt (pad n (txt s)))).toArray) := Only.setRow (F := (· = B)) (g := B) hO1 rfl _
  rw [hfin] at hcl
  obtain ⟨w2, hw2⟩ : ∃ w2, w1.setRow B (splice L o (byt (pad n (txt s)))).toArray = w2 := ⟨_, rfl⟩
  rw [hw2] at hr2 hO2
  simp only [hw2] at hcl
  have HR := Lib.hid hr2
  have HO := Lib.hid hO2
  clear hr2 hO2 hw2 hfin hA3 hA2 hO1 hw1 hlen1 hr1 hl1 hr hk ho
  go_enter Try.func53, Try.ntmps53
  go_wp2_with (simp only [hcl])
  go_end0
  exact ⟨rfl, HR.out, HO.out⟩

end Go.Proofs.Ytnmfgmlmjbfdcaa
