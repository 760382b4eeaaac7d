/-
  The walks over package block: New, Blocks, Size, Pending, Read, Sync, where nothing draws a call's order.
-/
import Derived.Test.YtnmfgmlmjbfdcaaMBlkAB
import Derived.RegionTactic
import Derived.ChangeAlike
import Derived.Laws.BytesArg
import Derived.Laws.BytesString
namespace Go.Proofs.Ytnmfgmlmjbfdcaa
open Go.RowKit

set_option maxRecDepth 100000 in
theorem Try.infoU8 : (Try.prog.info? 5).map (fun i => (i.zero, i.size, i.bytes)) = some (some (.int .u8 0), 1, 1) := by kernel_rfl
theorem madeZero (n : Nat) : madeCells (Value.int .u8 0).cells n = (byt (List.replicate n 0)).toArray := by
  apply Array.ext
  · simp [madeCells, byt, Value.cells]
  · intro i h1 h2
    simp [madeCells, byt, Value.cells, Nat.mod_one]
theorem makeZeros (n : Nat) (hn : n ≤ 281474976710656) (i : Int) (hi : i = (n : Int)) (w : World) : (Instr.makeSlice 69 (.int .i64 i) (.int .i64 i)).run Try.prog w =
    .ok (.slice (some ⟨w.heap.size, 0, none⟩) n n) (w.alloc (.cells (byt (List.replicate n 0)).toArray 5)) := by
  obtain ⟨i0, hi0, hz0, hz1, hz2⟩ := info_parts Try.infoU8
  subst hi
  have h := run_make (P := Try.prog) w 69 5 i0 _ Try.underlying69 hi0 hz0 .i64 .i64 n n (by omega) (by omega) (by rw [hz2]; omega) (by omega)
  rw [h, hz1, Int.toNat_natCast, Nat.mul_one, madeZero]

theorem run_text_ {P : Program} {T src : TypeId} {e : TypeId} (hs : P.underlying src = some (.slice e)) (he : P.underlying e = some (.int .u8)) (w : World) (A : Option Addr) (l : List UInt8) (n c : Nat) (hn : l.length = n) (hr : Reads T w A l) :
    ∀ dst, P.underlying dst = some .string → (convert src dst (.slice A n c)).run P w = .ok (.string ⟨l.toArray⟩) w := by
  subst hn
  intro dst hd
  rcases Nat.eq_zero_or_pos l.length with h0 | h0
  · obtain rfl : l = [] := List.eq_nil_of_length_eq_zero h0
    rw [run_convert_bytes_string w src dst e A _ c hs he hd]
    cases A with
    | none => simp [Conv.bytesToString]; rfl
    | some a =>
      have := run_bytesToString (P := P) w a 0 c [] (by simp [loadCells]; rfl)
      exact this
  · obtain ⟨g, off, cs, m, rfl, hrow, hc⟩ := hr h0
    have h := run_convert_bytes_arg (P := P) w src e hs he g off l.length c (l.map fun b => (b.toNat : Int)) (by simp) (fun i hi => by
      rw [hrow.cell, hc i hi, byt_get l i hi]
      simp [List.getD, List.getElem?_eq_getElem hi]) dst hd
    have e : strOfNums (l.map fun b => (b.toNat : Int)) = ⟨l.toArray⟩ := by
      unfold strOfNums
      rw [List.map_map, show ((fun n : Int => UInt8.ofNat n.toNat) ∘ fun b : UInt8 => (b.toNat : Int)) = id from funext fun b => by simp, List.map_id]
    rw [h, e]
/-- Bytes as a text. -/
theorem text_bytes {T : TypeId} (A : Option Addr) (l : List UInt8) (n c : Nat) (w : World) (hn : l.length = n) (hr : Reads T w A l) : (convert 69 9 (.slice A n c)).run Try.prog w = .ok (.string ⟨l.toArray⟩) w :=
  run_text_ Try.underlying69 Try.underlying5 w A l n c hn hr _ Try.underlying9

/-- A new device. -/
def NewDev (nb ns : Nat) (w : World) (e : Ending) (w' : World) : Prop :=
  ∃ d : DV, e = .returned (.tuple #[d.ptr, .int .i64 0]) ∧ d.In w' ∧ Below w.heap.size w w' ∧ (∀ k, d.mine k → w.heap.size ≤ k) ∧ d.nb = nb ∧ d.ns = ns ∧
    d.vis = List.replicate (nb * (ns * 64)) 0 ∧ d.dur = List.replicate (nb * (ns * 64)) 0 ∧ d.pend = []

theorem newDev {nb ns : Nat} {w w' : World} {A V U : Nat} (hb : Below w.heap.size w w') (hn : 1 ≤ nb ∧ nb ≤ 1000) (hs : 1 ≤ ns ∧ ns ≤ 256)
    (hA : Row w' A 94 [.int .i64 (nb : Int), .int .i64 ((ns * 64 : Nat) : Int), .slice (some ⟨V, 0, none⟩) (nb * (ns * 64)) (nb * (ns * 64)), .slice (some ⟨U, 0, none⟩) (nb * (ns * 64)) (nb * (ns * 64)), .slice none 0 0] (0, 0))
    (hV : Row w' V 5 (byt (List.replicate (nb * (ns * 64)) 0)) (0, 0)) (hU : Row w' U 5 (byt (List.replicate (nb * (ns * 64)) 0)) (0, 0)) (hne : V ≠ U) (h1 : w.heap.size ≤ A) (h2 : w.heap.size ≤ V) (h3 : w.heap.size ≤ U) :
    NewDev nb ns w (.returned (.tuple #[.pointer (some ⟨A, 0, none⟩), .int .i64 0])) w' := by
  have hle : nb * (ns * 64) ≤ 1000 * 16384 := Nat.mul_le_mul hn.2 (by omega)
  refine ⟨⟨A, V, U, nb * (ns * 64), nb * (ns * 64), .slice none 0 0, [], [], nb, ns, List.replicate (nb * (ns * 64)) 0, List.replicate (nb * (ns * 64)) 0, []⟩, rfl, ?_, hb, ?_, rfl, rfl, rfl, rfl, rfl⟩
  · exact { dev := hA, own := World.ownsRow_nil _ _ _ _, cv := Nat.le_refl _, cu := Nat.le_refl _, cvm := by show nb * (ns * 64) ≤ _; omega, cum := by show nb * (ns * 64) ≤ _; omega, nb1 := hn.1, nb2 := hn.2, ns1 := hs.1, ns2 := hs.2,
            fits := fun q hq => by simp at hq
            vis := by simpa using hV, dur := by simpa using hU, ne := hne, lv := by simp, ld := by simp, same := fun _ _ _ => rfl }
  · rintro k (rfl | rfl | rfl | hk)
    · exact h1
    · exact h2
    · exact h3
    · cases hk

section
variable (w : World) (xs ys : List Value)
theorem three_below (A B C : Obj) : Below w.heap.size w (((w.alloc A).alloc B).alloc C).drew :=
  ((((Below.refl _ w).alloc (Nat.le_refl _) A).alloc (by simp) B).alloc (by simp; omega) C).drew
theorem three_first (B C : Obj) : Row (((w.alloc (.cells xs.toArray 5)).alloc B).alloc C).drew w.heap.size 5 xs (0, 0) :=
  (((Row.new w 5 xs (0, 0)).alloc B).alloc C).drew
theorem three_second (A C : Obj) : Row (((w.alloc A).alloc (.cells ys.toArray 5)).alloc C).drew (w.heap.size + 1) 5 ys (0, 0) := by
  have := ((Row.new (w.alloc A) 5 ys (0, 0)).alloc C).drew
  rwa [show (w.alloc A).heap.size = w.heap.size + 1 by simp] at this
theorem three_new (A B : Obj) (a b c e : Value) (b' : Value) (hb : b = b') : Row (((w.alloc A).alloc B).alloc (.cells #[a, b, c, e, .slice none 0 0] 94)).drew (w.heap.size + 1 + 1) 94 [a, b', c, e, .slice none 0 0] (0, 0) := by
  subst hb
  have := (Row.new ((w.alloc A).alloc B) 94 [a, b, c, e, .slice none 0 0] (0, 0)).drew
  rwa [show ((w.alloc A).alloc B).heap.size = w.heap.size + 1 + 1 by simp] at this
end

set_option maxRecDepth 100000 in
theorem new_bad (b s : Int) (w : World) (h : ¬ (1 ≤ b ∧ b ≤ 1000 ∧ 1 ≤ s ∧ s ≤ 256)) : Calls Try.prog 16 #[.int .i64 b, .int .i64 s] w fun e w' => e = .returned (.tuple #[.pointer none, .int .i64 2]) ∧ w = w' := by
  have hh : b < 1 ∨ 1000 < b ∨ s < 1 ∨ 256 < s := by omega
  clear h
  by_cases h1 : b < 1
  · go_enter Try.func16, Try.ntmps16
    go_wp2
    go_ret2
    exact ⟨rfl, rfl⟩
  by_cases h2 : 1000 < b
  · go_enter Try.func16, Try.ntmps16
    go_wp2
    go_ret2
    exact ⟨rfl, rfl⟩
  by_cases h3 : s < 1
  · go_enter Try.func16, Try.ntmps16
    go_wp2
    go_ret2
    exact ⟨rfl, rfl⟩
  have h4 : 256 < s := by omega
  go_enter Try.func16, Try.ntmps16
  go_wp2
  go_ret2
  exact ⟨rfl, rfl⟩

set_option maxRecDepth 100000 in
set_option maxHeartbeats 1000000 in
theorem new_good (nb ns : Nat) (w : World) (hn : 1 ≤ nb ∧ nb ≤ 1000) (hs : 1 ≤ ns ∧ ns ≤ 256) : Calls Try.prog 16 #[.int .i64 (nb : Int), .int .i64 (ns : Int)] w (NewDev nb ns w) := by
  have HFIN := Lib.hid (fun (w' : World) (A V U : Nat) hb => newDev (nb := nb) (ns := ns) (w := w) (w' := w') (A := A) (V := V) (U := U) hb hn hs)
  have hle : nb * (ns * 64) ≤ 1000 * 16384 := Nat.mul_le_mul hn.2 (by omega)
  obtain ⟨P, hP⟩ : ∃ P, NewDev nb ns w = P := ⟨_, rfl⟩
  rw [hP] at HFIN ⊢
  clear hP
  have e1 : IntKind.i64.wrap ((nb : Int) * ((ns : Int) * 64)) = ((nb * (ns * 64) : Nat) : Int) := by
    have := mul_wrap (b := nb) (sz := ns * 64) (by omega)
    rw [← this]; simp
  have hmk := makeZeros (nb * (ns * 64)) (by omega) _ rfl
  have HN := Lib.hid (show nb * (ns * 64) = nb * (ns * 64) from rfl)
  have n1 : (1 : Int) ≤ nb := by omega
  have n2 : (nb : Int) ≤ 1000 := by omega
  have n3 : (1 : Int) ≤ ns := by omega
  have n4 : (ns : Int) ≤ 256 := by omega
  generalize nb * (ns * 64) = N at *
  clear hn hs
  have HNB := Lib.hid hle
  go_enter Try.func16, Try.ntmps16
  go_wp2_with fail
  go_region
  all_goals go_wp2
  all_goals clear e1 hmk
  all_goals
    first
    | exact HFIN.out ((((w.alloc (.cells (byt (List.replicate N 0)).toArray 5)).alloc (.cells (byt (List.replicate N 0)).toArray 5)).alloc (.cells #[.int .i64 (nb : Int), .int .i64 ((ns : Int) * 64), .slice (some ⟨w.heap.size, 0, none⟩) N N, .slice (some ⟨w.heap.size + 1, 0, none⟩) N N, .slice none 0 0] 94)).drew) (w.heap.size + 1 + 1) (w.heap.size) (w.heap.size + 1) (three_below _ _ _ _) (three_new _ _ _ _ _ _ _ _ (by simp)) (three_first _ _ _ _) (three_second _ _ _ _) (by omega) (by omega) (by omega) (by omega)
    | exact HFIN.out ((((w.alloc (.cells (byt (List.replicate N 0)).toArray 5)).alloc (.cells (byt (List.replicate N 0)).toArray 5)).alloc (.cells #[.int .i64 (nb : Int), .int .i64 ((ns : Int) * 64), .slice (some ⟨w.heap.size + 1, 0, none⟩) N N, .slice (some ⟨w.heap.size, 0, none⟩) N N, .slice none 0 0] 94)).drew) (w.heap.size + 1 + 1) (w.heap.size + 1) (w.heap.size) (three_below _ _ _ _) (three_new _ _ _ _ _ _ _ _ (by simp)) (three_second _ _ _ _) (three_first _ _ _ _) (by omega) (by omega) (by omega) (by omega)

/-- What a device that is none answers. -/
structure NoDev (w : World) (v : Value) : Prop where
  none : v = .pointer none ∨ ∃ A, v = .pointer (some ⟨A, 0, .none⟩) ∧ w.cell? ⟨A, 1, .none⟩ = some (.int .i64 0)
theorem NoDev.isNone {w : World} {v : Value} (h : NoDev w v) : Calls Try.prog 50 #[v] w fun e w' => e = .returned (.bool true) ∧ w = w' := by
  rcases h.none with rfl | ⟨A, rfl, h1⟩
  · exact isNone_nil w
  · exact isNone_zero A w h1
theorem NoDev.check {w : World} {v : Value} (h : NoDev w v) (b : Int) : Calls Try.prog 56 #[v, .int .i64 b] w fun e w' => e = .returned (.int .i64 1) ∧ w = w' := by
  rcases h.none with rfl | ⟨A, rfl, h1⟩
  · exact check_nil b w
  · exact check_zero A b w h1

section
variable {w : World} {v : Value}
set_option maxRecDepth 100000 in
theorem size_none (h : NoDev w v) : Calls Try.prog 59 #[v] w fun e w' => e = .returned (.int .i64 0) ∧ w = w' := by
  have HN := Lib.hid h.isNone
  clear h
  go_enter Try.func59, Try.ntmps59
  go_wp2_with fail
  refine HN.out.mono ?_
  rintro e w1 ⟨rfl, rfl⟩
  go_wp2
  go_ret
  exact ⟨rfl, rfl⟩
set_option maxRecDepth 100000 in
theorem sync_none (h : NoDev w v) : Calls Try.prog 47 #[v] w fun e w' => e = .returned (.int .i64 1) ∧ w = w' := by
  have HN := Lib.hid h.isNone
  clear h
  go_enter Try.func47, Try.ntmps47
  go_wp2_with fail
  refine HN.out.mono ?_
  rintro e w1 ⟨rfl, rfl⟩
  go_wp2
  go_ret
  exact ⟨rfl, rfl⟩
set_option maxRecDepth 100000 in
theorem read_none (h : NoDev w v) (b : Int) : Calls Try.prog 32 #[v, .int .i64 b] w fun e w' => e = .returned (.tuple #[.string ⟨#[]⟩, .int .i64 1]) ∧ w = w' := by
  have HN := Lib.hid (h.check b)
  clear h
  go_enter Try.func32, Try.ntmps32
  go_wp2_with fail
  refine HN.out.mono ?_
  rintro e w1 ⟨rfl, rfl⟩
  go_wp2
  go_ret2
  exact ⟨rfl, rfl⟩
set_option maxRecDepth 100000 in
theorem write_none (h : NoDev w v) (b : Int) (s : ByteArray) : Calls Try.prog 28 #[v, .int .i64 b, .string s] w fun e w' => e = .returned (.int .i64 1) ∧ w = w' := by
  have HN := Lib.hid (h.check b)
  clear h
  go_enter Try.func28, Try.ntmps28
  go_wp2_with fail
  refine HN.out.mono ?_
  rintro e w1 ⟨rfl, rfl⟩
  go_wp2
  go_ret
  exact ⟨rfl, rfl⟩
set_option maxRecDepth 100000 in
theorem crash_none (h : NoDev w v) (A : Option Addr) (n c : Nat) : Calls Try.prog 26 #[v, .slice A n c] w fun e w' => e = .returned (.tuple #[]) ∧ Below w.heap.size w w' := by
  have HN := Lib.hid (show ∀ o : Obj, NoDev (w.alloc o) v from fun o => ⟨by
    rcases h.none with h1 | ⟨A, h1, h2⟩
    · exact .inl h1
    · exact .inr ⟨A, h1, Lib.cell?_alloc_some o h2⟩⟩)
  clear h
  go_enter Try.func26, Try.ntmps26
  go_wp2_with fail
  refine (HN.out _).isNone.mono ?_
  rintro e w1 ⟨rfl, rfl⟩
  go_wp2
  exact bodyPost_ret (v := .tuple #[]) (by simp [results, Try.results26, go_sem]) rfl ⟨rfl, (Below.refl _ _).alloc (Nat.le_refl _) _⟩
end

section
variable (d : DV) (w : World)
set_option maxRecDepth 100000 in
theorem size_any (h : d.Top w) : Calls Try.prog 59 #[d.ptr] w fun e w' => e = .returned (.int .i64 ((d.sz : Nat) : Int)) ∧ w = w' := by
  have HN := Lib.hid (isNone_any d w h)
  have c1 : w.cell? ⟨d.A, 1, none⟩ = some (.int .i64 ((d.sz : Nat) : Int)) := h.c1
  clear h
  generalize d.sz = n at *
  unfold DV.ptr at HN ⊢
  go_enter Try.func59, Try.ntmps59
  go_wp2_with fail
  refine HN.out.mono ?_
  rintro e w1 ⟨rfl, rfl⟩
  go_wp2
  go_ret
  exact ⟨rfl, rfl⟩
/-- What Read hands back. -/
def DV.read (d : DV) (b : Int) : ByteArray := if chk d b = 0 then ⟨(seg d.vis (b.toNat * d.sz) d.sz).toArray⟩ else ⟨#[]⟩
set_option maxRecDepth 100000 in
theorem read_any (h : d.In w) (b : Int) : Calls Try.prog 32 #[d.ptr, .int .i64 b] w fun e w' => e = .returned (.tuple #[.string (d.read b), .int .i64 (chk d b)]) ∧ ∃ n, w' = w.drewN n := by
  have HC := Lib.hid (check_any d b w h.toTop)
  by_cases hb : 0 ≤ b ∧ b < d.nb
  · obtain ⟨k, rfl⟩ : ∃ k : Nat, b = k := ⟨b.toNat, by omega⟩
    have hk : k < d.nb := by omega
    have hchk : chk d k = 0 := if_pos hb
    have hrd : d.read k = ⟨(seg d.vis (k * d.sz) d.sz).toArray⟩ := by unfold DV.read; rw [if_pos hchk]; simp
    rw [hchk] at HC ⊢
    rw [hrd]
    have HP := Lib.hid (piece_any d d.V d.cv k w h.toTop hk h.cv)
    have c2 := h.c2
    have hin := block_in d.sz hk
    have hsl : (seg d.vis (k * d.sz) d.sz).length = d.sz := seg_length _ _ _ (by rw [h.lv]; exact hin)
    have HRD : ∀ n, Reads 5 (w.drewN n) (some ⟨d.V, k * d.sz, none⟩) (seg d.vis (k * d.sz) d.sz) := fun n _ => ⟨d.V, k * d.sz, _, _, rfl, h.vis, fun j hj => by
      rw [hsl] at hj
      rw [List.getElem?_append_left (by rw [byt_length, h.lv]; show _ < d.nb * d.sz; omega)]
      unfold byt
      rw [List.getElem?_map, List.getElem?_map, seg_get, if_pos hj]⟩
    have hcv : ∀ n, (convert 69 9 (.slice (some ⟨d.V, k * d.sz, none⟩) d.sz (d.cv - k * d.sz))).run Try.prog (w.drewN n) = .ok (.string ⟨(seg d.vis (k * d.sz) d.sz).toArray⟩) (w.drewN n) := fun n =>
      text_bytes _ _ _ _ _ hsl (HRD n)
    obtain ⟨X, hX⟩ : ∃ X : ByteArray, (⟨(seg d.vis (k * d.sz) d.sz).toArray⟩ : ByteArray) = X := ⟨_, rfl⟩
    rw [hX] at hcv ⊢
    obtain ⟨S, hS⟩ : ∃ S : Value, .slice (some ⟨d.V, k * d.sz, none⟩) d.sz (d.cv - k * d.sz) = S := ⟨_, rfl⟩
    rw [hS] at HP
    simp only [hS] at hcv
    clear h hb hchk hrd hin hsl HRD hX hS hk
    unfold DV.ptr at HC HP ⊢
    go_enter Try.func32, Try.ntmps32
    go_wp2_with fail
    refine HC.out.mono ?_
    rintro e w1 ⟨rfl, rfl⟩
    go_wp2_with fail
    refine HP.out.mono ?_
    rintro e w1 ⟨rfl, n, rfl⟩
    have hcn := hcv n
    clear hcv
    go_wp2
    go_ret2
    exact ⟨rfl, n, rfl⟩
  · have hchk : chk d b = 2 := if_neg hb
    have hrd : d.read b = ⟨#[]⟩ := by unfold DV.read; rw [hchk]; rfl
    rw [hchk] at HC ⊢
    rw [hrd]
    clear h hb hchk hrd
    unfold DV.ptr at HC ⊢
    go_enter Try.func32, Try.ntmps32
    go_wp2_with fail
    refine HC.out.mono ?_
    rintro e w1 ⟨rfl, rfl⟩
    go_wp2
    go_ret2
    exact ⟨rfl, 0, rfl⟩
end

end Go.Proofs.Ytnmfgmlmjbfdcaa
