/-
  The walk of the statements' head: the calls whose answers are fixed, answer so: true.
-/
import Derived.Test.YtfdfoijpkikfbaaWalksG
namespace Go.Proofs.Ytfdfoijpkikfbaa
open Go.RowKit

theorem text_at {w : World} {g : Nat} {l : List UInt8} {m : Nat × Nat} (h : Row w g 5 (byt l) m) (n c : Nat) (hn : n = l.length) :
    (convert 29 9 (.slice (some ⟨g, 0, none⟩) n c)).run Try.prog w = .ok (.string ⟨l.toArray⟩) w := by
  subst hn
  exact run_text Try.underlying29 Try.underlying5 w _ l c (row_reads h) _ Try.underlying9

theorem head_num1 (g : Nat) (w : World) (hr : Rdr w g (some [1, 2, 3])) :
    Calls Try.prog 21 #[.pointer (some ⟨g, 0, none⟩), .int .i64 2] w fun e w' => e = .returned (.int .u64 258) ∧ Now w g (some [3]) w' :=
  num_yes g [1, 2, 3] 2 w hr rfl (by decide)
theorem head_num2 (g : Nat) (w : World) (hr : Rdr w g (some [3])) :
    Calls Try.prog 21 #[.pointer (some ⟨g, 0, none⟩), .int .i64 2] w fun e w' => e = .returned (.int .u64 0) ∧ Now w g none w' :=
  num_no g [3] 2 w hr (.inr ⟨rfl, by decide⟩)
theorem head_put1 (g : Nat) (w : World) (m : Nat × Nat) (hr : Row w g 5 [.int .u8 7] m) :
    Calls Try.prog 17 #[.slice (some ⟨g, 0, none⟩) 1 1, .int .u64 258, .int .i64 2] w fun e w' => e = .returned (.slice (some ⟨w.heap.size, 0, none⟩) 3 3) ∧ Below w.heap.size w w' ∧ Row w' w.heap.size 5 (byt [7, 1, 2]) (0, 0) :=
  put_wide _ [7] 1 258 2 w (row_reads (l := [7]) hr) (by decide) rfl
theorem head_put2 (g : Nat) (w : World) (m : Nat × Nat) (hr : Row w g 5 [.int .u8 7] m) :
    Calls Try.prog 17 #[.slice (some ⟨g, 0, none⟩) 1 1, .int .u64 1, .int .i64 3] w fun e w' => e = .returned (.slice (some ⟨w.heap.size, 0, none⟩) 1 1) ∧ Below w.heap.size w w' ∧ Row w' w.heap.size 5 (byt [7]) (0, 0) :=
  put_none _ [7] 1 1 3 w (row_reads (l := [7]) hr) (by decide) rfl

theorem head_world {w w1 w3 w4 w6 w7 w8 : World} {g : Nat} {v : Value} {o3 o7 o8 : Obj} {cs : List Value} {m : Nat × Nat} (hb1 : Below w.heap.size w w1) (hb3 : Below (w1.alloc o3).heap.size (w1.alloc o3) w3) (hg : (w1.alloc o3).heap.size ≤ g)
    (hg4 : w3.grownBy w4 (some g)) (hg6 : w4.grownBy w6 (some g)) (hb7 : Below (w6.alloc o7).heap.size (w6.alloc o7) w7) (hb8 : Below (w7.alloc o8).heap.size (w7.alloc o8) w8)
    (hr1 : Row w1 w.heap.size 5 cs m) (hr6 : Row w6 g 58 [.bool false, v] (0, 0)) :
    Row w8 w.heap.size 5 cs m ∧ Row w8 g 58 [.bool false, v] (0, 0) ∧ Below w.heap.size w w8 := by
  have l1 := hr1.lt
  have z1 : (w1.alloc o3).heap.size = w1.heap.size + 1 := by simp
  have z7 : (w6.alloc o7).heap.size = w6.heap.size + 1 := by simp
  have z8 : (w7.alloc o8).heap.size = w7.heap.size + 1 := by simp
  have a3 := (hr1.alloc o3).below hb3 (by omega)
  have a4 := a3.grown hg4 (by intro e; injection e; omega)
  have a6 := a4.grown hg6 (by intro e; injection e; omega)
  have a7 := (a6.alloc o7).below hb7 (by have := a6.lt; omega)
  have a8 := (a7.alloc o8).below hb8 (by have := a7.lt; omega)
  have r7 := (hr6.alloc o7).below hb7 (by have := hr6.lt; omega)
  have r8 := (r7.alloc o8).below hb8 (by have := r7.lt; omega)
  have s1 := hb1.size
  have s3 := hb3.size
  have s4 := hg4.size
  have s6 := hg6.size
  have s7 := hb7.size
  have b3 : Below w.heap.size w w3 := (hb1.alloc hb1.size o3).trans (hb3.mono (by omega))
  have b4 : Below w.heap.size w w4 := b3.grown hg4 b3.size (fun k hk => by injection hk; omega)
  have b6 : Below w.heap.size w w6 := b4.grown hg6 b4.size (fun k hk => by injection hk; omega)
  have b7 : Below w.heap.size w w7 := (b6.alloc b6.size o7).trans (hb7.mono (by omega))
  have b8 : Below w.heap.size w w8 := (b7.alloc b7.size o8).trans (hb8.mono (by omega))
  exact ⟨a8, r8, b8⟩

set_option maxHeartbeats 1000000 in
theorem head_any (w : World) : Calls Try.prog 8 #[] w fun e w' => e = .returned (.bool true) ∧ Below w.heap.size w w' := by
  go_enter Try.func8, Try.ntmps8
  go_wp2_with fail
  refine (putText_ok none [] 0 ⟨#[97, 98]⟩ 2 w Reads.nil rfl (by decide) (by decide) (by decide)).mono ?_
  rintro e w1 ⟨rfl, hb1, hr1⟩
  have HR1 := Lib.hid hr1
  have HB1 := Lib.hid hb1
  clear hr1 hb1
  go_wp2_with fail
  refine (putText_arg none [] 0 ⟨#[97]⟩ 8 w1 rfl).mono ?_
  rintro e w2 ⟨rfl, rfl⟩
  go_wp2_with fail
  refine (open_any _ [1, 2, 3] 3 _ (row_reads (Row.new w1 5 [.int .u8 1, .int .u8 2, .int .u8 3] (0, 0))) (by decide)).mono ?_
  rintro e w3 ⟨g, rfl, hg, hrd, hb3⟩
  have HG := Lib.hid hg
  have HB3 := Lib.hid hb3
  have HN1 := Lib.hid (head_num1 g w3 hrd)
  clear hg hb3 hrd
  go_wp2_with fail
  refine HN1.out.mono ?_
  rintro e w4 ⟨rfl, hg4, hrd4⟩
  have HG4 := Lib.hid hg4
  have HN2 := Lib.hid (head_num2 g w4 hrd4)
  obtain ⟨h, off, c, hlc, hc, hrow, _⟩ := hrd4
  have HL := Lib.hid (left_some g _ 1 c w4 hrow)
  clear hg4 hrow hlc hc
  go_wp2_with fail
  refine HL.out.mono ?_
  rintro e w5 ⟨rfl, rfl⟩
  go_wp2_with fail
  refine HN2.out.mono ?_
  rintro e w6 ⟨rfl, hg6, v, hrd6⟩
  have HG6 := Lib.hid hg6
  have HR6 := Lib.hid hrd6
  clear hg6 hrd6
  go_wp2_with fail
  refine (head_put1 _ _ (0, 0) (Row.new w6 5 [.int .u8 7] (0, 0))).mono ?_
  rintro e w7 ⟨rfl, hb7, hr7⟩
  have hr7' : Row w7 (w6.heap.size + 1) 5 (byt [7, 1, 2]) (0, 0) := by simpa using hr7
  have hc7 := text_at hr7' 3 3 rfl
  have HB7 := Lib.hid hb7
  clear hr7' hr7 hb7
  go_wp2_with fail
  refine (head_put2 _ _ (0, 0) (Row.new w7 5 [.int .u8 7] (0, 0))).mono ?_
  rintro e w8 ⟨rfl, hb8, hr8⟩
  have hr8' : Row w8 (w7.heap.size + 1) 5 (byt [7]) (0, 0) := by simpa using hr8
  have hc8 := text_at hr8' 1 1 rfl
  have HALL := Lib.hid (head_world HB1.out HB3.out HG.out HG4.out HG6.out HB7.out hb8 HR1.out HR6.out)
  have hcs := text_at HALL.out.1 4 4 rfl
  have hcs2 : (⟨([] ++ txt ⟨#[97, 98]⟩ 2).toArray⟩ : ByteArray) = ⟨#[0, 2, 97, 98]⟩ := rfl
  rw [hcs2] at hcs
  have HBAD := Lib.hid (bad_any g false v w8 HALL.out.2.1)
  clear hcs2 hr8' hr8 hb8
  go_wp2_with fail
  refine HBAD.out.mono ?_
  rintro e w9 ⟨rfl, rfl⟩
  go_wp2
  go_ret
  exact ⟨rfl, HALL.out.2.2⟩

end Go.Proofs.Ytfdfoijpkikfbaa
