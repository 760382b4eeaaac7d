/-
  slices.Sort of numbers of 64 bits, eleventh part: Sort itself.
-/
import Derived.Test.YtbkhojopiimbdaaWaiSortH
import Derived.Test.YtbkhojopiimbdaaWaiSortK
import Derived.Test.YtbkhojopiimbdaaWaiBase
namespace Go.Proofs.Ytbkhojopiimbdaa
open Go.RowKit

theorem try_c : TryC := fun w0 g n c a b rest d w hs hd hab hb hn hbel => by
  have h := Sort.partialInsertionSort_holds swo_ltN d a b (by omega) (by rw [hd]; exact hb) hbel
  exact (partial_any w0 g n c a b rest d w hs hd (by omega) hb (by omega)).mono fun e w' ⟨he, hw⟩ => ⟨_, _, he, h.1, h.2, hw⟩

set_option maxRecDepth 100000 in
set_option maxHeartbeats 2000000 in
theorem sort_row (w0 : World) (g n c : Nat) (rest : List Value) (d : Array Nat) (w : World) (hs : SD w0 g rest d w) (hd : d.size = n) (hn : n ≤ 1100) :
    Calls Try.prog 14 #[.slice (some ⟨g, 0, none⟩) n c] w (Sorts w0 g rest n 0 n d) := by
  have HL := Lib.hid (fun w => len_any n hn w)
  have HP := Lib.hid (fun L (hL : L ≤ 64) => pdq_any break_c try_c w0 g n c rest hn (n + 1) 0 n L d w (by omega) (Nat.zero_le _) (Nat.le_refl _) hL hd hs (.inl rfl))
  have hb := (bits_small ⟨n, by omega⟩).1
  simp only [] at hb
  obtain ⟨L, hL⟩ : ∃ L, Lib.bitLen n = L := ⟨_, rfl⟩
  rw [hL] at HL hb
  clear hL hs hd
  go_enter Try.func14, Try.ntmps14
  go_wp2_with (first | (go_at_call 17; refine (HL.out _).mono ?_; rintro e w' ⟨rfl, rfl⟩) | (go_at_call 16; refine (HP.out L (by omega)).mono ?_; rintro e w2 ⟨rfl, hw2⟩))
  go_end0
  exact ⟨rfl, hw2⟩

set_option maxRecDepth 100000 in
set_option maxHeartbeats 2000000 in
theorem insertion_nil (w : World) : Calls Try.prog 19 #[.slice none 0 0, .int .i64 0, .int .i64 0] w fun e w' => e = .returned (.tuple #[]) ∧ w' = w := by
  go_enter Try.func19, Try.ntmps19
  go_wp2_with fail
  go_loopw [6] (fun s wr => s = .int .i64 1 ∧ wr = w) (fun _ _ => 0)
  case atStart => exact ⟨by first | rfl | go_num, rfl⟩
  case round =>
    obtain ⟨rfl, rfl⟩ := hrel
    go_wp2_with fail
    go_end0
    exact ⟨rfl, rfl⟩

set_option maxRecDepth 100000 in
set_option maxHeartbeats 2000000 in
theorem pdq_nil (w : World) (L : Nat) : Calls Try.prog 16 #[.slice none 0 0, .int .i64 0, .int .i64 0, .int .i64 (L : Int)] w fun e w' => e = .returned (.tuple #[]) ∧ w' = w := by
  go_enter Try.func16, Try.ntmps16
  go_wp2_with fail
  go_loopw [1, 2] (fun s t wr => s = .int .i64 0 ∧ t = .int .i64 0 ∧ wr = w) (fun _ _ _ => 0)
  case atStart => exact ⟨rfl, rfl, rfl⟩
  case round =>
    obtain ⟨rfl, rfl, rfl⟩ := hrel
    go_wp2_with (go_at_call 19; refine (insertion_nil _).mono ?_; rintro e w1 ⟨rfl, rfl⟩)
    exact bodyPost_ret (v := .tuple #[]) (by simp [results, Try.results16, go_sem]) rfl ⟨rfl, rfl⟩

set_option maxRecDepth 100000 in
set_option maxHeartbeats 2000000 in
theorem sort_nil (w : World) : Calls Try.prog 14 #[.slice none 0 0] w fun e w' => e = .returned (.tuple #[]) ∧ w' = w := by
  have HL := Lib.hid (fun w => len_any 0 (by omega) w)
  have HP := Lib.hid (fun w L => pdq_nil w L)
  obtain ⟨L, hL⟩ : ∃ L, Lib.bitLen 0 = L := ⟨_, rfl⟩
  rw [hL] at HL
  have HL2 := Lib.hid (fun w => show Calls Try.prog 17 #[.int .u64 0] w fun e w' => e = .returned (.int .i64 (L : Int)) ∧ w' = w from HL.out w)
  clear hL HL
  go_enter Try.func14, Try.ntmps14
  go_wp2_with (first | (go_at_call 17; refine (HL2.out _).mono ?_; rintro e w' ⟨rfl, rfl⟩) | (go_at_call 16; refine (HP.out _ _).mono ?_; rintro e w2 ⟨rfl, rfl⟩))
  go_end0
  exact ⟨rfl, rfl⟩

theorem sorted_list {n : Nat} {d : Array Nat} (hd : d.size = n) (h : Sort.SortedIn ltN 0 n d) : d.toList.Pairwise (· ≤ ·) := by
  rw [List.pairwise_iff_getElem]
  intro i j hi hj hij
  have h1 := h i j (Nat.zero_le _) hij (by simpa [← hd] using hj)
  rw [getElem!_pos d i (by simpa using hi), getElem!_pos d j (by simpa using hj)] at h1
  simp only [ltN, decide_eq_false_iff_not, Nat.not_lt] at h1
  simpa using h1

theorem perm_list {n : Nat} {l : List Nat} {d : Array Nat} (hl : l.length = n) (h : Sort.PermIn 0 n l.toArray d) : d.size = n ∧ d.toList.Perm l := by
  have hd : d.size = n := by rw [h.1]; simpa using hl
  refine ⟨hd, ?_⟩
  have h2 := h.2.2
  have e1 : d.extract 0 n = d := by rw [← hd]; simp
  have e2 : l.toArray.extract 0 n = l.toArray := by rw [← hl]; simp
  rw [e1, e2] at h2
  simpa using h2

end Go.Proofs.Ytbkhojopiimbdaa
