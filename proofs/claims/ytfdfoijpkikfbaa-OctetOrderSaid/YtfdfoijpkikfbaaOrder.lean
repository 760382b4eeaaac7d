/-
  The walk of OctetOrder.
-/
import Derived.Test.YtfdfoijpkikfbaaHead
import Derived.Deep.RegionWith
import Derived.Deep.DeepCutAuto
namespace Go.Proofs.Ytfdfoijpkikfbaa
open Go.RowKit

theorem below_box {w w1 : World} {o : Obj} {k : Nat} (hb : Below ((w.alloc o).drewN k).heap.size ((w.alloc o).drewN k) w1) : Below w.heap.size w w1 :=
  have h1 : Below w.heap.size w ((w.alloc o).drewN k) := below_drewN ((Below.refl _ _).alloc (Nat.le_refl _) _) k
  h1.trans (hb.mono h1.size)

/-- PutText onto nothing, at a width that the text fits. -/
theorem putText_new (s : ByteArray) (n : Nat) (w : World) (hn : isT n = true) (hsz : s.size ≤ 140737488355328) (hq : s.size / 256 ^ n = 0) :
    Calls Try.prog 19 #[.slice none 0 0, .string s, .int .i64 (n : Int)] w fun e w' =>
      e = .returned (.tuple #[.slice (some ⟨w.heap.size, 0, none⟩) (n + s.size) (n + s.size), .int .i64 0]) ∧ Below w.heap.size w w' ∧ Row w' w.heap.size 5 (byt (txt s n)) (0, 0) := by
  have := putText_ok none [] 0 s n w Reads.nil hn (by rw [List.length_nil]; omega) hsz hq
  simpa only [List.nil_append, List.length_nil, Nat.zero_add] using this

theorem pre_at {w : World} {g : Nat} {l : List UInt8} {m : Nat × Nat} (h : Row w g 5 (byt l) m) (n c : Nat) (hn : n ≤ l.length) :
    (convert 29 9 (.slice (some ⟨g, 0, none⟩) n c)).run Try.prog w = .ok (.string ⟨(l.take n).toArray⟩) w := by
  have := run_text Try.underlying29 Try.underlying5 w _ _ c ((row_reads h).take n) _ Try.underlying9
  rwa [List.length_take, Nat.min_eq_left hn] at this

theorem size_box (w : World) (o : Obj) (k : Nat) : ((w.alloc o).drewN k).heap.size = w.heap.size + 1 := by simp

/-- Put onto nothing, at a width. -/
theorem put_new (n v : Nat) (x : Int) (hx : x = (v : Int)) (hn : isW n = true) (w : World) :
    Calls Try.prog 17 #[.slice none 0 0, .int .u64 x, .int .i64 (n : Int)] w fun e w' =>
      e = .returned (.slice (some ⟨w.heap.size, 0, none⟩) n n) ∧ Below w.heap.size w w' ∧ Row w' w.heap.size 5 (byt (be v n)) (0, 0) := by
  subst hx
  have := put_wide none [] 0 v n w Reads.nil (by decide) hn
  simpa using this

set_option maxHeartbeats 400000 in
theorem order_great (a b d : Int) (s t : ByteArray) (w : World) (hs : s.size ≤ 9223372036854775807) (ht : t.size ≤ 9223372036854775807) (hgr : 400 < s.size ∨ (s.size ≤ 400 ∧ 400 < t.size)) :
    Calls Try.prog 5 #[.agg #[.int .u64 a, .int .u64 b, .string s, .string t, .int .u8 d]] w fun e w' => e = .returned (.bool true) ∧ Below w.heap.size w w' := by
  rcases hgr with h | ⟨h1, h2⟩
  all_goals
    go_enter Try.func5, Try.ntmps5
    go_wp2
    go_quiet (fail)
    go_wp2_with fail
    refine (head_any _).mono ?_
    rintro e w1 ⟨rfl, hb⟩
    go_wp2
    go_ret
    exact ⟨rfl, below_box hb⟩

set_option maxRecDepth 100000 in
set_option maxHeartbeats 1000000 in
theorem order_1 (a b : Nat) (d : Int) (s t : ByteArray) (w : World) (hs : s.size ≤ 400) (ht : t.size ≤ 400) (hd : d % 4 = 0) (hd0 : 0 ≤ d) :
    Calls Try.prog 5 #[.agg #[.int .u64 a, .int .u64 b, .string s, .string t, .int .u8 d]] w fun e w' => e = .returned (.bool true) ∧ Below w.heap.size w w' := by
  have HPA := Lib.hid (put_new 1 (a % 256) ((a : Int) % 256) (by simp) rfl)
  have HPB := Lib.hid (put_new 1 (b % 256) ((b : Int) % 256) (by simp) rfl)
  have HO := Lib.hid (less_num (a % 256) (b % 256) 1 ((a : Int) % 256) ((b : Int) % 256) (by simp) (by simp) (by omega) (by omega))
  have HQ := Lib.hid (same_num (a % 256) (b % 256) 1 ((a : Int) % 256) ((b : Int) % 256) (by simp) (by simp) (by omega) (by omega))
  have HL := Lib.hid (show (((be (a % 256) 1).length : Int) != 1) = false by rw [be_length]; rfl)
  go_enter Try.func5, Try.ntmps5
  go_wp2
  go_quiet (fail)
  go_upto_region 8 with fail
  go_cut [8, 9] (fun x y wc => x = .string ⟨(be (a % 256) 1).toArray⟩ ∧ y = .string ⟨(be (b % 256) 1).toArray⟩ ∧ Below w.heap.size w wc)
  case first =>
    have tok1 : True := trivial
    go_region_with (first
      | (go_at_call 17; have _t := tok1; refine (HPA.out _).mono ?_; clear _t tok1; rintro e w1 ⟨rfl, hb1, hr1⟩; rw [size_box] at hr1; have hc1 := text_at hr1 1 1 (by rw [be_length]))
      | (go_at_call 17; refine (HPB.out _).mono ?_; rintro e w2 ⟨rfl, hb2, hr2⟩; have hc2 := text_at hr2 1 1 (by rw [be_length]); have hc3 := text_at (hr1.below hb2 hr1.lt) 1 1 (by rw [be_length])))
    all_goals go_wp2_with fail
    all_goals go_meet
    all_goals exact ⟨rfl, rfl, (below_box hb1).trans (hb2.mono (below_box hb1).size)⟩
  case rest =>
    obtain ⟨rfl, rfl, hb⟩ := hcut
    have ho := HO.out
    have hq := HQ.out
    have hl := HL.out
    have HB := Lib.hid hb
    clear hb
    go_wp2_with fail
    clear ho hq hl
    refine (putText_new s 2 wc rfl (by omega) (by omega)).mono ?_
    rintro e w3 ⟨rfl, hb3, hr3⟩
    have HB3 := Lib.hid hb3
    have HR3 := Lib.hid hr3
    clear hb3 hr3
    go_wp2_with fail
    refine (putText_new t 2 w3 rfl (by omega) (by omega)).mono ?_
    rintro e w4 ⟨rfl, hb4, hr4⟩
    have hcu := fun k => text_at (((HR3.out).below hb4 HR3.out.lt).drewN k) (2 + s.size) (2 + s.size) (txt_length s 2).symm
    have HV := Lib.hid (fun k => pre_at (hr4.drewN k) (2 + s.size) (2 + t.size))
    have HALL := Lib.hid ((HB.out.trans (HB3.out.mono HB.out.size)).trans (hb4.mono (HB.out.trans (HB3.out.mono HB.out.size)).size))
    clear hb4 hr4
    rcases Nat.lt_or_ge t.size s.size with hst | hst
    · have hg : decide (s.size ≤ t.size) = false := by simp; omega
      have hg2 : decide (2 + s.size ≤ 2 + t.size) = false := by simp; omega
      have HX := Lib.hid (size_differs s t hst)
      go_wp2_with fail
      go_quiet (fail)
      have hx := HX.out
      go_wp2_with fail
      clear hx
      refine (head_any _).mono ?_
      rintro e w5 ⟨rfl, hb5⟩
      go_wp2
      go_ret
      exact ⟨rfl, (below_drewN HALL.out _).trans (hb5.mono HALL.out.size)⟩
    · have hcv := fun k => HV.out k (by rw [txt_length]; omega)
      have hg : decide ((s.size : Int) ≤ (t.size : Int)) = true := by simp; omega
      have HX := Lib.hid (txt_begins s t hs ht)
      go_wp2_with fail
      go_quiet (fail)
      clear hcu hcv
      have hx := HX.out
      go_wp2_with fail
      clear hx
      refine (head_any _).mono ?_
      rintro e w5 ⟨rfl, hb5⟩
      go_wp2
      go_ret
      exact ⟨rfl, (below_drewN HALL.out _).trans (hb5.mono HALL.out.size)⟩

set_option maxRecDepth 100000 in
set_option maxHeartbeats 1000000 in
theorem order_2 (a b : Nat) (d : Int) (s t : ByteArray) (w : World) (hs : s.size ≤ 400) (ht : t.size ≤ 400) (hd : d % 4 = 1) (hd0 : 0 ≤ d) :
    Calls Try.prog 5 #[.agg #[.int .u64 a, .int .u64 b, .string s, .string t, .int .u8 d]] w fun e w' => e = .returned (.bool true) ∧ Below w.heap.size w w' := by
  have HPA := Lib.hid (put_new 2 (a % 65536) ((a : Int) % 65536) (by simp) rfl)
  have HPB := Lib.hid (put_new 2 (b % 65536) ((b : Int) % 65536) (by simp) rfl)
  have HO := Lib.hid (less_num (a % 65536) (b % 65536) 2 ((a : Int) % 65536) ((b : Int) % 65536) (by simp) (by simp) (by omega) (by omega))
  have HQ := Lib.hid (same_num (a % 65536) (b % 65536) 2 ((a : Int) % 65536) ((b : Int) % 65536) (by simp) (by simp) (by omega) (by omega))
  have HL := Lib.hid (show (((be (a % 65536) 2).length : Int) != 2) = false by rw [be_length]; rfl)
  go_enter Try.func5, Try.ntmps5
  go_wp2
  go_quiet (fail)
  go_upto_region 8 with fail
  go_cut [8, 9] (fun x y wc => x = .string ⟨(be (a % 65536) 2).toArray⟩ ∧ y = .string ⟨(be (b % 65536) 2).toArray⟩ ∧ Below w.heap.size w wc)
  case first =>
    have tok1 : True := trivial
    go_region_with (first
      | (go_at_call 17; have _t := tok1; refine (HPA.out _).mono ?_; clear _t tok1; rintro e w1 ⟨rfl, hb1, hr1⟩; rw [size_box] at hr1; have hc1 := text_at hr1 2 2 (by rw [be_length]))
      | (go_at_call 17; refine (HPB.out _).mono ?_; rintro e w2 ⟨rfl, hb2, hr2⟩; have hc2 := text_at hr2 2 2 (by rw [be_length]); have hc3 := text_at (hr1.below hb2 hr1.lt) 2 2 (by rw [be_length])))
    all_goals go_wp2_with fail
    all_goals go_meet
    all_goals exact ⟨rfl, rfl, (below_box hb1).trans (hb2.mono (below_box hb1).size)⟩
  case rest =>
    obtain ⟨rfl, rfl, hb⟩ := hcut
    have ho := HO.out
    have hq := HQ.out
    have hl := HL.out
    have HB := Lib.hid hb
    clear hb
    go_wp2_with fail
    clear ho hq hl
    refine (putText_new s 2 wc rfl (by omega) (by omega)).mono ?_
    rintro e w3 ⟨rfl, hb3, hr3⟩
    have HB3 := Lib.hid hb3
    have HR3 := Lib.hid hr3
    clear hb3 hr3
    go_wp2_with fail
    refine (putText_new t 2 w3 rfl (by omega) (by omega)).mono ?_
    rintro e w4 ⟨rfl, hb4, hr4⟩
    have hcu := fun k => text_at (((HR3.out).below hb4 HR3.out.lt).drewN k) (2 + s.size) (2 + s.size) (txt_length s 2).symm
    have HV := Lib.hid (fun k => pre_at (hr4.drewN k) (2 + s.size) (2 + t.size))
    have HALL := Lib.hid ((HB.out.trans (HB3.out.mono HB.out.size)).trans (hb4.mono (HB.out.trans (HB3.out.mono HB.out.size)).size))
    clear hb4 hr4
    rcases Nat.lt_or_ge t.size s.size with hst | hst
    · have hg : decide (s.size ≤ t.size) = false := by simp; omega
      have hg2 : decide (2 + s.size ≤ 2 + t.size) = false := by simp; omega
      have HX := Lib.hid (size_differs s t hst)
      go_wp2_with fail
      go_quiet (fail)
      have hx := HX.out
      go_wp2_with fail
      clear hx
      refine (head_any _).mono ?_
      rintro e w5 ⟨rfl, hb5⟩
      go_wp2
      go_ret
      exact ⟨rfl, (below_drewN HALL.out _).trans (hb5.mono HALL.out.size)⟩
    · have hcv := fun k => HV.out k (by rw [txt_length]; omega)
      have hg : decide ((s.size : Int) ≤ (t.size : Int)) = true := by simp; omega
      have HX := Lib.hid (txt_begins s t hs ht)
      go_wp2_with fail
      go_quiet (fail)
      clear hcu hcv
      have hx := HX.out
      go_wp2_with fail
      clear hx
      refine (head_any _).mono ?_
      rintro e w5 ⟨rfl, hb5⟩
      go_wp2
      go_ret
      exact ⟨rfl, (below_drewN HALL.out _).trans (hb5.mono HALL.out.size)⟩

set_option maxRecDepth 100000 in
set_option maxHeartbeats 1000000 in
theorem order_4 (a b : Nat) (d : Int) (s t : ByteArray) (w : World) (hs : s.size ≤ 400) (ht : t.size ≤ 400) (hd : d % 4 = 2) (hd0 : 0 ≤ d) :
    Calls Try.prog 5 #[.agg #[.int .u64 a, .int .u64 b, .string s, .string t, .int .u8 d]] w fun e w' => e = .returned (.bool true) ∧ Below w.heap.size w w' := by
  have HPA := Lib.hid (put_new 4 (a % 4294967296) ((a : Int) % 4294967296) (by simp) rfl)
  have HPB := Lib.hid (put_new 4 (b % 4294967296) ((b : Int) % 4294967296) (by simp) rfl)
  have HO := Lib.hid (less_num (a % 4294967296) (b % 4294967296) 4 ((a : Int) % 4294967296) ((b : Int) % 4294967296) (by simp) (by simp) (by omega) (by omega))
  have HQ := Lib.hid (same_num (a % 4294967296) (b % 4294967296) 4 ((a : Int) % 4294967296) ((b : Int) % 4294967296) (by simp) (by simp) (by omega) (by omega))
  have HL := Lib.hid (show (((be (a % 4294967296) 4).length : Int) != 4) = false by rw [be_length]; rfl)
  go_enter Try.func5, Try.ntmps5
  go_wp2
  go_quiet (fail)
  go_upto_region 8 with fail
  go_cut [8, 9] (fun x y wc => x = .string ⟨(be (a % 4294967296) 4).toArray⟩ ∧ y = .string ⟨(be (b % 4294967296) 4).toArray⟩ ∧ Below w.heap.size w wc)
  case first =>
    have tok1 : True := trivial
    go_region_with (first
      | (go_at_call 17; have _t := tok1; refine (HPA.out _).mono ?_; clear _t tok1; rintro e w1 ⟨rfl, hb1, hr1⟩; rw [size_box] at hr1; have hc1 := text_at hr1 4 4 (by rw [be_length]))
      | (go_at_call 17; refine (HPB.out _).mono ?_; rintro e w2 ⟨rfl, hb2, hr2⟩; have hc2 := text_at hr2 4 4 (by rw [be_length]); have hc3 := text_at (hr1.below hb2 hr1.lt) 4 4 (by rw [be_length])))
    all_goals go_wp2_with fail
    all_goals go_meet
    all_goals exact ⟨rfl, rfl, (below_box hb1).trans (hb2.mono (below_box hb1).size)⟩
  case rest =>
    obtain ⟨rfl, rfl, hb⟩ := hcut
    have ho := HO.out
    have hq := HQ.out
    have hl := HL.out
    have HB := Lib.hid hb
    clear hb
    go_wp2_with fail
    clear ho hq hl
    refine (putText_new s 2 wc rfl (by omega) (by omega)).mono ?_
    rintro e w3 ⟨rfl, hb3, hr3⟩
    have HB3 := Lib.hid hb3
    have HR3 := Lib.hid hr3
    clear hb3 hr3
    go_wp2_with fail
    refine (putText_new t 2 w3 rfl (by omega) (by omega)).mono ?_
    rintro e w4 ⟨rfl, hb4, hr4⟩
    have hcu := fun k => text_at (((HR3.out).below hb4 HR3.out.lt).drewN k) (2 + s.size) (2 + s.size) (txt_length s 2).symm
    have HV := Lib.hid (fun k => pre_at (hr4.drewN k) (2 + s.size) (2 + t.size))
    have HALL := Lib.hid ((HB.out.trans (HB3.out.mono HB.out.size)).trans (hb4.mono (HB.out.trans (HB3.out.mono HB.out.size)).size))
    clear hb4 hr4
    rcases Nat.lt_or_ge t.size s.size with hst | hst
    · have hg : decide (s.size ≤ t.size) = false := by simp; omega
      have hg2 : decide (2 + s.size ≤ 2 + t.size) = false := by simp; omega
      have HX := Lib.hid (size_differs s t hst)
      go_wp2_with fail
      go_quiet (fail)
      have hx := HX.out
      go_wp2_with fail
      clear hx
      refine (head_any _).mono ?_
      rintro e w5 ⟨rfl, hb5⟩
      go_wp2
      go_ret
      exact ⟨rfl, (below_drewN HALL.out _).trans (hb5.mono HALL.out.size)⟩
    · have hcv := fun k => HV.out k (by rw [txt_length]; omega)
      have hg : decide ((s.size : Int) ≤ (t.size : Int)) = true := by simp; omega
      have HX := Lib.hid (txt_begins s t hs ht)
      go_wp2_with fail
      go_quiet (fail)
      clear hcu hcv
      have hx := HX.out
      go_wp2_with fail
      clear hx
      refine (head_any _).mono ?_
      rintro e w5 ⟨rfl, hb5⟩
      go_wp2
      go_ret
      exact ⟨rfl, (below_drewN HALL.out _).trans (hb5.mono HALL.out.size)⟩

set_option maxRecDepth 100000 in
set_option maxHeartbeats 1000000 in
theorem order_8 (a b : Nat) (d : Int) (s t : ByteArray) (w : World) (hs : s.size ≤ 400) (ht : t.size ≤ 400) (hd : d % 4 = 3) (hd0 : 0 ≤ d) (ha : a < 18446744073709551616) (hb64 : b < 18446744073709551616) :
    Calls Try.prog 5 #[.agg #[.int .u64 a, .int .u64 b, .string s, .string t, .int .u8 d]] w fun e w' => e = .returned (.bool true) ∧ Below w.heap.size w w' := by
  have HPA := Lib.hid (put_new 8 (a) ((a : Int)) rfl rfl)
  have HPB := Lib.hid (put_new 8 (b) ((b : Int)) rfl rfl)
  have HO := Lib.hid (less_num (a) (b) 8 ((a : Int)) ((b : Int)) rfl rfl (by omega) (by omega))
  have HQ := Lib.hid (same_num (a) (b) 8 ((a : Int)) ((b : Int)) rfl rfl (by omega) (by omega))
  clear ha hb64
  have HL := Lib.hid (show (((be (a) 8).length : Int) != 8) = false by rw [be_length]; rfl)
  go_enter Try.func5, Try.ntmps5
  go_wp2
  go_quiet (fail)
  go_upto_region 8 with fail
  go_cut [8, 9] (fun x y wc => x = .string ⟨(be (a) 8).toArray⟩ ∧ y = .string ⟨(be (b) 8).toArray⟩ ∧ Below w.heap.size w wc)
  case first =>
    have tok1 : True := trivial
    go_region_with (first
      | (go_at_call 17; have _t := tok1; refine (HPA.out _).mono ?_; clear _t tok1; rintro e w1 ⟨rfl, hb1, hr1⟩; rw [size_box] at hr1; have hc1 := text_at hr1 8 8 (by rw [be_length]))
      | (go_at_call 17; refine (HPB.out _).mono ?_; rintro e w2 ⟨rfl, hb2, hr2⟩; have hc2 := text_at hr2 8 8 (by rw [be_length]); have hc3 := text_at (hr1.below hb2 hr1.lt) 8 8 (by rw [be_length])))
    all_goals go_wp2_with fail
    all_goals go_meet
    all_goals exact ⟨rfl, rfl, (below_box hb1).trans (hb2.mono (below_box hb1).size)⟩
  case rest =>
    obtain ⟨rfl, rfl, hb⟩ := hcut
    have ho := HO.out
    have hq := HQ.out
    have hl := HL.out
    have HB := Lib.hid hb
    clear hb
    go_wp2_with fail
    clear ho hq hl
    refine (putText_new s 2 wc rfl (by omega) (by omega)).mono ?_
    rintro e w3 ⟨rfl, hb3, hr3⟩
    have HB3 := Lib.hid hb3
    have HR3 := Lib.hid hr3
    clear hb3 hr3
    go_wp2_with fail
    refine (putText_new t 2 w3 rfl (by omega) (by omega)).mono ?_
    rintro e w4 ⟨rfl, hb4, hr4⟩
    have hcu := fun k => text_at (((HR3.out).below hb4 HR3.out.lt).drewN k) (2 + s.size) (2 + s.size) (txt_length s 2).symm
    have HV := Lib.hid (fun k => pre_at (hr4.drewN k) (2 + s.size) (2 + t.size))
    have HALL := Lib.hid ((HB.out.trans (HB3.out.mono HB.out.size)).trans (hb4.mono (HB.out.trans (HB3.out.mono HB.out.size)).size))
    clear hb4 hr4
    rcases Nat.lt_or_ge t.size s.size with hst | hst
    · have hg : decide (s.size ≤ t.size) = false := by simp; omega
      have hg2 : decide (2 + s.size ≤ 2 + t.size) = false := by simp; omega
      have HX := Lib.hid (size_differs s t hst)
      go_wp2_with fail
      go_quiet (fail)
      have hx := HX.out
      go_wp2_with fail
      clear hx
      refine (head_any _).mono ?_
      rintro e w5 ⟨rfl, hb5⟩
      go_wp2
      go_ret
      exact ⟨rfl, (below_drewN HALL.out _).trans (hb5.mono HALL.out.size)⟩
    · have hcv := fun k => HV.out k (by rw [txt_length]; omega)
      have hg : decide ((s.size : Int) ≤ (t.size : Int)) = true := by simp; omega
      have HX := Lib.hid (txt_begins s t hs ht)
      go_wp2_with fail
      go_quiet (fail)
      clear hcu hcv
      have hx := HX.out
      go_wp2_with fail
      clear hx
      refine (head_any _).mono ?_
      rintro e w5 ⟨rfl, hb5⟩
      go_wp2
      go_ret
      exact ⟨rfl, (below_drewN HALL.out _).trans (hb5.mono HALL.out.size)⟩

end Go.Proofs.Ytfdfoijpkikfbaa
