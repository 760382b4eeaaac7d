/-
  The walks over package octet, part G: Take and Text.
-/
import Derived.Test.YtbganaaiaokfmaaWalksF
namespace Go.Proofs.Ytbganaaiaokfmaa
open Go.RowKit

/-- A result that is a slice of new bytes. -/
def Gives (g : Nat) (w : World) (l : List UInt8) (st : Option (List UInt8)) (e : Ending) (w' : World) : Prop :=
  ∃ A c, e = .returned (.slice A l.length c) ∧ Reads 5 w' A l ∧ Now w g st w'

theorem row_reads {w : World} {g : Nat} {l : List UInt8} {m : Nat × Nat} (h : Row w g 5 (byt l) m) : Reads 5 w (some ⟨g, 0, none⟩) l :=
  fun _ => ⟨g, 0, _, _, rfl, h, fun j _ => by simp⟩

theorem gives_mk {g : Nat} {w w1 w2 : World} {l : List UInt8} {st : Option (List UInt8)} {o : Obj} (hg : (w.alloc o).grownBy w1 (some g)) (hr : Rdr w1 g st) (hb : Below w1.heap.size w1 w2) (hrow : Row w2 w1.heap.size 5 (byt l) (0, 0)) (c n : Nat) (hn : n = l.length) (k : Nat) (hk : k = w1.heap.size) :
    Gives g w l st (.returned (.slice (some ⟨k, 0, none⟩) n c)) w2 := by
  subst hn; subst hk
  exact ⟨_, _, rfl, row_reads hrow, now_box (only_trans hg (only_below hb _)) (hr.below hb)⟩

set_option maxRecDepth 100000 in
set_option maxHeartbeats 400000 in
theorem take_none (g : Nat) (n : Int) (w : World) (hr : Rdr w g none) :
    Calls Try.prog 41 #[.pointer (some ⟨g, 0, none⟩), .int .i64 n] w (Gives g w [] none) := by
  have hmf : ∀ (fn : Fn) (first cap : Array Value) (w : World), (Instr.makeFunc fn first cap).run Try.prog w = .ok (.func fn first cap) w := fun _ _ _ _ => rfl
  obtain ⟨v, hv⟩ := hr
  have HV := Lib.hid (hv.alloc (.cells #[.int .i64 n] 3))
  clear hv
  go_enter Try.func41, Try.ntmps41
  go_wp2_with fail
  refine (claim_none g v _ _ HV.out).mono ?_
  rintro e w' ⟨rfl, rfl⟩
  go_wp2_with fail
  refine (grown_any none [] 0 0 _ Reads.nil (by decide)).mono ?_
  rintro e w' ⟨rfl, hb, hrow⟩
  go_wp2
  go_ret
  exact gives_mk (l := []) (st := none) (only_refl _ _) ⟨v, HV.out⟩ hb hrow _ _ rfl _ (by simp)

set_option maxRecDepth 100000 in
set_option maxHeartbeats 400000 in
theorem take_no (g : Nat) (l : List UInt8) (n : Int) (w : World) (hr : Rdr w g (some l)) (hno : n < 0 ∨ (l.length : Int) < n) :
    Calls Try.prog 41 #[.pointer (some ⟨g, 0, none⟩), .int .i64 n] w (Gives g w [] none) := by
  have hmf : ∀ (fn : Fn) (first cap : Array Value) (w : World), (Instr.makeFunc fn first cap).run Try.prog w = .ok (.func fn first cap) w := fun _ _ _ _ => rfl
  obtain ⟨h, off, c, hlc, hc, hrow, hrd⟩ := Rdr.box (.cells #[.int .i64 n] 3) hr
  have HC := Lib.hid (claim_fail_take w.heap.size g h off l.length c n true (w.alloc (.cells #[.int .i64 n] 3)) hrow (by omega) (by simpa using hno) (need_take _ _ _ _ n _ (box_cell _ _ _ _)))
  clear hrow hrd hr hno
  go_enter Try.func41, Try.ntmps41
  go_wp2_with fail
  refine HC.out.mono ?_
  rintro e w' ⟨rfl, hg, hr'⟩
  go_wp2_with fail
  refine (grown_any none [] 0 0 _ Reads.nil (by decide)).mono ?_
  rintro e w' ⟨rfl, hb, hrow⟩
  go_wp2
  go_ret
  exact gives_mk (l := []) hg hr' hb hrow _ _ rfl _ rfl

set_option maxRecDepth 100000 in
set_option maxHeartbeats 400000 in
theorem take_yes (g : Nat) (l : List UInt8) (n : Nat) (w : World) (hr : Rdr w g (some l)) (hl : n ≤ l.length) :
    Calls Try.prog 41 #[.pointer (some ⟨g, 0, none⟩), .int .i64 (n : Int)] w (Gives g w (l.take n) (some (l.drop n))) := by
  have hmf : ∀ (fn : Fn) (first cap : Array Value) (w : World), (Instr.makeFunc fn first cap).run Try.prog w = .ok (.func fn first cap) w := fun _ _ _ _ => rfl
  obtain ⟨h, off, c, hlc, hc, hrow, hrd⟩ := Rdr.box (.cells #[.int .i64 (n : Int)] 3) hr
  have HC := Lib.hid (claim_ok_take w.heap.size g h off c n l (w.alloc (.cells #[.int .i64 (n : Int)] 3)) hrow hrd hc hlc hl (need_take _ _ _ _ n _ (box_cell _ _ _ _)))
  have hlen : (l.take n).length = n := by rw [List.length_take]; omega
  have HLEN := Lib.hid hlen
  clear hrow hrd hr hlen
  go_enter Try.func41, Try.ntmps41
  go_wp2_with fail
  refine HC.out.mono ?_
  rintro e w' ⟨rfl, hg, hr', hrd'⟩
  have hgr := grown_any (some ⟨h, off, none⟩) (l.take n) c 0 w' hrd' (by rw [HLEN.out]; omega)
  rw [HLEN.out] at hgr
  have HGR := Lib.hid hgr
  clear hgr hrd'
  go_wp2_with fail
  refine HGR.out.mono ?_
  rintro e w2 ⟨rfl, hb, hrow⟩
  simp only [List.replicate_zero, List.append_nil] at hrow
  go_wp2
  go_ret
  exact gives_mk hg hr' hb hrow _ _ HLEN.out.symm _ rfl

theorem take_any (g : Nat) (st : Option (List UInt8)) (n : Int) (w : World) (hr : Rdr w g st) :
    Calls Try.prog 41 #[.pointer (some ⟨g, 0, none⟩), .int .i64 n] w (Gives g w (rtake st n).1 (rtake st n).2) := by
  match st, hr with
  | none, hr => exact take_none g n w hr
  | some l, hr =>
    by_cases h : 0 ≤ n ∧ n ≤ (l.length : Int)
    · obtain ⟨h0, hl⟩ := h
      obtain ⟨k, rfl⟩ := Int.eq_ofNat_of_zero_le h0
      have := take_yes g l k w hr (by omega)
      simpa [rtake, hl] using this
    · have := take_no g l n w hr (by omega)
      rw [show rtake (some l) n = ([], none) by unfold rtake; exact if_neg h]
      exact this

set_option maxRecDepth 100000 in
set_option maxHeartbeats 400000 in
theorem text_none (g : Nat) (n m : Int) (w : World) (hr : Rdr w g none) :
    Calls Try.prog 43 #[.pointer (some ⟨g, 0, none⟩), .int .i64 n, .int .i64 m] w fun e w' => e = .returned (.string ⟨#[]⟩) ∧ Now w g none w' := by
  have hmf : ∀ (fn : Fn) (first cap : Array Value) (w : World), (Instr.makeFunc fn first cap).run Try.prog w = .ok (.func fn first cap) w := fun _ _ _ _ => rfl
  obtain ⟨v, hv⟩ := hr
  have HV := Lib.hid ((hv.alloc (.cells #[.int .i64 n] 3)).alloc (.cells #[.int .i64 m] 3))
  have HN := Lib.hid (show Now w g none ((w.alloc (.cells #[.int .i64 n] 3)).alloc (.cells #[.int .i64 m] 3)) from ⟨only_below (((Below.refl _ _).alloc (Nat.le_refl _) _).alloc (by simp) _) _, v, (hv.alloc _).alloc _⟩)
  clear hv
  go_enter Try.func43, Try.ntmps43
  go_wp2_with fail
  refine (claim_none g v _ _ HV.out).mono ?_
  rintro e w' ⟨rfl, rfl⟩
  go_wp2_with fail
  refine (bad_any g false v _ HV.out).mono ?_
  rintro e w' ⟨rfl, rfl⟩
  go_wp2
  go_ret
  exact ⟨rfl, HN.out⟩

/-- The world behind the two boxes of Text's arguments. -/
theorem boxes (w : World) (n m : Int) (g : Nat) (st : Option (List UInt8)) (hr : Rdr w g st) :
    Rdr ((w.alloc (.cells #[.int .i64 n] 3)).alloc (.cells #[.int .i64 m] 3)) g st ∧ g < w.heap.size ∧
    Row ((w.alloc (.cells #[.int .i64 n] 3)).alloc (.cells #[.int .i64 m] 3)) w.heap.size 3 [.int .i64 n] (0, 0) ∧
    Row ((w.alloc (.cells #[.int .i64 n] 3)).alloc (.cells #[.int .i64 m] 3)) (w.heap.size + 1) 3 [.int .i64 m] (0, 0) := by
  refine ⟨Rdr.box _ (Rdr.box _ hr), hr.lt, (Row.new w _ [.int .i64 n] _).alloc _, ?_⟩
  have := Row.new (w.alloc (.cells #[.int .i64 n] 3)) 3 [.int .i64 m] (0, 0)
  simpa using this

theorem now_boxes {w w' : World} {g : Nat} {o o' : Obj} {st : Option (List UInt8)} (hg : ((w.alloc o).alloc o').grownBy w' (some g)) (hr : Rdr w' g st) : Now w g st w' :=
  ⟨only_trans (only_below (((Below.refl _ _).alloc (Nat.le_refl _) _).alloc (by simp) _) _) hg, hr⟩

set_option maxRecDepth 100000 in
set_option maxHeartbeats 400000 in
theorem text_no (g : Nat) (l : List UInt8) (n m : Int) (w : World) (hr : Rdr w g (some l)) (hno : ¬ (isT n = true ∧ n ≤ (l.length : Int) ∧ 0 ≤ m ∧ (val (l.take n.toNat) : Int) ≤ m ∧ n + (val (l.take n.toNat) : Int) ≤ (l.length : Int))) (hm : m ≤ 9223372036854775807) :
    Calls Try.prog 43 #[.pointer (some ⟨g, 0, none⟩), .int .i64 n, .int .i64 m] w fun e w' => e = .returned (.string ⟨#[]⟩) ∧ Now w g none w' := by
  have hmf : ∀ (fn : Fn) (first cap : Array Value) (w : World), (Instr.makeFunc fn first cap).run Try.prog w = .ok (.func fn first cap) w := fun _ _ _ _ => rfl
  obtain ⟨⟨h, off, c, hlc, hc, hrow, hrd⟩, hlt, hb0, hb1⟩ := boxes w n m g _ hr
  have hc0 : ((w.alloc (.cells #[.int .i64 n] 3)).alloc (.cells #[.int .i64 m] 3)).cell? ⟨w.heap.size, 0, none⟩ = some (.int .i64 n) := by rw [hb0.cell]; rfl
  have hc1 : ((w.alloc (.cells #[.int .i64 n] 3)).alloc (.cells #[.int .i64 m] 3)).cell? ⟨w.heap.size + 1, 0, none⟩ = some (.int .i64 m) := by rw [hb1.cell]; rfl
  have hclaim : Calls Try.prog 54 #[.pointer (some ⟨g, 0, none⟩), .func (.func 57) #[] #[.pointer (some ⟨w.heap.size, 0, none⟩), .pointer (some ⟨w.heap.size + 1, 0, none⟩)]] ((w.alloc (.cells #[.int .i64 n] 3)).alloc (.cells #[.int .i64 m] 3))
      fun e w' => e = .returned (.slice none 0 0) ∧ ((w.alloc (.cells #[.int .i64 n] 3)).alloc (.cells #[.int .i64 m] 3)).grownBy w' (some g) ∧ Rdr w' g none := by
    by_cases ht : isT n = true ∧ n ≤ (l.length : Int)
    · obtain ⟨ht, hl⟩ := ht
      obtain ⟨k, rfl⟩ := Int.eq_ofNat_of_zero_le (show 0 ≤ n by have := isT_cases ht; omega)
      rw [Int.toNat_natCast] at hno
      by_cases hv : 0 ≤ m ∧ (val (l.take k) : Int) ≤ m
      · refine claim_fail_text _ _ g h off l.length c ((k + val (l.take k) : Nat) : Int) true _ hrow (by omega) (.inr (.inr ⟨rfl, ?_⟩)) (need_text_ok _ l c _ _ k m _ hrd hlc hc0 hc1 ht (by omega) hv.1 hm hv.2)
        have : ¬ ((k : Int) + (val (l.take k) : Int) ≤ (l.length : Int)) := fun hh => hno ⟨ht, hl, hv.1, hv.2, hh⟩
        omega
      · exact claim_fail_text _ _ g h off l.length c 0 false _ hrow (by omega) (.inl rfl) (need_text_long _ l c _ _ k m _ hrd hlc hc0 hc1 ht (by omega) (by omega))
    · refine claim_fail_text _ _ g h off l.length c 0 false _ hrow (by omega) (.inl rfl) (need_text_no _ _ c _ _ n _ hc0 ?_)
      cases hh : isT n with
      | false => exact .inl rfl
      | true => exact .inr ⟨rfl, by have : ¬ (n ≤ (l.length : Int)) := fun x => ht ⟨hh, x⟩; omega⟩
  have HC := Lib.hid hclaim
  clear hclaim hrow hrd hr hno hb0 hb1 hc0 hc1
  go_enter Try.func43, Try.ntmps43
  go_wp2_with fail
  refine HC.out.mono ?_
  rintro e w' ⟨rfl, hg, v, hv⟩
  have HV := Lib.hid hv
  clear hv
  go_wp2_with fail
  refine (bad_any g false v _ HV.out).mono ?_
  rintro e w' ⟨rfl, rfl⟩
  go_wp2
  go_ret
  exact ⟨rfl, now_boxes (st := none) hg ⟨v, HV.out⟩⟩

set_option maxRecDepth 100000 in
set_option maxHeartbeats 400000 in
theorem text_yes (g : Nat) (l : List UInt8) (n : Nat) (m : Int) (w : World) (hr : Rdr w g (some l)) (ht : isT n = true) (hl : n ≤ l.length) (hm0 : 0 ≤ m) (hm : m ≤ 9223372036854775807) (hv : (val (l.take n) : Int) ≤ m) (hk : n + val (l.take n) ≤ l.length) :
    Calls Try.prog 43 #[.pointer (some ⟨g, 0, none⟩), .int .i64 (n : Int), .int .i64 m] w fun e w' => e = .returned (.string ⟨((l.drop n).take (val (l.take n))).toArray⟩) ∧ Now w g (some (l.drop (n + val (l.take n)))) w' := by
  have hmf : ∀ (fn : Fn) (first cap : Array Value) (w : World), (Instr.makeFunc fn first cap).run Try.prog w = .ok (.func fn first cap) w := fun _ _ _ _ => rfl
  obtain ⟨⟨h, off, c, hlc, hc, hrow, hrd⟩, hlt, hb0, hb1⟩ := boxes w n m g _ hr
  have hc0 : ((w.alloc (.cells #[.int .i64 (n : Int)] 3)).alloc (.cells #[.int .i64 m] 3)).cell? ⟨w.heap.size, 0, none⟩ = some (.int .i64 n) := by rw [hb0.cell]; rfl
  have hc1 : ((w.alloc (.cells #[.int .i64 (n : Int)] 3)).alloc (.cells #[.int .i64 m] 3)).cell? ⟨w.heap.size + 1, 0, none⟩ = some (.int .i64 m) := by rw [hb1.cell]; rfl
  have HC := Lib.hid (claim_ok_text _ _ g h off c (n + val (l.take n)) l _ hrow hrd hc hlc hk (need_text_ok _ l c _ _ n m _ hrd hlc hc0 hc1 ht hl hm0 hm hv))
  have hb : 1 ≤ n ∧ n ≤ 4 := by have := isT_cases ht; omega
  have HB0 := Lib.hid hb0
  have HK := Lib.hid hk
  generalize hs : val (l.take n) = sz at *
  have HS := Lib.hid hs
  have hk2 : n + sz ≤ c := by omega
  obtain ⟨hn1, hn4⟩ := hb
  clear hrow hrd hr hb0 hb1 hc0 hc1 hs hk hv
  go_enter Try.func43, Try.ntmps43
  go_wp2_with fail
  refine HC.out.mono ?_
  rintro e w' ⟨rfl, hg, ⟨h', off', c', hlc', hc', hrow', hrd'⟩, hrd2⟩
  have hb0' := HB0.out.grown hg (by intro e; injection e; omega)
  have hcell : w'.cell? ⟨w.heap.size, 0, none⟩ = some (.int .i64 (n : Int)) := by rw [hb0'.cell]; rfl
  have HN := Lib.hid (now_boxes (st := some (l.drop (n + sz))) hg ⟨h', off', c', hlc', hc', hrow', hrd'⟩)
  have hlen : ((l.drop n).take sz).length = sz := by rw [List.length_take, List.length_drop]; have := HK.out; omega
  have hcut := hrd2.drop n c (by rw [List.length_take]; omega)
  rw [List.drop_take, show n + sz - n = sz by omega] at hcut
  have hconv := fun cp => run_text Try.underlying58 Try.underlying5 w' _ _ cp hcut 9 Try.underlying9
  simp only [hlen] at hconv
  have HROW := Lib.hid hrow'
  clear hb0' hlen hcut hrd2 hrow' hrd' hg
  rcases Nat.lt_or_ge n c with hnc | hnc
  · simp only [if_neg (show ¬ c = n by omega), Option.map_some, Addr.add_lit] at hconv
    go_wp2_with fail
    refine (bad_any g true _ _ HROW.out).mono ?_
    rintro e w' ⟨rfl, rfl⟩
    go_wp2
    go_ret
    exact ⟨rfl, HN.out⟩
  · simp only [if_pos (show c = n by omega)] at hconv
    obtain rfl : sz = 0 := by omega
    go_wp2_with fail
    refine (bad_any g true _ _ HROW.out).mono ?_
    rintro e w' ⟨rfl, rfl⟩
    go_wp2
    go_ret
    exact ⟨rfl, HN.out⟩

theorem text_any (g : Nat) (st : Option (List UInt8)) (n m : Int) (w : World) (hr : Rdr w g st) (hm : m ≤ 9223372036854775807) :
    Calls Try.prog 43 #[.pointer (some ⟨g, 0, none⟩), .int .i64 n, .int .i64 m] w fun e w' => e = .returned (.string ⟨(rtext st n m).1.toArray⟩) ∧ Now w g (rtext st n m).2 w' := by
  match st, hr with
  | none, hr => exact text_none g n m w hr
  | some l, hr =>
    by_cases h : isT n = true ∧ n ≤ (l.length : Int) ∧ 0 ≤ m ∧ (val (l.take n.toNat) : Int) ≤ m ∧ n + (val (l.take n.toNat) : Int) ≤ (l.length : Int)
    · have e : rtext (some l) n m = ((l.drop n.toNat).take (val (l.take n.toNat)), some (l.drop (n.toNat + val (l.take n.toNat)))) := if_pos h
      rw [e]
      obtain ⟨h1, h2, h3, h4, h5⟩ := h
      obtain ⟨k, rfl⟩ := Int.eq_ofNat_of_zero_le (show 0 ≤ n by have := isT_cases h1; omega)
      rw [Int.toNat_natCast] at h4 h5 ⊢
      exact text_yes g l k m w hr h1 (by omega) h3 hm h4 (by omega)
    · have e : rtext (some l) n m = ([], none) := if_neg h
      rw [e]
      exact text_no g l n m w hr h hm

end Go.Proofs.Ytbganaaiaokfmaa
