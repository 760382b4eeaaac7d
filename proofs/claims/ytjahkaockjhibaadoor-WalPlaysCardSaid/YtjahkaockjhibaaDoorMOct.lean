/-
  The walks over package octet, as far as package record calls it (over crc's texts): grown, fill, number, Put.
-/
import Derived.Test.YtjahkaockjhibaaDoorMCrc
import Derived.Deep.QuietTactic
import Derived.BigQuiet
import Derived.Laws.BytesArg
namespace Go.Proofs.YtjahkaockjhibaaDoor
open Go.RowKit

set_option maxRecDepth 100000 in
set_option maxHeartbeats 400000 in
theorem isT_any (n : Int) (w : World) : Calls Tryd.prog 97 #[.int .i64 n] w fun e w' => e = .returned (.bool (isT n)) ∧ w = w' := by
  by_cases h1 : n = 1
  · subst h1
    go_enter Tryd.func97, Tryd.ntmps97
    go_wp2
    go_ret
    exact ⟨rfl, rfl⟩
  · by_cases h2 : n = 2
    · subst h2
      go_enter Tryd.func97, Tryd.ntmps97
      go_wp2
      go_ret
      exact ⟨rfl, rfl⟩
    · have e1 : (n == 1) = false := by simpa using h1
      have e2 : (n == 2) = false := by simpa using h2
      have e : isT n = (n == 4) := by simp [isT, e1, e2]
      rw [e]
      clear e
      go_enter Tryd.func97, Tryd.ntmps97
      go_wp2
      go_ret
      exact ⟨rfl, rfl⟩

set_option maxRecDepth 100000 in
set_option maxHeartbeats 400000 in
theorem isW_any (n : Int) (w : World) : Calls Tryd.prog 83 #[.int .i64 n] w fun e w' => e = .returned (.bool (isW n)) ∧ w = w' := by
  by_cases h1 : n = 8
  · subst h1
    go_enter Tryd.func83, Tryd.ntmps83
    go_wp2
    go_ret
    exact ⟨rfl, rfl⟩
  · have e1 : (n == 8) = false := by simpa using h1
    have e : isW n = isT n := by simp [isW, e1]
    rw [e]
    clear e
    go_enter Tryd.func83, Tryd.ntmps83
    go_wp2_with (go_at_call 97; refine (isT_any _ _).mono ?_; rintro e w' ⟨rfl, rfl⟩)
    go_ret
    exact ⟨rfl, rfl⟩

set_option maxRecDepth 100000 in
set_option maxHeartbeats 400000 in
theorem grown_any {T : TypeId} (A : Option Addr) (l : List UInt8) (c : Nat) (m : Nat) (w : World) (hr : Reads T w A l) (hs : l.length + m ≤ 281474976710656) :
    Calls Tryd.prog 84 #[.slice A l.length c, .int .i64 (m : Int)] w fun e w' =>
      e = .returned (.slice (some ⟨w.heap.size, 0, none⟩) (l.length + m) (l.length + m)) ∧ Below w.heap.size w w' ∧ Row w' w.heap.size 5 (byt (l ++ List.replicate m 0)) (0, 0) := by
  have hmk := make_bytes (l.length + m) hs (↑l.length + ↑m) (by omega)
  go_enter Tryd.func84, Tryd.ntmps84
  go_wp2_with (with_reducible refine wpList_copy_splice rfl (.tmp 11) (.tmp 12) 80 80 rfl 5 Tryd.underlying80 Tryd.size_u8 (some ⟨w.heap.size, 0, none⟩) A (l.length + m) (l.length + m) l.length c rfl rfl w.heap.size 0 (byt (List.replicate (l.length + m) 0)) 5 ?hg (byt l) ?hn ?hpos ?hfit (byt_one l) w.heap.size w ?hb (Nat.le_refl _) ?_)
  case hg => exact heap_alloc_new _ _
  case hn => rw [byt_length]; exact (Nat.min_eq_left (by omega)).symm
  case hfit => simp [byt]
  case hb => exact (Below.refl _ _).alloc (Nat.le_refl _) _
  case hpos =>
    intro h0
    rw [byt_length] at h0
    obtain ⟨g, off, cs, mk, hA, hrow, hc⟩ := hr h0
    refine ⟨_, hA, fun j v hj => ?_⟩
    have hjl : j < l.length := by
      have := (List.getElem?_eq_some_iff.1 hj).1
      rwa [byt_length] at this
    rw [Addr.add_lit, (hrow.alloc _).cell, hc j hjl, hj]
  intro w1 hg1 hb1
  go_wp2
  go_ret
  exact ⟨rfl, hb1, by have := hg1.out; rw [splice_head] at this; exact this⟩

theorem splice_grow (L : List Value) (o : Nat) (cs : List Value) (x : Value) (h : o + 1 + cs.length ≤ L.length) : (splice L (o + 1) cs).set o x = splice L o (x :: cs) := by
  have e1 : L.take (o + 1) = L.take o ++ [L[o]'(by omega)] := by rw [List.take_succ_eq_append_getElem (by omega)]
  have e2 : o = (L.take o).length := by rw [List.length_take]; omega
  unfold splice
  rw [e1, List.append_assoc, List.set_append_right _ _ (by omega)]
  rw [← e2, Nat.sub_self, show o + 1 + cs.length = o + (cs.length + 1) by omega]
  simp

theorem byte_num (v k : Nat) : ((v : Int) / 2 ^ (8 * k) % 256) = ((UInt8.ofNat (v / 256 ^ k)).toNat : Int) := by
  have e : (2 : Int) ^ (8 * k) = ((256 ^ k : Nat) : Int) := by
    rw [show (256 : Nat) = 2 ^ 8 from rfl, ← Nat.pow_mul]; simp
  rw [e, UInt8.toNat_ofNat']
  simp

theorem fill_step (cur : List Value) (off n k v : Nat) (hk : k < n) (hfit : off + n ≤ cur.length) :
    (splice cur (off + n - k) (byt (be v k))).set (off + (n - 1 - k)) (.int .u8 ((v : Int) / 2 ^ (8 * k) % 256)) = splice cur (off + n - (k + 1)) (byt (be v (k + 1))) := by
  have e := splice_grow cur (off + n - (k + 1)) (byt (be v k)) (.int .u8 ((v : Int) / 2 ^ (8 * k) % 256)) (by rw [byt_length, be_length]; omega)
  rw [show off + n - (k + 1) + 1 = off + n - k by omega] at e
  rw [show off + (n - 1 - k) = off + n - (k + 1) by omega, e, byte_num]
  rfl

set_option maxRecDepth 100000 in
set_option maxHeartbeats 400000 in
theorem fill_any (g off n c v : Nat) (cur : List Value) (w : World) (hn : 0 < n) (hn8 : n ≤ 8) (hrow : Row w g 5 cur (0, 0)) (hfit : off + n ≤ cur.length) :
    Calls Tryd.prog 85 #[.slice (some ⟨g, off, none⟩) n c, .int .u64 (v : Int)] w fun e w' =>
      e = .returned (.tuple #[]) ∧ w.grownBy w' (some g) ∧ Row w' g 5 (splice cur off (byt (be v n))) (0, 0) := by
  go_enter Tryd.func85, Tryd.ntmps85
  go_wp2
  go_loopw [7] (fun i wr => ∃ k : Nat, k ≤ n ∧ i = .int .i64 k ∧ w.grownBy wr (some g) ∧ Row wr g 5 (splice cur (off + n - k) (byt (be v k))) (0, 0)) (fun i _ => n - (intOf i).toNat)
  case atStart => exact ⟨0, Nat.zero_le _, rfl, only_refl _ _, by simpa [splice, be, byt] using hrow⟩
  case round =>
    obtain ⟨k, hk, rfl, hg, hr⟩ := hrel
    by_cases hlt : k < n
    · have hcell : ∃ u, wr.cell? ⟨g, off + (n - 1 - k), none⟩ = some u := by
        rw [hr.cell]
        have hl : (splice cur (off + n - k) (byt (be v k))).length = cur.length := length_splice _ _ _ (by rw [byt_length, be_length]; omega)
        exact ⟨_, List.getElem?_eq_getElem (by rw [hl]; omega)⟩
      obtain ⟨u0, hu0⟩ := hcell
      have hfree := hr.loose (off + (n - 1 - k))
      have hst := hr.put (off + (n - 1 - k)) (.int .u8 ((v : Int) / 2 ^ (8 * k) % 256))
      rw [fill_step cur off n k v hlt hfit] at hst
      have hg2 := only_put hg (off + (n - 1 - k)) (.int .u8 ((v : Int) / 2 ^ (8 * k) % 256))
      have HST := Lib.hid hst
      clear hst hr
      go_wp2
      go_roundw
      case rel => exact ⟨k + 1, by omega, by go_num, hg2, HST.out⟩
      case measure => simp [intOf]; omega
    · have hkn : off + n - k = off := by omega
      obtain rfl : k = n := by omega
      rw [hkn] at hr
      clear hkn
      go_wp2
      go_end0
      exact ⟨rfl, hg, hr⟩

theorem val_take_succ (l : List UInt8) (k : Nat) (h : k < l.length) : val (l.take (k + 1)) = val (l.take k) * 256 + l[k].toNat := by
  rw [List.take_succ_eq_append_getElem h, val_snoc]

theorem number_step (l : List UInt8) (k : Nat) (h : k < l.length) (h8 : l.length ≤ 8) :
    (val (l.take k) : Int) * 256 = ((val (l.take k) * 256 : Nat) : Int) ∧ val (l.take k) < 72057594037927936 := by
  refine ⟨by simp, ?_⟩
  have h1 := val_lt (l.take k)
  have h2 : (l.take k).length ≤ 7 := by rw [List.length_take]; omega
  exact Nat.lt_of_lt_of_le h1 (Nat.pow_le_pow_right (by omega) h2)

set_option maxRecDepth 100000 in
set_option maxHeartbeats 400000 in
theorem number_any (A : Option Addr) (l : List UInt8) (c : Nat) (w : World) (hr : Reads 5 w A l) (h8 : l.length ≤ 8) :
    Calls Tryd.prog 92 #[.slice A l.length c] w fun e w' => e = .returned (.int .u64 (val l : Int)) ∧ w = w' := by
  go_enter Tryd.func92, Tryd.ntmps92
  go_wp2
  go_loop [3, 8] (fun n i => ∃ k : Nat, k ≤ l.length ∧ i = .int .i64 k ∧ n = .int .u64 (val (l.take k) : Int)) (fun _ i => l.length - (intOf i).toNat)
  case atStart => exact ⟨0, Nat.zero_le _, rfl, rfl⟩
  case round =>
    obtain ⟨k, hk, rfl, rfl⟩ := hrel
    by_cases hlt : k < l.length
    · obtain ⟨g, off, rfl, hcell⟩ := hr.cell hlt
      have hb := (number_step l k hlt h8).2
      have hc : l[k].toNat < 256 := l[k].toNat_lt
      have hj := join_byte (val (l.take k)) l[k].toNat (by omega) (by omega) (by omega) (by omega)
      have HV := Lib.hid (val_take_succ l k hlt)
      clear hr
      go_wp2
      go_round
      case rel => exact ⟨k + 1, by omega, by go_num, by rw [HV.out]; simp⟩
      case measure => simp [intOf]; omega
    · obtain rfl : k = l.length := by omega
      have HL : val (l.take l.length) = val l := by rw [List.take_length]
      rw [HL]
      clear HL
      go_wp2
      go_ret
      exact ⟨rfl, rfl⟩

set_option maxRecDepth 100000 in
set_option maxHeartbeats 400000 in
theorem fill_none (A : Option Addr) (c : Nat) (v : Int) (w : World) :
    Calls Tryd.prog 85 #[.slice A 0 c, .int .u64 v] w fun e w' => e = .returned (.tuple #[]) ∧ w = w' := by
  go_enter Tryd.func85, Tryd.ntmps85
  go_wp2
  go_loop [7] (fun i => i = .int .i64 0) (fun _ => 0)
  case atStart => rfl
  case round =>
    subst hrel
    go_wp2
    go_end0
    exact ⟨rfl, rfl⟩

theorem splice_tail (l : List UInt8) (k v : Nat) : splice (byt (l ++ List.replicate k 0)) l.length (byt (be v k)) = byt (l ++ be v k) := by
  have e : l.length = (byt l).length := (byt_length l).symm
  unfold splice
  rw [byt_append, e, List.take_left, byt_append]
  rw [List.drop_eq_nil_of_le (by simp [byt, be_length])]
  simp

theorem below_after0 {w w1 w2 : World} (hb : Below w.heap.size w w1) (hg : w1.grownBy w2 (some w.heap.size)) : Below w.heap.size w w2 :=
  hb.trans ⟨hg.os, hg.tape, hg.output, hg.size, fun k hk => hg.block k (Nat.lt_of_lt_of_le hk hb.size) (fun e => by injection e; omega)⟩

set_option maxRecDepth 100000 in
set_option maxHeartbeats 400000 in
theorem put_wide (A : Option Addr) (l : List UInt8) (c v : Nat) (n : Nat) (w : World) (hr : Reads 5 w A l) (hs : l.length + 8 ≤ 281474976710656) (hn : isW n = true) :
    Calls Tryd.prog 74 #[.slice A l.length c, .int .u64 (v : Int), .int .i64 (n : Int)] w fun e w' =>
      e = .returned (.slice (some ⟨w.heap.size, 0, none⟩) (l.length + n) (l.length + n)) ∧ Below w.heap.size w w' ∧ Row w' w.heap.size 5 (byt (l ++ be v n)) (0, 0) := by
  have hpos : 0 < n ∧ n ≤ 8 := by have := isW_cases hn; omega
  obtain ⟨h0, h8⟩ := hpos
  go_enter Tryd.func74, Tryd.ntmps74
  go_wp2_with (go_at_call 83; refine (isW_any _ _).mono ?_; rintro e w' ⟨rfl, rfl⟩)
  refine (grown_any A l c n w hr (by omega)).mono ?_
  rintro e w1 ⟨rfl, hb1, hrow1⟩
  have HROW := Lib.hid hrow1
  clear hrow1
  go_wp2_with fail
  refine (fill_any w.heap.size l.length n _ v _ _ h0 h8 HROW.out (by rw [byt_length]; simp)).mono ?_
  rintro e w2 ⟨rfl, hg2, hrow2⟩
  rw [splice_tail] at hrow2
  go_wp2
  go_ret
  exact ⟨rfl, below_after0 hb1 hg2, hrow2⟩

set_option maxRecDepth 100000 in
set_option maxHeartbeats 400000 in
theorem put_none (A : Option Addr) (l : List UInt8) (c v : Nat) (n : Int) (w : World) (hr : Reads 5 w A l) (hs : l.length + 8 ≤ 281474976710656) (hn : isW n = false) :
    Calls Tryd.prog 74 #[.slice A l.length c, .int .u64 (v : Int), .int .i64 n] w fun e w' =>
      e = .returned (.slice (some ⟨w.heap.size, 0, none⟩) l.length l.length) ∧ Below w.heap.size w w' ∧ Row w' w.heap.size 5 (byt l) (0, 0) := by
  go_enter Tryd.func74, Tryd.ntmps74
  go_wp2_with (go_at_call 83; refine (isW_any _ _).mono ?_; rintro e w' ⟨rfl, rfl⟩)
  refine (grown_any A l c 0 w hr (by omega)).mono ?_
  rintro e w1 ⟨rfl, hb1, hrow1⟩
  simp only [List.replicate_zero, List.append_nil] at hrow1
  go_wp2_with fail
  refine (fill_none _ _ _ _).mono ?_
  rintro e w2 ⟨rfl, rfl⟩
  go_wp2
  go_ret
  exact ⟨rfl, hb1, hrow1⟩

set_option maxRecDepth 100000 in
theorem Tryd.some_u8 : ((Tryd.prog.info? 5).map (fun i => i.size)).isSome = true := by kernel_rfl

end Go.Proofs.YtjahkaockjhibaaDoor

/-
  The walks over package octet, as far as package lsns calls it: a reader.
-/
namespace Go.Proofs.YtjahkaockjhibaaDoor
open Go.RowKit

/-- What lies behind a reader's pointer: a bad one (none), or one with these bytes left. -/
def Rdr (w : World) (g : Nat) : Option (List UInt8) → Prop
  | none => ∃ v, Row w g 141 [.bool false, v] (0, 0)
  | some l => ∃ h off c, l.length ≤ c ∧ c ≤ 281474976710656 ∧ Row w g 141 [.bool true, .slice (some ⟨h, off, none⟩) l.length c] (0, 0) ∧ Reads 5 w (some ⟨h, off, none⟩) l

theorem Rdr.lt {w : World} {g : Nat} : ∀ {st : Option (List UInt8)}, Rdr w g st → g < w.heap.size
  | none, ⟨_, h⟩ => h.lt
  | some _, ⟨_, _, _, _, _, h, _⟩ => h.lt

theorem Rdr.below {w w' : World} {g : Nat} (hb : Below w.heap.size w w') : ∀ {st : Option (List UInt8)}, Rdr w g st → Rdr w' g st
  | none, ⟨v, h⟩ => ⟨v, h.below hb h.lt⟩
  | some _, ⟨h, off, c, h1, h2, h3, h4⟩ => ⟨h, off, c, h1, h2, h3.below hb h3.lt, h4.below hb (Nat.le_refl _)⟩

theorem Rdr.only {w w' : World} {g g' : Nat} (hb : w.grownBy w' (some g')) (hne : g ≠ g') (hr : ∃ cs m, Row w g' 141 cs m) : ∀ {st : Option (List UInt8)}, Rdr w g st → Rdr w' g st
  | none, ⟨v, h⟩ => ⟨v, h.grown hb (by simpa using hne)⟩
  | some _, ⟨h, off, c, h1, h2, h3, h4⟩ => ⟨h, off, c, h1, h2, h3.grown hb (by simpa using hne), h4.grown hb (fun k t cs m hk e => by
      injection e with e
      subst e
      obtain ⟨cs', m', hr⟩ := hr
      intro ht
      exact absurd rfl (Row.ne_ hk hr (by rw [ht]; decide)))⟩

theorem Rdr.row {w : World} {g : Nat} : ∀ {st : Option (List UInt8)}, Rdr w g st → ∃ cs m, Row w g 141 cs m
  | none, ⟨_, h⟩ => ⟨_, _, h⟩
  | some _, ⟨_, _, _, _, _, h, _⟩ => ⟨_, _, h⟩

def OpenPost (w : World) (l : List UInt8) (e : Ending) (w' : World) : Prop :=
  ∃ g, e = .returned (.pointer (some ⟨g, 0, none⟩)) ∧ w.heap.size ≤ g ∧ Rdr w' g (some l) ∧ Below w.heap.size w w'

set_option maxRecDepth 100000 in
set_option maxHeartbeats 400000 in
theorem open_any {T : TypeId} (A : Option Addr) (l : List UInt8) (c : Nat) (w : World) (hr : Reads T w A l) (hs : l.length ≤ 281474976710656) :
    Calls Tryd.prog 78 #[.slice A l.length c] w (OpenPost w l) := by
  go_enter Tryd.func78, Tryd.ntmps78
  go_wp2_with fail
  refine (grown_any A l c 0 w hr (by omega)).mono ?_
  rintro e w1 ⟨rfl, hb1, hrow1⟩
  simp only [List.replicate_zero, List.append_nil] at hrow1
  go_wp2
  go_ret
  refine ⟨w1.heap.size, rfl, hb1.size, ⟨w.heap.size, 0, l.length, Nat.le_refl _, hs, Row.new w1 _ [.bool true, .slice (some ⟨w.heap.size, 0, none⟩) l.length l.length] _, fun _ => ⟨_, _, _, _, rfl, hrow1.alloc _, fun j _ => by simp⟩⟩, hb1.alloc hb1.size _⟩

set_option maxRecDepth 100000 in
set_option maxHeartbeats 400000 in
theorem bad_any (g : Nat) (b : Bool) (v : Value) (w : World) (hr : Row w g 141 [.bool b, v] (0, 0)) :
    Calls Tryd.prog 102 #[.pointer (some ⟨g, 0, none⟩)] w fun e w' => e = .returned (.bool (!b)) ∧ w = w' := by
  have hc : w.cell? ⟨g, 0, none⟩ = some (.bool b) := by rw [hr.cell]; rfl
  go_enter Tryd.func102, Tryd.ntmps102
  go_wp2
  go_ret
  exact ⟨rfl, rfl⟩

set_option maxRecDepth 100000 in
set_option maxHeartbeats 400000 in
theorem claim_none (g : Nat) (v fn : Value) (w : World) (hr : Row w g 141 [.bool false, v] (0, 0)) :
    Calls Tryd.prog 93 #[.pointer (some ⟨g, 0, none⟩), fn] w fun e w' => e = .returned (.slice none 0 0) ∧ w = w' := by
  have HR := Lib.hid hr
  clear hr
  go_enter Tryd.func93, Tryd.ntmps93
  go_wp2_with (go_at_call 102; refine (bad_any _ false _ _ HR.out).mono ?_; rintro e w' ⟨rfl, rfl⟩)
  go_ret
  exact ⟨rfl, rfl⟩

theorem claim_end (g h off c k d : Nat) (l : List UInt8) (w : World) (hr : Row w g 141 [.bool true, .slice (some ⟨h, off, none⟩) l.length c] (0, 0)) (hrd : Reads 5 w (some ⟨h, off, none⟩) l) (hn : c ≤ 281474976710656) (hlc : l.length ≤ c) (hk : k ≤ l.length) :
    (k < c → w.grownBy ((w.drewN d).setCell ⟨g, 1, none⟩ (.slice (some ⟨h, off + k, none⟩) (l.length - k) (c - k))) (some g) ∧ Rdr ((w.drewN d).setCell ⟨g, 1, none⟩ (.slice (some ⟨h, off + k, none⟩) (l.length - k) (c - k))) g (some (l.drop k)) ∧ Reads 5 ((w.drewN d).setCell ⟨g, 1, none⟩ (.slice (some ⟨h, off + k, none⟩) (l.length - k) (c - k))) (some ⟨h, off, none⟩) (l.take k)) ∧
    (c ≤ k → w.grownBy ((w.drewN d).setCell ⟨g, 1, none⟩ (.slice (some ⟨h, off, none⟩) 0 0)) (some g) ∧ Rdr ((w.drewN d).setCell ⟨g, 1, none⟩ (.slice (some ⟨h, off, none⟩) 0 0)) g (some (l.drop k)) ∧ Reads 5 ((w.drewN d).setCell ⟨g, 1, none⟩ (.slice (some ⟨h, off, none⟩) 0 0)) (some ⟨h, off, none⟩) (l.take k)) := by
  have hfar : ∀ (u : Value) (A : Option Addr) (r : List UInt8), Reads 5 w A r → Reads 5 ((w.drewN d).setCell ⟨g, 1, none⟩ u) A r := fun u A r hx =>
    hx.grown (r := some g) (only_put (only_drawn w d _) _ _) (fun k t cs m hk e => by
      injection e with e
      subst e
      intro ht
      exact absurd rfl (Row.ne_ hk hr (by rw [ht]; decide)))
  have hon : ∀ u : Value, w.grownBy ((w.drewN d).setCell ⟨g, 1, none⟩ u) (some g) := fun u => only_put (only_drawn w d _) _ _
  constructor
  · intro hkc
    refine ⟨hon _, ⟨h, off + k, c - k, by rw [List.length_drop]; omega, by omega, ?_, ?_⟩, hfar _ _ _ (hrd.take k)⟩
    · rw [List.length_drop]
      exact (hr.drewN d).put 1 (.slice (some ⟨h, off + k, none⟩) (l.length - k) (c - k))
    · have := hrd.drop k c hlc
      rw [if_neg (by omega), Option.map_some, Addr.add_lit] at this
      exact hfar _ _ _ this
  · intro hkc
    refine ⟨hon _, ⟨h, off, 0, by rw [List.length_drop]; omega, by omega, ?_, ?_⟩, hfar _ _ _ (hrd.take k)⟩
    · rw [List.length_drop, show l.length - k = 0 by omega]
      exact (hr.drewN d).put 1 (.slice (some ⟨h, off, none⟩) 0 0)
    · have e : l.drop k = [] := List.drop_eq_nil_of_le (by omega)
      rw [e]
      exact Reads.nil

set_option maxRecDepth 100000 in
set_option maxHeartbeats 400000 in
theorem claim_fail_num (b0 g h off n c : Nat) (k : Int) (p : Bool) (w : World) (hr : Row w g 141 [.bool true, .slice (some ⟨h, off, none⟩) n c] (0, 0)) (hn : n ≤ 281474976710656) (hk : (p = false) ∨ (p = true ∧ k < 0) ∨ (p = true ∧ (n : Int) < k))
    (hneed : Calls Tryd.prog 94 #[.slice (some ⟨h, off, none⟩) n c, .pointer (some ⟨b0, 0, none⟩)] w fun e w' => e = .returned (.tuple #[.int .i64 k, .bool p]) ∧ ∃ d, w' = w.drewN d) :
    Calls Tryd.prog 93 #[.pointer (some ⟨g, 0, none⟩), .func (.func 94) #[] #[.pointer (some ⟨b0, 0, none⟩)]] w fun e w' => e = .returned (.slice none 0 0) ∧ w.grownBy w' (some g) ∧ Rdr w' g none := by
  have hc0 : ∀ d, (w.drewN d).cell? ⟨g, 0, none⟩ = some (.bool true) := fun d => by rw [(hr.drewN d).cell]; rfl
  have hc : ∀ d, (w.drewN d).cell? ⟨g, 1, none⟩ = some (.slice (some ⟨h, off, none⟩) n c) := fun d => by rw [(hr.drewN d).cell]; rfl
  have hc1 : w.cell? ⟨g, 1, none⟩ = some (.slice (some ⟨h, off, none⟩) n c) := hc 0
  have hf : ∀ d i, (w.drewN d).frozen? ⟨g, i, none⟩ = false := fun d i => (hr.drewN d).loose i
  have hfin : ∀ d, w.grownBy (((w.drewN d).setCell ⟨g, 0, none⟩ (.bool false)).setCell ⟨g, 1, none⟩ (.slice none 0 0)) (some g) ∧ Rdr (((w.drewN d).setCell ⟨g, 0, none⟩ (.bool false)).setCell ⟨g, 1, none⟩ (.slice none 0 0)) g none :=
    fun d => ⟨only_put (only_put (only_drawn w d _) _ _) _ _, ⟨_, ((hr.drewN d).put 0 (.bool false)).put 1 (.slice none 0 0)⟩⟩
  have HR := Lib.hid hr
  have HN := Lib.hid hneed
  have HF := Lib.hid hfin
  clear hr hneed hfin
  rcases hk with rfl | ⟨rfl, hk⟩ | ⟨rfl, hk⟩
  all_goals
    go_enter Tryd.func93, Tryd.ntmps93
    go_wp2_with (go_at_call 102; refine (bad_any _ true _ _ HR.out).mono ?_; rintro e w' ⟨rfl, rfl⟩)
    refine HN.out.mono ?_
    rintro e w' ⟨rfl, d, rfl⟩
    go_wp2
    go_ret
    exact ⟨rfl, HF.out d⟩

set_option maxRecDepth 100000 in
set_option maxHeartbeats 400000 in
theorem claim_ok_num (b0 g h off c k : Nat) (l : List UInt8) (w : World) (hr : Row w g 141 [.bool true, .slice (some ⟨h, off, none⟩) l.length c] (0, 0)) (hrd : Reads 5 w (some ⟨h, off, none⟩) l) (hn : c ≤ 281474976710656) (hlc : l.length ≤ c) (hk : k ≤ l.length)
    (hneed : Calls Tryd.prog 94 #[.slice (some ⟨h, off, none⟩) l.length c, .pointer (some ⟨b0, 0, none⟩)] w fun e w' => e = .returned (.tuple #[.int .i64 (k : Int), .bool true]) ∧ ∃ d, w' = w.drewN d) :
    Calls Tryd.prog 93 #[.pointer (some ⟨g, 0, none⟩), .func (.func 94) #[] #[.pointer (some ⟨b0, 0, none⟩)]] w fun e w' => e = .returned (.slice (some ⟨h, off, none⟩) k c) ∧ w.grownBy w' (some g) ∧ Rdr w' g (some (l.drop k)) ∧ Reads 5 w' (some ⟨h, off, none⟩) (l.take k) := by
  have hc : ∀ d, (w.drewN d).cell? ⟨g, 1, none⟩ = some (.slice (some ⟨h, off, none⟩) l.length c) := fun d => by rw [(hr.drewN d).cell]; rfl
  have hc1 : w.cell? ⟨g, 1, none⟩ = some (.slice (some ⟨h, off, none⟩) l.length c) := hc 0
  have hf : ∀ d i, (w.drewN d).frozen? ⟨g, i, none⟩ = false := fun d i => (hr.drewN d).loose i
  have HFIN := Lib.hid (fun d : Nat => claim_end g h off c k d l w hr hrd hn hlc hk)
  have HR := Lib.hid hr
  have HN := Lib.hid hneed
  clear hr hneed hrd
  rcases Nat.lt_or_ge k c with hkc | hkc
  · go_enter Tryd.func93, Tryd.ntmps93
    go_wp2_with (go_at_call 102; refine (bad_any _ true _ _ HR.out).mono ?_; rintro e w' ⟨rfl, rfl⟩)
    refine HN.out.mono ?_
    rintro e w' ⟨rfl, d, rfl⟩
    go_wp2
    go_ret
    exact ⟨rfl, (HFIN.out d).1 hkc⟩
  · obtain rfl : k = c := by omega
    go_enter Tryd.func93, Tryd.ntmps93
    go_wp2_with (go_at_call 102; refine (bad_any _ true _ _ HR.out).mono ?_; rintro e w' ⟨rfl, rfl⟩)
    refine HN.out.mono ?_
    rintro e w' ⟨rfl, d, rfl⟩
    go_wp2
    go_ret
    exact ⟨rfl, (HFIN.out d).2 hkc⟩

theorem isW_quiet (n : Int) (w : World) (k : Nat) : Calls Tryd.prog 83 #[.int .i64 n] (w.drewN k) fun e w' => e = .returned (.bool (isW n)) ∧ ∃ m, w' = w.drewN m :=
  (isW_any n (w.drewN k)).mono fun _ _ ⟨he, hw⟩ => ⟨he, k, hw.symm⟩

set_option maxRecDepth 100000 in
set_option maxHeartbeats 400000 in
theorem need_num (A : Option Addr) (l c b0 : Nat) (n : Int) (w : World) (hc : w.cell? ⟨b0, 0, none⟩ = some (.int .i64 n)) :
    Calls Tryd.prog 94 #[.slice A l c, .pointer (some ⟨b0, 0, none⟩)] w fun e w' => e = .returned (.tuple #[.int .i64 n, .bool (isW n)]) ∧ ∃ d, w' = w.drewN d := by
  go_enter Tryd.func94, Tryd.ntmps94
  go_wp2
  go_quiet ((go_at_call 83; exact isW_quiet _ _ _))
  go_wp2
  go_ret2
  exact ⟨rfl, _, rfl⟩

/-- What Num tells of a reader's bytes, and what is left. -/
def rnum (st : Option (List UInt8)) (n : Int) : Nat × Option (List UInt8) :=
  match st with
  | none => (0, none)
  | some l => if isW n = true ∧ n ≤ (l.length : Int) then (val (l.take n.toNat), some (l.drop n.toNat)) else (0, none)

/-- The memory behind a reading: only the reader has turned, which now has what is left. -/
def Now (w : World) (g : Nat) (st : Option (List UInt8)) (w' : World) : Prop := w.grownBy w' (some g) ∧ Rdr w' g st

theorem Rdr.box {w : World} {g : Nat} (o : Obj) {st : Option (List UInt8)} (h : Rdr w g st) : Rdr (w.alloc o) g st := h.below ((Below.refl _ _).alloc (Nat.le_refl _) _)

theorem now_box {w w' : World} {g : Nat} {o : Obj} {st : Option (List UInt8)} (hg : (w.alloc o).grownBy w' (some g)) (hr : Rdr w' g st) : Now w g st w' :=
  ⟨only_trans (only_below ((Below.refl _ _).alloc (Nat.le_refl _) _) _) hg, hr⟩

theorem box_cell (w : World) (v : Value) (t : TypeId) (m : Nat × Nat) : (w.alloc (.cells #[v] t m)).cell? ⟨w.heap.size, 0, none⟩ = some v := by
  have := (Row.new w t [v] m).cell 0
  simpa using this

set_option maxRecDepth 100000 in
set_option maxHeartbeats 400000 in
theorem num_none (g : Nat) (n : Int) (w : World) (hr : Rdr w g none) :
    Calls Tryd.prog 79 #[.pointer (some ⟨g, 0, none⟩), .int .i64 n] w fun e w' => e = .returned (.int .u64 0) ∧ Now w g none w' := by
  have hmf : ∀ (fn : Fn) (first cap : Array Value) (w : World), (Instr.makeFunc fn first cap).run Tryd.prog w = .ok (.func fn first cap) w := fun _ _ _ _ => rfl
  obtain ⟨v, hv⟩ := hr
  have HV := Lib.hid (hv.alloc (.cells #[.int .i64 n] 3))
  have HN := Lib.hid (show Now w g none (w.alloc (.cells #[.int .i64 n] 3)) from now_box (only_refl _ _) ⟨v, hv.alloc _⟩)
  clear hv
  go_enter Tryd.func79, Tryd.ntmps79
  go_wp2_with fail
  refine (claim_none g v _ _ HV.out).mono ?_
  rintro e w' ⟨rfl, rfl⟩
  go_wp2_with fail
  refine (number_any none [] 0 _ Reads.nil (by decide)).mono ?_
  rintro e w' ⟨rfl, rfl⟩
  go_wp2
  go_ret
  exact ⟨rfl, HN.out⟩

set_option maxRecDepth 100000 in
set_option maxHeartbeats 400000 in
theorem num_no (g : Nat) (l : List UInt8) (n : Int) (w : World) (hr : Rdr w g (some l)) (hno : isW n = false ∨ (isW n = true ∧ (l.length : Int) < n)) :
    Calls Tryd.prog 79 #[.pointer (some ⟨g, 0, none⟩), .int .i64 n] w fun e w' => e = .returned (.int .u64 0) ∧ Now w g none w' := by
  have hmf : ∀ (fn : Fn) (first cap : Array Value) (w : World), (Instr.makeFunc fn first cap).run Tryd.prog w = .ok (.func fn first cap) w := fun _ _ _ _ => rfl
  obtain ⟨h, off, c, hlc, hc, hrow, hrd⟩ := Rdr.box (.cells #[.int .i64 n] 3) hr
  have HC := Lib.hid (claim_fail_num w.heap.size g h off l.length c n (isW n) (w.alloc (.cells #[.int .i64 n] 3)) hrow (by omega) (by rcases hno with hno | ⟨h1, h2⟩ <;> simp [*]) (need_num _ _ _ _ n _ (box_cell _ _ _ _)))
  clear hrow hrd hr hno
  go_enter Tryd.func79, Tryd.ntmps79
  go_wp2_with fail
  refine HC.out.mono ?_
  rintro e w' ⟨rfl, hg, hr'⟩
  go_wp2_with fail
  refine (number_any none [] 0 _ Reads.nil (by decide)).mono ?_
  rintro e w' ⟨rfl, rfl⟩
  go_wp2
  go_ret
  exact ⟨rfl, now_box hg hr'⟩

set_option maxRecDepth 100000 in
set_option maxHeartbeats 400000 in
theorem num_yes (g : Nat) (l : List UInt8) (n : Nat) (w : World) (hr : Rdr w g (some l)) (hn : isW n = true) (hl : n ≤ l.length) :
    Calls Tryd.prog 79 #[.pointer (some ⟨g, 0, none⟩), .int .i64 (n : Int)] w fun e w' => e = .returned (.int .u64 (val (l.take n) : Int)) ∧ Now w g (some (l.drop n)) w' := by
  have hmf : ∀ (fn : Fn) (first cap : Array Value) (w : World), (Instr.makeFunc fn first cap).run Tryd.prog w = .ok (.func fn first cap) w := fun _ _ _ _ => rfl
  have h8 : n ≤ 8 := by have := isW_cases hn; omega
  obtain ⟨h, off, c, hlc, hc, hrow, hrd⟩ := Rdr.box (.cells #[.int .i64 (n : Int)] 3) hr
  have hnd := need_num (some ⟨h, off, none⟩) l.length c w.heap.size n (w.alloc (.cells #[.int .i64 (n : Int)] 3)) (box_cell _ _ _ _)
  rw [hn] at hnd
  have HC := Lib.hid (claim_ok_num w.heap.size g h off c n l (w.alloc (.cells #[.int .i64 (n : Int)] 3)) hrow hrd hc hlc hl hnd)
  have hlen : (l.take n).length = n := by rw [List.length_take]; omega
  have HLEN := Lib.hid hlen
  clear hrow hrd hr hnd hlen
  go_enter Tryd.func79, Tryd.ntmps79
  go_wp2_with fail
  refine HC.out.mono ?_
  rintro e w' ⟨rfl, hg, hr', hrd'⟩
  have hnum := number_any (some ⟨h, off, none⟩) (l.take n) c w' hrd' (by rw [HLEN.out]; exact h8)
  rw [HLEN.out] at hnum
  have HNUM := Lib.hid hnum
  clear hnum hrd'
  go_wp2_with fail
  refine HNUM.out.mono ?_
  rintro e w' ⟨rfl, rfl⟩
  go_wp2
  go_ret
  exact ⟨rfl, now_box hg hr'⟩

theorem num_any (g : Nat) (st : Option (List UInt8)) (n : Int) (w : World) (hr : Rdr w g st) :
    Calls Tryd.prog 79 #[.pointer (some ⟨g, 0, none⟩), .int .i64 n] w fun e w' => e = .returned (.int .u64 ((rnum st n).1 : Int)) ∧ Now w g (rnum st n).2 w' := by
  match st, hr with
  | none, hr => exact num_none g n w hr
  | some l, hr =>
    by_cases hw : isW n = true
    · by_cases hl : n ≤ (l.length : Int)
      · obtain ⟨k, rfl⟩ := Int.eq_ofNat_of_zero_le (show 0 ≤ n by have := isW_cases hw; omega)
        have := num_yes g l k w hr hw (by omega)
        simpa [rnum, hw, hl] using this
      · have := num_no g l n w hr (.inr ⟨hw, by omega⟩)
        simpa [rnum, hl] using this
    · have hf : isW n = false := by simpa using hw
      have := num_no g l n w hr (.inl hf)
      simpa [rnum, hf] using this

end Go.Proofs.YtjahkaockjhibaaDoor
