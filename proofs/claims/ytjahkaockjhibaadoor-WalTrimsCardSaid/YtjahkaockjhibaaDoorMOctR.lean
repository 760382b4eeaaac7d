/-
  The walks over the document's answers for octet: Width, Number, Fits, Value.
-/
import Derived.Test.YtjahkaockjhibaaDoorMCrc
import Derived.Deep.QuietTactic
import Derived.BigQuiet
import Derived.Lib.Strings
namespace Go.Proofs.YtjahkaockjhibaaDoor
open Go.RowKit

theorem shift_bytes (x n : Nat) : ((x : Int) / 2 ^ (8 * n)) = ((x / 256 ^ n : Nat) : Int) := by
  have e : (2 : Int) ^ (8 * n) = ((256 ^ n : Nat) : Int) := by
    rw [show (256 : Nat) = 2 ^ 8 from rfl, ← Nat.pow_mul]; simp
  rw [e]; simp

theorem splice_grow (L : List Value) (o : Nat) (cs : List Value) (x : Value) (h : o + 1 + cs.length ≤ L.length) : (splice L (o + 1) cs).set o x = splice L o (x :: cs) := by
  have e1 : L.take (o + 1) = L.take o ++ [L[o]'(by omega)] := by rw [List.take_succ_eq_append_getElem (by omega)]
  have e2 : o = (L.take o).length := by rw [List.length_take]; omega
  unfold splice
  rw [e1, List.append_assoc, List.set_append_right _ _ (by omega)]
  rw [← e2, Nat.sub_self, show o + 1 + cs.length = o + (cs.length + 1) by omega]
  simp

theorem byte_num (v k : Nat) : ((v : Int) / 2 ^ (8 * k) % 256) = ((UInt8.ofNat (v / 256 ^ k)).toNat : Int) := by
  have e : (2 : Int) ^ (8 * k) = ((256 ^ k : Nat) : Int) := by
    rw [show (256 : Nat) = 2 ^ 8 from rfl, ← Nat.pow_mul]; simp
  rw [e, UInt8.toNat_ofNat']
  simp

theorem fill_step (cur : List Value) (off n k v : Nat) (hk : k < n) (hfit : off + n ≤ cur.length) :
    (splice cur (off + n - k) (byt (be v k))).set (off + (n - 1 - k)) (.int .u8 ((v : Int) / 2 ^ (8 * k) % 256)) = splice cur (off + n - (k + 1)) (byt (be v (k + 1))) := by
  have e := splice_grow cur (off + n - (k + 1)) (byt (be v k)) (.int .u8 ((v : Int) / 2 ^ (8 * k) % 256)) (by rw [byt_length, be_length]; omega)
  rw [show off + n - (k + 1) + 1 = off + n - k by omega] at e
  rw [show off + (n - 1 - k) = off + n - (k + 1) by omega, e, byte_num]
  rfl

theorem div_step (v k : Nat) : (v / 256 ^ k) / 256 = v / 256 ^ (k + 1) := by rw [Nat.div_div_eq_div_mul, Nat.pow_succ]

theorem number_fill (n k v : Nat) (hk : k < n) :
    (splice (byt (List.replicate n 0)) (n - k) (byt (be v k))).set (n - 1 - k) (.int .u8 (((v / 256 ^ k : Nat) : Int) % 256)) = splice (byt (List.replicate n 0)) (n - (k + 1)) (byt (be v (k + 1))) := by
  have h := fill_step (byt (List.replicate n 0)) 0 n k v hk (by simp [byt])
  rw [shift_bytes] at h
  simpa only [Nat.zero_add] using h

set_option maxRecDepth 100000 in
set_option maxHeartbeats 400000 in
theorem refNumber_any (v n : Nat) (w : World) (hn : n ≤ 8) (hv : v < 18446744073709551616) :
    Calls Tryd.prog 104 #[.int .u64 (v : Int), .int .i64 (n : Int)] w fun e w' =>
      e = .returned (.slice (some ⟨w.heap.size, 0, none⟩) n n) ∧ Below w.heap.size w w' ∧ Row w' w.heap.size 5 (byt (be v n)) (0, 0) := by
  have hmk := make_bytes n (by omega) n rfl
  go_enter Tryd.func104, Tryd.ntmps104
  go_wp2
  go_loopw [0, 6] (fun x i wr => ∃ k : Nat, k ≤ n ∧ i = .int .i64 ((n : Int) - 1 - k) ∧ x = .int .u64 ((v / 256 ^ k : Nat) : Int) ∧ Below w.heap.size w wr ∧ Row wr w.heap.size 5 (splice (byt (List.replicate n 0)) (n - k) (byt (be v k))) (0, 0)) (fun _ i _ => (intOf i + 1).toNat)
  case atStart =>
    refine ⟨0, Nat.zero_le _, by simp, by simp, (Below.refl _ _).alloc (Nat.le_refl _) _, ?_⟩
    have := Row.new w 5 (byt (List.replicate n 0)) (0, 0)
    simpa [splice, be, byt] using this
  case round =>
    obtain ⟨k, hk, rfl, rfl, hb, hr⟩ := hrel
    by_cases hlt : k < n
    · have hcell : ∃ u, wr.cell? ⟨w.heap.size, n - 1 - k, none⟩ = some u := by
        rw [hr.cell]
        have hl : (splice (byt (List.replicate n 0)) (n - k) (byt (be v k))).length = n := by
          rw [length_splice _ _ _ (by rw [byt_length, byt_length, be_length]; simp; omega), byt_length]; simp
        exact ⟨_, List.getElem?_eq_getElem (by rw [hl]; omega)⟩
      obtain ⟨u0, hu0⟩ := hcell
      have hfree := hr.loose (n - 1 - k)
      have hst := hr.put (n - 1 - k) (.int .u8 (((v / 256 ^ k : Nat) : Int) % 256))
      rw [number_fill n k v hlt] at hst
      have HST := Lib.hid hst
      have HB := Lib.hid (hb.setCell (p := ⟨w.heap.size, n - 1 - k, none⟩) (Nat.le_refl _) (.int .u8 (((v / 256 ^ k : Nat) : Int) % 256)))
      have HD := Lib.hid (div_step v k)
      have hvk : v / 256 ^ k < 18446744073709551616 := Nat.lt_of_le_of_lt (Nat.div_le_self _ _) hv
      generalize hx : v / 256 ^ k = x at *
      clear hst hr hb hx
      go_wp2
      go_roundw
      case rel => exact ⟨k + 1, by omega, congrArg (Value.int IntKind.i64) (by omega), by rw [← HD.out]; simp, HB.out, HST.out⟩
      case measure => simp [intOf]; omega
    · obtain rfl : k = n := by omega
      have hf : splice (byt (List.replicate k 0)) (k - k) (byt (be v k)) = byt (be v k) := by
        rw [Nat.sub_self]; simp [splice, byt, be_length]
      rw [hf] at hr
      clear hf
      go_wp2
      go_ret
      exact ⟨rfl, hb, hr⟩
end Go.Proofs.YtjahkaockjhibaaDoor

/-
  The walks over the document's answers for octet, second part: Value, Do.
-/
namespace Go.Proofs.YtjahkaockjhibaaDoor
open Go.RowKit

theorem size_list (s : ByteArray) : s.data.toList.length = s.size := rfl

theorem quiet_more {P : Program} {f : FuncId} {args : Array Value} {w : World} {n : Nat} {v : Value} (h : Calls P f args (w.drewN n) fun e w' => e = .returned v ∧ ∃ d, w' = (w.drewN n).drewN d) :
    Calls P f args (w.drewN n) fun e w' => e = .returned v ∧ ∃ m, w' = w.drewN m :=
  h.mono fun _ _ ⟨he, d, hd⟩ => ⟨he, n + d, by rw [hd, World.drewN_drewN]⟩

theorem wide_of_text {n : Int} (h : isT n = true) : isW n = true := by simp [isW, h]

theorem i64_id (n : Int) (h0 : -9223372036854775808 ≤ n) (h1 : n ≤ 9223372036854775807) : IntKind.i64.wrap n = n := by rw [IntKind.wrap_i64]; omega

/-- The last byte of a text, as the program reads it. -/
theorem last_byte (s : ByteArray) (h : 1 ≤ s.size) : ∃ c : Nat, c < 256 ∧ val s.data.toList = 256 * val (s.extract 0 (s.size - 1)).data.toList + c ∧
    ∀ (P : Program) (t : TypeId), P.underlying t = some .string → ∀ W : World, (Instr.index t (.string s) (.int .i64 ((s.size : Int) - 1))).run P W = .ok (.int .u8 (c : Int)) W := by
  have hlt : s.size - 1 < s.size := by omega
  refine ⟨(s[s.size - 1]'hlt).toNat, (s[s.size - 1]'hlt).toNat_lt, ?_, fun P t ht W => ?_⟩
  · have e : s.data.toList = (s.extract 0 (s.size - 1)).data.toList ++ [s[s.size - 1]'hlt] := by
      rw [Lib.extract_data, List.drop_zero, Nat.sub_zero]
      have h2 : s.data.toList = s.data.toList.take (s.size - 1 + 1) := by rw [List.take_of_length_le]; rw [size_list]; omega
      rw [h2, List.take_succ_eq_append_getElem (by rw [size_list]; exact hlt), List.take_append_of_le_length (by rw [List.length_take, size_list]; omega), List.take_take, Nat.min_self]
      rfl
    rw [e, val_snoc, Nat.mul_comm]
  · rw [run_index_string _ _ _ _ _ ht, dif_pos ⟨by omega, by omega⟩]
    have e : ((s.size : Int) - 1).toNat = s.size - 1 := by omega
    congr 4
    simp only [e]

set_option maxRecDepth 100000 in
set_option maxHeartbeats 400000 in
theorem value_none (s : ByteArray) (w : World) (h0 : s.size = 0) :
    Calls Tryd.prog 80 #[.string s] w fun e w' => e = .returned (.int .u64 (val s.data.toList : Int)) ∧ ∃ d, w' = w.drewN d := by
  have hl : s.data.toList = [] := List.eq_nil_of_length_eq_zero (by rw [size_list]; exact h0)
  have he : s.toList.isEmpty = true := by rw [ByteArray.toList_eq, hl]; rfl
  rw [hl, val_nil]
  clear hl h0
  go_enter Tryd.func80, Tryd.ntmps80
  go_wp2_with fail
  go_ret
  exact ⟨rfl, 0, rfl⟩

set_option maxRecDepth 100000 in
set_option maxHeartbeats 400000 in
theorem value_any (k : Nat) : ∀ (s : ByteArray) (w : World), s.size ≤ k → s.size ≤ 8 →
    Calls Tryd.prog 80 #[.string s] w fun e w' => e = .returned (.int .u64 (val s.data.toList : Int)) ∧ ∃ d, w' = w.drewN d := by
  induction k with
  | zero =>
    intro s w hk h8
    exact value_none s w (by omega)
  | succ k ih =>
    intro s w hk h8
    by_cases h0 : s.size = 0
    · exact value_none s w h0
    · have he : s.toList.isEmpty = false := by rw [ByteArray.toList_eq, List.isEmpty_eq_false_iff]; intro e; exact h0 (by rw [← size_list, e]; rfl)
      have h1 : 1 ≤ s.size := by omega
      have hsz : (s.extract 0 (s.size - 1)).size = s.size - 1 := by simp
      have hih := fun W => ih (s.extract 0 (s.size - 1)) W (by omega) (by omega)
      have hvl : val (s.extract 0 (s.size - 1)).data.toList < 72057594037927936 := by
        have h2 := val_lt (s.extract 0 (s.size - 1)).data.toList
        rw [size_list, hsz] at h2
        exact Nat.lt_of_lt_of_le h2 (Nat.pow_le_pow_right (by omega) (show s.size - 1 ≤ 7 by omega))
      obtain ⟨cb, hcb, hvv, hix⟩ := last_byte s h1
      have hix := hix Tryd.prog 9 Tryd.underlying9
      have HVV := Lib.hid hvv
      generalize val (s.extract 0 (s.size - 1)).data.toList = v at *
      have HIH := Lib.hid hih
      clear h0 hih ih hvv hsz
      have hw1 : IntKind.u64.wrap (256 * (v : Int)) = 256 * (v : Int) := u64_wrap_id _ (by omega) (by omega)
      have hw2 : IntKind.u64.wrap (256 * (v : Int) + (cb : Int)) = 256 * (v : Int) + (cb : Int) := u64_wrap_id _ (by omega) (by omega)
      go_enter Tryd.func80, Tryd.ntmps80
      go_wp2_with fail
      go_quiet ((go_at_call 80; exact quiet_more (HIH.out _)))
      go_wp2_with fail
      go_ret
      exact ⟨by rw [HVV.out]; simp, _, rfl⟩
end Go.Proofs.YtjahkaockjhibaaDoor
