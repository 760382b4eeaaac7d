/-
  The walks over package octet, part C: Put, PutText.
-/
import Derived.Test.YtbganaaiaokfmaaWalksB
import Derived.Test.YtbganaaiaokfmaaOrderMath
namespace Go.Proofs.Ytbganaaiaokfmaa
open Go.RowKit

set_option maxRecDepth 100000 in
set_option maxHeartbeats 400000 in
theorem fill_none (A : Option Addr) (c : Nat) (v : Int) (w : World) :
    Calls Try.prog 52 #[.slice A 0 c, .int .u64 v] w fun e w' => e = .returned (.tuple #[]) ∧ w = w' := by
  go_enter Try.func52, Try.ntmps52
  go_wp2
  go_loop [7] (fun i => i = .int .i64 0) (fun _ => 0)
  case atStart => rfl
  case round =>
    subst hrel
    go_wp2
    go_end0
    exact ⟨rfl, rfl⟩

theorem splice_tail (l : List UInt8) (k v : Nat) : splice (byt (l ++ List.replicate k 0)) l.length (byt (be v k)) = byt (l ++ be v k) := by
  have e : l.length = (byt l).length := (byt_length l).symm
  unfold splice
  rw [byt_append, e, List.take_left, byt_append]
  rw [List.drop_eq_nil_of_le (by simp [byt, be_length])]
  simp

theorem below_after {w w1 w2 : World} (hb : Below w.heap.size w w1) (hg : w1.grownBy w2 (some w.heap.size)) : Below w.heap.size w w2 :=
  hb.trans ⟨hg.os, hg.tape, hg.output, hg.size, fun k hk => hg.block k (Nat.lt_of_lt_of_le hk hb.size) (fun e => by injection e; omega)⟩

set_option maxRecDepth 100000 in
set_option maxHeartbeats 400000 in
theorem put_wide (A : Option Addr) (l : List UInt8) (c v : Nat) (n : Nat) (w : World) (hr : Reads 5 w A l) (hs : l.length + 8 ≤ 281474976710656) (hn : isW n = true) :
    Calls Try.prog 36 #[.slice A l.length c, .int .u64 (v : Int), .int .i64 (n : Int)] w fun e w' =>
      e = .returned (.slice (some ⟨w.heap.size, 0, none⟩) (l.length + n) (l.length + n)) ∧ Below w.heap.size w w' ∧ Row w' w.heap.size 5 (byt (l ++ be v n)) (0, 0) := by
  have hpos : 0 < n ∧ n ≤ 8 := by have := isW_cases hn; omega
  obtain ⟨h0, h8⟩ := hpos
  go_enter Try.func36, Try.ntmps36
  go_wp2_with (go_at_call 50; refine (isW_any _ _).mono ?_; rintro e w' ⟨rfl, rfl⟩)
  refine (grown_any A l c n w hr (by omega)).mono ?_
  rintro e w1 ⟨rfl, hb1, hrow1⟩
  have HROW := Lib.hid hrow1
  clear hrow1
  go_wp2_with fail
  refine (fill_any w.heap.size l.length n _ v _ _ h0 h8 HROW.out (by rw [byt_length]; simp)).mono ?_
  rintro e w2 ⟨rfl, hg2, hrow2⟩
  rw [splice_tail] at hrow2
  go_wp2
  go_ret
  exact ⟨rfl, below_after hb1 hg2, hrow2⟩

set_option maxRecDepth 100000 in
set_option maxHeartbeats 400000 in
theorem put_none (A : Option Addr) (l : List UInt8) (c v : Nat) (n : Int) (w : World) (hr : Reads 5 w A l) (hs : l.length + 8 ≤ 281474976710656) (hn : isW n = false) :
    Calls Try.prog 36 #[.slice A l.length c, .int .u64 (v : Int), .int .i64 n] w fun e w' =>
      e = .returned (.slice (some ⟨w.heap.size, 0, none⟩) l.length l.length) ∧ Below w.heap.size w w' ∧ Row w' w.heap.size 5 (byt l) (0, 0) := by
  go_enter Try.func36, Try.ntmps36
  go_wp2_with (go_at_call 50; refine (isW_any _ _).mono ?_; rintro e w' ⟨rfl, rfl⟩)
  refine (grown_any A l c 0 w hr (by omega)).mono ?_
  rintro e w1 ⟨rfl, hb1, hrow1⟩
  simp only [List.replicate_zero, List.append_nil] at hrow1
  go_wp2_with fail
  refine (fill_none _ _ _ _).mono ?_
  rintro e w2 ⟨rfl, rfl⟩
  go_wp2
  go_ret
  exact ⟨rfl, hb1, hrow1⟩

set_option maxRecDepth 100000 in
theorem Try.some_u8 : ((Try.prog.info? 5).map (fun i => i.size)).isSome = true := by kernel_rfl

theorem splice_text (l : List UInt8) (k v m : Nat) : splice (byt (l ++ List.replicate (k + m) 0)) l.length (byt (be v k)) = byt (l ++ (be v k ++ List.replicate m 0)) := by
  have e : l.length = (byt l).length := (byt_length l).symm
  unfold splice
  rw [byt_append, e, List.take_left, byt_append, byt_append]
  rw [byt_length (be v k), be_length, List.drop_length_add_append]
  simp [byt]

theorem splice_last (l r : List UInt8) (n m : Nat) (hn : n = l.length) (hm : m = r.length) : splice (byt (l ++ List.replicate m 0)) n (byt r) = byt (l ++ r) := by
  subst hn; subst hm
  have e : l.length = (byt l).length := (byt_length l).symm
  unfold splice
  rw [byt_append, e, List.take_left, byt_append]
  rw [byt_length r, List.drop_length_add_append]
  simp [byt]

theorem splice_txt (l : List UInt8) (s : ByteArray) (n : Nat) : splice (byt (l ++ (be s.size n ++ List.replicate s.size 0))) (l.length + n) (byt s.data.toList) = byt (l ++ txt s n) := by
  rw [← List.append_assoc, splice_last _ _ _ _ (by simp [be_length]) (by rw [← Lib.size_eq]), txt, List.append_assoc]

/-- copy from a text into a row of the call's own, in the walk's form. -/
theorem wpList_copy_text {P : Program} {w : World} {ops : Array Oper} {rest : List Oper} {o : Oper} {a : Act} {Q : Exit → Act → World → Prop} (hgd : o.guard = none) (d s : Operand) (dT sT : TypeId)
    (ho : o.op = .call { callee := .builtin .copy, args := #[d, s], argTypes := #[dT, sT] }) (elem : TypeId) (hu : P.underlying dT = some (.slice elem)) (hsz : (P.info? elem).map (fun i => i.size) = some 1)
    (dp : Option Addr) (dLen dCap : Nat) (t : ByteArray) (hd : a.eval d = .slice dp dLen dCap) (hs : a.eval s = .string t) (hle : t.size ≤ dLen)
    (g off : Nat) (cur : List Value) (T : TypeId) (hg : Row w g T cur (0, 0)) (hpos : 0 < t.size → dp = some ⟨g, off, none⟩) (hfit : off + t.size ≤ cur.length) (B : Nat) (w0 : World) (hb : Below B w0 w) (hBg : B ≤ g)
    (h : ∀ w', Hid (Row w' g T (splice cur off (byt t.data.toList)) (0, 0)) → Below B w0 w' → wpList P ops Q rest (a.put o.dst (goInt t.size)) w') :
    wpList P ops Q (o :: rest) a w := by
  have hbl : (byt t.data.toList).length = t.size := by rw [byt_length, ← Lib.size_eq]
  refine wpList_plain hgd fun K hK => ?_
  rcases Nat.eq_zero_or_pos t.size with h0 | h0
  · have hrun := Lib.run_copy_empty_string (P := P) w dT sT o.type elem dp dLen dCap t hu (by cases hq : P.info? elem with
      | none => simp [hq] at hsz
      | some i => rfl) h0
    unfold Oper.wp
    simp [execOp, ho, resolve, invoke, builtin, hd, hs, hrun, Result.andThen]
    refine hK _ _ ?_
    have e : byt t.data.toList = [] := List.eq_nil_of_length_eq_zero (by rw [hbl]; exact h0)
    have := h w (show Row w g T _ (0, 0) by rw [e]; simpa [splice] using hg) hb
    rw [h0] at this
    exact this
  · obtain rfl := hpos h0
    have hrun := Lib.run_copy_row_string (P := P) w dT sT o.type elem g off dLen dCap t _ T hu hsz hg hle (by simpa using hfit)
    unfold Oper.wp
    simp [execOp, ho, resolve, invoke, builtin, hd, hs, hrun, Result.andThen]
    refine hK _ _ (h _ ?_ (below_setRow hb hBg _))
    have h2 := setRow_heap w g _ (splice cur off (byt t.data.toList)).toArray T _ hg
    have e : (splice cur off (byt t.data.toList)) = (List.take off cur ++ (Lib.byteCells t.data.toList ++ List.drop (off + t.size) cur)) := by
      unfold splice; rw [hbl]; rfl
    show Row _ _ _ _ _
    unfold Row
    rw [← e]
    exact h2

theorem shift_bytes (x n : Nat) : ((x : Int) / 2 ^ (8 * n)) = ((x / 256 ^ n : Nat) : Int) := by
  have e : (2 : Int) ^ (8 * n) = ((256 ^ n : Nat) : Int) := by
    rw [show (256 : Nat) = 2 ^ 8 from rfl, ← Nat.pow_mul]; simp
  rw [e]; simp

theorem splice_nothing (l : List UInt8) (n : Nat) : splice (byt l) n (byt []) = byt l := by simp [splice, byt]

end Go.Proofs.Ytbganaaiaokfmaa
