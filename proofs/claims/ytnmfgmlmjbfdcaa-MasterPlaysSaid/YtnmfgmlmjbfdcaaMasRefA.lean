/-
  The walks over the document's answer for package master, part A: a number's bytes, what bytes are worth.
-/
import Derived.Test.YtnmfgmlmjbfdcaaMasPackB
import Derived.Test.YtnmfgmlmjbfdcaaMBlkEF
namespace Go.Proofs.Ytnmfgmlmjbfdcaa
open Go.RowKit

theorem mdiv_step (v k : Nat) : (v / 256 ^ k) / 256 = v / 256 ^ (k + 1) := by rw [Nat.div_div_eq_div_mul, Nat.pow_succ]
theorem msplice_grow (L : List Value) (o : Nat) (cs : List Value) (x : Value) (h : o + 1 + cs.length ≤ L.length) : (splice L (o + 1) cs).set o x = splice L o (x :: cs) := by
  have e1 : L.take (o + 1) = L.take o ++ [L[o]'(by omega)] := by rw [List.take_succ_eq_append_getElem (by omega)]
  have e2 : o = (L.take o).length := by rw [List.length_take]; omega
  unfold splice
  rw [e1, List.append_assoc, List.set_append_right _ _ (by omega)]
  rw [← e2, Nat.sub_self, show o + 1 + cs.length = o + (cs.length + 1) by omega]
  simp
theorem mbyte_num (v k : Nat) : (((v / 256 ^ k : Nat) : Int) % 256) = ((UInt8.ofNat (v / 256 ^ k)).toNat : Int) := by
  rw [UInt8.toNat_ofNat']
  simp
theorem mnumber_fill (n k v : Nat) (hk : k < n) :
    (splice (byt (List.replicate n 0)) (n - k) (byt (be v k))).set (n - 1 - k) (.int .u8 (((v / 256 ^ k : Nat) : Int) % 256)) = splice (byt (List.replicate n 0)) (n - (k + 1)) (byt (be v (k + 1))) := by
  have e := msplice_grow (byt (List.replicate n 0)) (n - (k + 1)) (byt (be v k)) (.int .u8 (((v / 256 ^ k : Nat) : Int) % 256)) (by rw [byt_length, byt_length, be_length, List.length_replicate]; omega)
  rw [show n - (k + 1) + 1 = n - k by omega] at e
  rw [show n - 1 - k = n - (k + 1) by omega, e, mbyte_num]
  rfl
theorem mfull (n v : Nat) : splice (byt (List.replicate n 0)) (n - n) (byt (be v n)) = byt (be v n) := by
  rw [Nat.sub_self]; simp [splice, byt, be_length]
theorem mreads {w : World} {g : Nat} {l : List UInt8} {m : Nat × Nat} (h : Row w g 5 (byt l) m) : Reads 5 w (some ⟨g, 0, none⟩) l := fun _ =>
  ⟨g, 0, byt l, m, rfl, h, fun j _ => by rw [Nat.zero_add]⟩

set_option maxRecDepth 100000 in
set_option maxHeartbeats 1000000 in
theorem mnum_any (v n : Nat) (w : World) (hn : n ≤ 8) (hv : v < 18446744073709551616) :
    Calls Try.prog 38 #[.int .u64 (v : Int), .int .i64 (n : Int)] w fun e w' => e = .returned (.string (tb (be v n))) ∧ Below w.heap.size w w' := by
  have hmk := makeZeros n (by omega) (n : Int) rfl w
  have HE := Lib.hid (show ∀ wx, Row wx w.heap.size 5 (byt (be v n)) (0, 0) → (convert 69 9 (.slice (some ⟨w.heap.size, 0, none⟩) n n)).run Try.prog wx = .ok (.string (tb (be v n))) wx from fun wx hr => text_bytes (T := 5) _ (be v n) n n wx (be_length _ _) (mreads hr))
  go_enter Try.func38, Try.ntmps38
  go_wp2
  go_loopw [0, 6] (fun x i wr => ∃ k : Nat, k ≤ n ∧ i = .int .i64 ((n : Int) - 1 - k) ∧ x = .int .u64 ((v / 256 ^ k : Nat) : Int) ∧ Below w.heap.size w wr ∧ Row wr w.heap.size 5 (splice (byt (List.replicate n 0)) (n - k) (byt (be v k))) (0, 0)) (fun _ i _ => (intOf i + 1).toNat)
  case atStart =>
    refine ⟨0, Nat.zero_le _, by simp, by simp, (Below.refl _ _).alloc (Nat.le_refl _) _, ?_⟩
    have := Row.new w 5 (byt (List.replicate n 0)) (0, 0)
    simpa [splice, be, byt] using this
  case round =>
    obtain ⟨k, hk, rfl, rfl, hb, hr⟩ := hrel
    by_cases hlt : k < n
    · have hcell : ∃ u, wr.cell? ⟨w.heap.size, n - 1 - k, none⟩ = some u := by
        rw [hr.cell]
        have hl : (splice (byt (List.replicate n 0)) (n - k) (byt (be v k))).length = n := by
          rw [length_splice _ _ _ (by rw [byt_length, byt_length, be_length]; simp; omega), byt_length]; simp
        exact ⟨_, List.getElem?_eq_getElem (by rw [hl]; omega)⟩
      obtain ⟨u0, hu0⟩ := hcell
      have hfree := hr.loose (n - 1 - k)
      have hst := hr.put (n - 1 - k) (.int .u8 (((v / 256 ^ k : Nat) : Int) % 256))
      rw [mnumber_fill n k v hlt] at hst
      have HST := Lib.hid hst
      have HB := Lib.hid (hb.setCell (p := ⟨w.heap.size, n - 1 - k, none⟩) (Nat.le_refl _) (.int .u8 (((v / 256 ^ k : Nat) : Int) % 256)))
      have HD := Lib.hid (mdiv_step v k)
      have hvk : v / 256 ^ k < 18446744073709551616 := Nat.lt_of_le_of_lt (Nat.div_le_self _ _) hv
      generalize hx : v / 256 ^ k = x at *
      clear hst hr hb hx HE
      go_wp2
      go_roundw
      case rel => exact ⟨k + 1, by omega, congrArg (Value.int IntKind.i64) (by omega), by rw [← HD.out]; simp, HB.out, HST.out⟩
      case measure => simp [intOf]; omega
    · obtain rfl : k = n := by omega
      rw [mfull] at hr
      have hct := HE.out wr hr
      obtain ⟨S, hS⟩ : ∃ S, tb (be v k) = S := ⟨_, rfl⟩
      rw [hS] at hct
      have HS := Lib.hid hS
      have HB := Lib.hid hb
      clear hS hr hb HE
      go_wp2
      go_ret
      exact ⟨by rw [HS.out]; rfl, HB.out⟩

theorem mindex_at (x : List UInt8) (j : Nat) (h : j < x.length) : ∀ W : World, (Instr.index 9 (.string (tb x)) (.int .i64 (j : Int))).run Try.prog W = .ok (.int .u8 ((x[j]).toNat : Int)) W := fun W => by
  rw [run_index_string _ _ _ _ _ Try.underlying9, dif_pos ⟨by omega, by rw [tb_size]; omega⟩]
  congr 3
theorem mval_step (x : List UInt8) (j : Nat) (h : j < x.length) : val (x.take (j + 1)) = val (x.take j) * 256 + (x[j]).toNat := by
  rw [List.take_succ_eq_append_getElem h, val_snoc]

set_option maxRecDepth 100000 in
set_option maxHeartbeats 1000000 in
theorem mworth_any (l : List UInt8) (w : World) (h8 : l.length ≤ 8) :
    Calls Try.prog 42 #[.string (tb l)] w fun e w' => e = .returned (.int .u64 (val l : Int)) ∧ w = w' := by
  have HIX := Lib.hid (fun j (hj : j < l.length) => mindex_at l j hj)
  have HVS := Lib.hid (fun j (hj : j < l.length) => mval_step l j hj)
  have HVL := Lib.hid (fun j (hj : j < l.length) => show val (l.take j) < 256 ^ 7 from val_lt_of (by rw [List.length_take]; omega))
  have HF := Lib.hid (show val (l.take l.length) = val l by rw [List.take_length])
  have zl : (tb l).size = l.length := tb_size _
  have zI : ((tb l).size : Int) ≤ 8 := by omega
  go_enter Try.func42, Try.ntmps42
  go_wp2_with fail
  go_loop [3, 4] (fun v i => ∃ k : Nat, k ≤ l.length ∧ i = .int .i64 k ∧ v = .int .u64 (val (l.take k) : Int)) (fun _ i => l.length - (intOf i).toNat)
  case atStart => exact ⟨0, by omega, rfl, by simp [val]⟩
  case round =>
    obtain ⟨k, hk, rfl, rfl⟩ := hrel
    by_cases hlt : k < l.length
    · have hix := HIX.out k hlt
      have hvs := Lib.hid (HVS.out k hlt)
      have hvl := HVL.out k hlt
      have hbl := (l[k]).toNat_lt
      obtain ⟨y, hy⟩ : ∃ y, (l[k]).toNat = y := ⟨_, rfl⟩
      obtain ⟨v, hv⟩ : ∃ v, val (l.take k) = v := ⟨_, rfl⟩
      rw [hy] at hix hvs hbl
      rw [hv] at hvl hvs ⊢
      have hkI : (k : Int) < ((tb l).size : Int) := by omega
      clear hy hv HIX HVS HVL HF
      go_wp2
      go_round
      case rel => exact ⟨k + 1, by omega, by go_num, by rw [hvs.out]; congr 1; omega⟩
      case measure => simp [intOf]; omega
    · obtain rfl : k = l.length := by omega
      rw [HF.out]
      have hkI : ¬ ((l.length : Int) < ((tb l).size : Int)) := by omega
      clear HIX HVS HVL HF
      go_wp2
      go_ret
      exact ⟨rfl, rfl⟩
end Go.Proofs.Ytnmfgmlmjbfdcaa
