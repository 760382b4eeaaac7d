/-
  The walks over package master, part C: what is a size, the room, the stamped sectors, Pack.
-/
import Derived.Test.YtnmfgmlmjbfdcaaMasTop
import Derived.Test.YtnmfgmlmjbfdcaaMOctA
import Derived.Test.YtnmfgmlmjbfdcaaBlkC
namespace Go.Proofs.Ytnmfgmlmjbfdcaa
open Go.RowKit

def isSz (n : Int) : Bool := decide (n.tmod 64 = 0) && (decide (64 ≤ n) && decide (n ≤ 16384))
set_option maxRecDepth 100000 in
set_option maxHeartbeats 1000000 in
theorem isSize_any (n : Int) (w : World) (_h1 : -9223372036854775808 ≤ n) (_h2 : n ≤ 9223372036854775807) : Calls Try.prog 34 #[.int .i64 n] w fun e w' => e = .returned (.bool (isSz n)) ∧ w = w' := by
  by_cases g1 : n.tmod 64 = 0
  · by_cases g2 : 64 ≤ n
    · by_cases g3 : n ≤ 16384
      · have e : isSz n = true := by unfold isSz; simp [g1, g2, g3]
        rw [e]
        go_enter Try.func34, Try.ntmps34
        go_wp2
        go_ret
        exact ⟨rfl, rfl⟩
      · have e : isSz n = false := by unfold isSz; simp [g1, g2, g3]
        rw [e]
        go_enter Try.func34, Try.ntmps34
        go_wp2
        go_ret
        exact ⟨rfl, rfl⟩
    · have e : isSz n = false := by unfold isSz; simp [g1, g2]
      rw [e]
      go_enter Try.func34, Try.ntmps34
      go_wp2
      go_ret
      exact ⟨rfl, rfl⟩
  · have e : isSz n = false := by unfold isSz; simp [g1]
    rw [e]
    go_enter Try.func34, Try.ntmps34
    go_wp2
    go_ret
    exact ⟨rfl, rfl⟩
theorem isSz_of (k : Nat) (h0 : 1 ≤ k) (h1 : k ≤ 256) : isSz ((k : Int) * 64) = true := by
  unfold isSz
  rw [Int.tmod_eq_emod_of_nonneg (by omega)]
  simp
  omega
theorem isSz_bad {n : Int} (h : n < 64 ∨ 16384 < n ∨ n % 64 ≠ 0) : isSz n = false := by
  unfold isSz
  by_cases g1 : 64 ≤ n
  · rw [Int.tmod_eq_emod_of_nonneg (by omega)]
    by_cases g2 : n ≤ 16384
    · have g3 : n % 64 ≠ 0 := by omega
      simp [g3]
    · simp [g2]
  · simp [g1]
theorem isSz_ok {n : Int} (h : isSz n = true) : ∃ k : Nat, n = (k : Int) * 64 ∧ 1 ≤ k ∧ k ≤ 256 := by
  by_cases hb : n < 64 ∨ 16384 < n ∨ n % 64 ≠ 0
  · rw [isSz_bad hb] at h; cases h
  · exact ⟨(n / 64).toNat, by omega, by omega, by omega⟩

set_option maxRecDepth 100000 in
theorem room_any (k : Nat) (w : World) (hk : k ≤ 100000) : Calls Try.prog 35 #[.int .i64 ((k : Int) * 64)] w fun e w' => e = .returned (.int .i64 ((k : Int) * 56 - 4)) ∧ w = w' := by
  have g4 : Int.tdiv ((k : Int) * 64) 64 = (k : Int) := by rw [Int.tdiv_eq_ediv_of_nonneg (by omega)]; omega
  have g5 : (k : Int) ≤ 100000 := by omega
  go_enter Try.func35, Try.ntmps35
  go_wp2
  go_ret
  exact ⟨rfl, rfl⟩

/-- Bytes laid into a row of bytes, from wherever. -/
theorem run_copy_bytes {P : Program} (w : World) (dT sT ty elem : TypeId) (g o n c : Nat) (ad : Addr) (l : List UInt8) (sc : Nat) (L : List Value) (t T : TypeId)
    (hu : P.underlying dT = some (.slice elem)) (hs : (P.info? elem).map (·.size) = some 1) (hg : Row w g t L (0, 0)) (hfit : o + n ≤ L.length) (hr : Reads T w (some ad) l) :
    (Builtin.copy_ #[dT, sT] ty #[.slice (some ⟨g, o, none⟩) n c, .slice (some ad) l.length sc]).run P w = .ok (.int .i64 ((min l.length n : Nat) : Int)) (w.setRow g (splice L o (byt (l.take n))).toArray) := by
  have hlen : (byt (l.take n)).length = min l.length n := by rw [byt_length, List.length_take]; omega
  have h := run_copy_row (P := P) w dT sT ty elem g o n c ad l.length sc L.toArray t (byt (l.take n)) hu hs hg hlen (fun j v hj => by
    have hjl : j < (l.take n).length := by
      have := (List.getElem?_eq_some_iff.1 hj).1
      rwa [byt_length] at this
    rw [List.length_take] at hjl
    obtain ⟨g', off, e, hc⟩ := hr.cell (show j < l.length by omega)
    injection e with e
    rw [e, Addr.add_lit, hc, ← hj, byt_get _ _ (by rw [List.length_take]; omega), List.getElem_take]) (by rw [hlen]; simp; omega) (byt_one _)
  rw [h]
  congr 1
  · show Value.int .i64 _ = _
    rw [hlen]
  · congr 2
    show _ = splice L o (byt (l.take n))
    unfold splice
    rw [List.append_assoc]

/-- The bytes behind k sectors: the rest is 0. -/
def stampL (v : Nat) (t : List UInt8) (K k : Nat) : List UInt8 := packL v t k ++ List.replicate ((K - k) * 64) 0
theorem stampL_all (v : Nat) (t : List UInt8) (K : Nat) : stampL v t K K = packL v t K := by unfold stampL; rw [Nat.sub_self, Nat.zero_mul, List.replicate_zero, List.append_nil]
theorem stampL_length {v K k : Nat} {t : List UInt8} (ht : t.length = K * 56) (hk : k ≤ K) : (stampL v t K k).length = K * 64 := by
  unfold stampL
  rw [List.length_append, packL_length _ _ _ (by rw [ht]; omega), List.length_replicate]
  omega
theorem splice_at {α : Type} (A Z cs : List α) (o : Nat) (h : A.length = o) : splice (A ++ Z) o cs = A ++ (cs ++ Z.drop cs.length) := by
  subst h
  unfold splice
  rw [List.take_left, List.drop_append, List.drop_of_length_le (by omega), List.nil_append, Nat.add_sub_cancel_left]
theorem seg_padded (l : List UInt8) (K k : Nat) (hl : l.length ≤ K * 56) (hk : k < K) : seg (pad (K * 56) l) (k * 56) 56 = (l.drop (k * 56)).take 56 ++ List.replicate (56 - ((l.drop (k * 56)).take 56).length) 0 := by
  unfold seg pad
  rw [List.take_of_length_le hl, List.drop_append, List.take_append, List.drop_replicate, List.take_replicate]
  congr 2
  rw [List.length_take, List.length_drop]
  omega
theorem stampL_step (v : Nat) (l : List UInt8) (K k : Nat) (hl : l.length ≤ K * 56) (hk : k < K) :
    splice (splice (stampL v (pad (K * 56) l) K k) (k * 64) (be v 8)) (k * 64 + 8) ((l.drop (k * 56)).take 56) = stampL v (pad (K * 56) l) K (k + 1) := by
  have hp : (packL v (pad (K * 56) l) k).length = k * 64 := packL_length _ _ _ (by rw [pad_length]; omega)
  have hlt : ((l.drop (k * 56)).take 56).length ≤ 56 := by rw [List.length_take]; omega
  unfold stampL
  rw [splice_at _ _ _ _ hp, ← List.append_assoc, splice_at _ _ _ _ (by rw [List.length_append, hp, be_length]), be_length, packL, seg_padded l K k hl hk]
  generalize ((l.drop (k * 56)).take 56) = P at *
  simp only [List.append_assoc]
  congr 3
  rw [List.drop_replicate, List.drop_replicate, List.replicate_append_replicate]
  congr 1
  omega

theorem below_setRow {B : Nat} {w wr : World} {g : Nat} (h : Below B w wr) (hg : B ≤ g) (cs : Array Value) : Below B w (wr.setRow g cs) :=
  ⟨h.os, h.tape, h.output, by simpa [World.setRow] using h.size, fun k hk => (setRow_other wr g k cs (by omega)).trans (h.block k hk)⟩
theorem slice_behind {P : Program} {t : TypeId} (ht : P.underlying t = some (.slice (P.elem t))) (hs : ∀ w, (sizeOf (P.elem t)).run P w = .ok 1 w) (A : Option Addr) (n c l : Nat) (h1 : l ≤ n) (w : World) :
    (Instr.slice t (.slice A n c) (some (.int .i64 (l : Int))) none none).run P w = .ok (.slice (if c = l then A else A.map (·.add l)) (n - l) (c - l)) w := by
  rw [run_slice_l (w := w) t _ n c ht .i64 (l : Int) (by omega) (by omega), hs]
  simp only [Result.andThen, sliced, Nat.mul_one, Int.toNat_natCast]
theorem reads_behind {T : TypeId} {w : World} {ad : Addr} {l : List UInt8} {n c : Nat} (h : Reads T w (some ad) l) (hl : l.length ≤ c) : ∃ ad', (if c = n then some ad else (some ad).map (·.add n)) = some ad' ∧ Reads T w (some ad') (l.drop n) := by
  have := h.drop n c hl
  by_cases e : c = n
  · rw [if_pos e] at this ⊢; exact ⟨_, rfl, this⟩
  · rw [if_neg e] at this ⊢; exact ⟨_, rfl, this⟩

set_option maxRecDepth 100000 in
set_option maxHeartbeats 2000000 in
/-- The bytes of sectors: each with the stamp, and its piece. -/
theorem stamped_any (v K : Nat) (l : List UInt8) (ad : Addr) (c : Nat) (w : World) (hK : K ≤ 256) (hl : l.length ≤ K * 56) (hlc : l.length ≤ c) (hc : c ≤ 281474976710656) (hr : Reads 5 w (some ad) l) :
    Calls Try.prog 37 #[.int .u64 (v : Int), .slice (some ad) l.length c, .int .i64 ((K : Int) * 64)] w fun e w' => e = .returned (.string (tb (packL v (pad (K * 56) l) K))) ∧ Below w.heap.size w w' := by
  have HP := put_wide none [] 0 v 8 w Reads.nil (by decide) (by rfl)
  rw [List.length_nil, List.nil_append] at HP
  have HPD := Lib.hid HP
  have hK' : (K : Int) ≤ 256 := by omega
  clear HP
  go_enter Try.func37, Try.ntmps37
  go_wp2_with fail
  refine HPD.out.mono ?_
  rintro e w1 ⟨rfl, hb1, hrow1⟩
  have HB1 := Lib.hid hb1
  have HR1 := Lib.hid hrow1
  have HRD := Lib.hid (hr.below hb1 (Nat.le_refl _))
  clear hb1 hrow1 hr HPD
  have hmk := make_bytes (K * 64) (by omega) ((K : Int) * 64) (by omega) w1
  go_wp2_with fail
  have HW2 := Lib.hid ((Below.refl w1.heap.size w1).alloc (Nat.le_refl _) (.cells (byt (List.replicate (K * 64) 0)).toArray 5))
  have HR2 := Lib.hid (Row.new w1 5 (byt (List.replicate (K * 64) 0)) (0, 0))
  obtain ⟨w2, hw2⟩ : ∃ w2, w1.alloc (.cells (byt (List.replicate (K * 64) 0)).toArray 5) = w2 := ⟨_, rfl⟩
  rw [hw2] at HW2 HR2 ⊢
  obtain ⟨B, hB⟩ : ∃ B, w1.heap.size = B := ⟨_, rfl⟩
  rw [hB] at HW2 HR2 ⊢
  have HBB := Lib.hid hB
  obtain ⟨G, hG⟩ : ∃ G, w.heap.size = G := ⟨_, rfl⟩
  rw [hG] at HR1 ⊢
  have HGB : Hid (G < B) := Lib.hid (by rw [← hB]; exact HR1.out.lt)
  clear hmk hw2
  go_loopw [1, 9] (fun bv at_ wr => ∃ (k : Nat) (ad' : Addr) (c' : Nat), k ≤ K ∧ at_ = .int .i64 ((64 * k : Nat) : Int) ∧ bv = .slice (some ad') (l.drop (k * 56)).length c' ∧ (l.drop (k * 56)).length ≤ c' ∧ c' ≤ 281474976710656 ∧
    Hid (Reads 5 w1 (some ad') (l.drop (k * 56))) ∧ Hid (Row wr B 5 (byt (stampL v (pad (K * 56) l) K k)) (0, 0)) ∧ Hid (Below B w1 wr)) (fun _ i _ => K * 64 + 64 - (intOf i).toNat)
  case atStart =>
    refine ⟨0, ad, c, Nat.zero_le _, rfl, by simp, by simpa using hlc, hc, by simpa using HRD, ?_, HW2⟩
    have e : stampL v (pad (K * 56) l) K 0 = List.replicate (K * 64) 0 := by simp [stampL, packL]
    rw [e]
    exact HR2
  case round =>
    obtain ⟨k, ad', c', hk, rfl, rfl, hdc, hcc, HRk, HOk, HBk⟩ := hrel
    by_cases hlt : k < K
    · have h1 : 64 * (k : Int) < (K : Int) * 64 := by omega
      have h2 : (k : Int) ≤ 256 := by omega
      obtain ⟨t, ht⟩ : ∃ t, l.drop (k * 56) = t := ⟨_, rfl⟩
      obtain ⟨cc, hcc2⟩ : ∃ cc, K * 64 - 64 * k = cc := ⟨_, rfl⟩
      have hlenS : (byt (stampL v (pad (K * 56) l) K k)).length = K * 64 := by rw [byt_length, stampL_length (pad_length _ _) hk]
      have hs1 := slice_between (P := Try.prog) (t := 69) Try.underlying69 (fun w => by kernel_rfl) B 0 (K * 64) (K * 64) (64 * k) (64 * k + 64) (by omega) (by omega) (by omega)
      rw [hcc2, show 64 * k + 64 - 64 * k = 64 by omega, Nat.zero_add, show (((64 * k + 64 : Nat)) : Int) = 64 * (k : Int) + 64 by omega, show (((64 * k : Nat)) : Int) = 64 * (k : Int) by omega] at hs1
      have hread1 : Reads 5 wr (some ⟨G, 0, none⟩) (be v 8) := row_reads (HR1.out.below HBk.out (by rw [← HBB.out]; exact HR1.out.lt))
      have hcp1 := fun ty => run_copy_bytes (P := Try.prog) wr 69 69 ty 5 B (64 * k) 64 cc ⟨G, 0, none⟩ (be v 8) 8 _ 5 5 Try.underlying69 Try.size_u8 HOk.out (by rw [hlenS]; omega) hread1
      rw [be_length, List.take_of_length_le (by rw [be_length]; decide)] at hcp1
      have HRow3 := Lib.hid (HOk.out.setRow_ (cs := splice (byt (stampL v (pad (K * 56) l) K k)) (64 * k) (byt (be v 8))))
      have HB3 := Lib.hid (below_setRow HBk.out (Nat.le_refl B) (splice (byt (stampL v (pad (K * 56) l) K k)) (64 * k) (byt (be v 8))).toArray)
      obtain ⟨w3, hw3⟩ : ∃ w3, wr.setRow B (splice (byt (stampL v (pad (K * 56) l) K k)) (64 * k) (byt (be v 8))).toArray = w3 := ⟨_, rfl⟩
      simp only [hw3] at hcp1 HRow3 HB3
      have hs2 := slice_behind (P := Try.prog) (t := 69) Try.underlying69 (fun w => by kernel_rfl) (some ⟨B, 64 * k, none⟩) 64 cc 8 (by decide)
      rw [if_neg (show ¬ cc = 8 by omega), Option.map_some, Addr.add_lit, show 64 - 8 = 56 from rfl, show (((8 : Nat)) : Int) = 8 from rfl] at hs2
      rw [show (((min 8 64 : Nat)) : Int) = 8 from rfl] at hcp1
      -- the piece
      have hread2 : Reads 5 w3 (some ad') (l.drop (k * 56)) := HRk.out.below HB3.out (by rw [HBB.out]; exact Nat.le_refl _)
      have hcp2 := fun ty => run_copy_bytes (P := Try.prog) w3 69 69 ty 5 B (64 * k + 8) 56 (cc - 8) ad' (l.drop (k * 56)) c' _ 5 5 Try.underlying69 Try.size_u8 HRow3.out (by rw [length_splice _ _ _ (by rw [hlenS, byt_length, be_length]; omega), hlenS]; omega) hread2
      have hstep : splice (splice (byt (stampL v (pad (K * 56) l) K k)) (64 * k) (byt (be v 8))) (64 * k + 8) (byt ((l.drop (k * 56)).take 56)) = byt (stampL v (pad (K * 56) l) K (k + 1)) := by
        rw [← stampL_step v l K k hl hlt, Nat.mul_comm 64 k]
        unfold byt
        rw [splice_map, splice_map]
      rw [hstep] at hcp2
      have HRow4 := Lib.hid (HRow3.out.setRow_ (cs := byt (stampL v (pad (K * 56) l) K (k + 1))))
      have HB4 := Lib.hid (below_setRow HB3.out (Nat.le_refl B) (byt (stampL v (pad (K * 56) l) K (k + 1))).toArray)
      obtain ⟨w4, hw4⟩ : ∃ w4, w3.setRow B (byt (stampL v (pad (K * 56) l) K (k + 1))).toArray = w4 := ⟨_, rfl⟩
      simp only [hw4] at hcp2 HRow4 HB4
      -- what is left of the bytes
      obtain ⟨m, hm⟩ : ∃ m, min (l.drop (k * 56)).length 56 = m := ⟨_, rfl⟩
      have hml : m ≤ (l.drop (k * 56)).length := by omega
      have hm56 : m ≤ 56 := by omega
      have hmI : (m : Int) ≤ ((l.drop (k * 56)).length : Int) := by omega
      rw [hm] at hcp2
      obtain ⟨ad2, had2, hrd2⟩ := reads_behind (n := m) HRk.out hdc
      have hs3 := slice_behind (P := Try.prog) (t := 69) Try.underlying69 (fun w => by kernel_rfl) (some ad') (l.drop (k * 56)).length c' m hml
      rw [had2] at hs3
      have hdd : (l.drop (k * 56)).drop m = l.drop ((k + 1) * 56) := by
        rw [List.drop_drop]
        rcases Nat.lt_or_ge (l.drop (k * 56)).length 56 with h | h
        · rw [List.length_drop] at h hm
          rw [List.drop_of_length_le (by omega), List.drop_of_length_le (by omega)]
        · rw [show k * 56 + m = (k + 1) * 56 by omega]
      rw [hdd] at hrd2
      have HRD2 := Lib.hid hrd2
      have hlen2 : (l.drop (k * 56)).length - m = (l.drop ((k + 1) * 56)).length := by rw [← hdd, List.length_drop (i := m)]
      rw [hlen2] at hs3
      have hfin : (l.drop ((k + 1) * 56)).length ≤ c' - m := by omega
      have hfin2 : c' - m ≤ 281474976710656 := by omega
      obtain ⟨n1, hn1⟩ : ∃ n1, (l.drop (k * 56)).length = n1 := ⟨_, rfl⟩
      obtain ⟨n2, hn2⟩ : ∃ n2, (l.drop ((k + 1) * 56)).length = n2 := ⟨_, rfl⟩
      have HN2 := Lib.hid hn2
      simp only [hn1, hn2] at hs3 hcp2 hmI hfin ⊢
      clear hw3 hw4 hread1 hread2 hstep hrd2 hlenS hdd had2 hlen2 hm hml hn1 hdc HOk HRk HRow3 HBk HRD
      go_wp2_with fail
      go_roundw
      case rel => exact ⟨k + 1, ad2, c' - m, by omega, by go_num, by rw [HN2.out], by rw [HN2.out]; exact hfin, hfin2, HRD2, HRow4, HB4⟩
      case measure => simp [intOf]; omega
    · obtain rfl : k = K := by omega
      have h1 : ¬ 64 * (k : Int) < (k : Int) * 64 := by omega
      have hread : Reads 5 wr (some ⟨B, 0, none⟩) (packL v (pad (k * 56) l) k) := by
        have := row_reads HOk.out
        rw [stampL_all] at this
        exact this
      have hct := text_bytes (T := 5) (some ⟨B, 0, none⟩) (packL v (pad (k * 56) l) k) (k * 64) (k * 64) wr (packL_length _ _ _ (by rw [pad_length]; exact Nat.le_refl _)) hread
      have hbel : Below w.heap.size w wr := HB1.out.trans (HBk.out.mono (by rw [← HBB.out]; exact HB1.out.size))
      have HE := Lib.hid hbel
      rw [hG] at HE
      clear hread hbel HOk HRk HBk
      go_wp2
      go_ret
      exact ⟨rfl, HE.out⟩
end Go.Proofs.Ytnmfgmlmjbfdcaa
