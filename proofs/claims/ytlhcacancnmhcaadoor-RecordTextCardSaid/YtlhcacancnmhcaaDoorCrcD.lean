/-
  The walks over package crc, part D: Open.
-/
import Derived.Test.YtlhcacancnmhcaaDoorCrcC
import Derived.Deep.RegionHeld3
import Derived.Laws.StructEq
import Derived.ChangeKeysEq
import Derived.Deep.DeepCutAuto
namespace Go.Proofs.YtlhcacancnmhcaaDoor
open Go.RowKit

@[go_sem] theorem Tryd.eqA4 (a b c d x y z u : Int) (w : World) : (Op.equalIn 10000 63 (.agg #[.int .u8 a, .int .u8 b, .int .u8 c, .int .u8 d]) (.agg #[.int .u8 x, .int .u8 y, .int .u8 z, .int .u8 u])).run Tryd.prog w = .ok (a == x && b == y && c == z && d == u) w := by
  have u3 := Tryd.underlying5
  have a3 := Tryd.isAgg5
  have z3 := Tryd.sizeOf5
  rw [show (10000 : Nat) = 9999 + 1 from rfl, Op.equalIn]
  simp only [Sem.run_bind, run_underlying Tryd.underlying63, Result.andThen_ok]
  simp only [Std.Legacy.Range.forIn_eq_forIn_range', Std.Legacy.Range.size, Nat.sub_zero, Nat.add_sub_cancel, Nat.div_one, List.range'_succ, List.range'_zero, List.forIn_cons, List.forIn_nil]
  go_simp
  by_cases h1 : a = x <;> by_cases h2 : b = y <;> by_cases h3 : c = z <;> by_cases h4 : d = u <;> simp [h1, h2, h3, h4]

set_option maxHeartbeats 400000 in
theorem open_short (A : Option Addr) (n c : Nat) (w : World) (hn : n < 4) :
    Calls Tryd.prog 37 #[.slice A n c] w fun e w' => e = .returned (.tuple #[.slice none 0 0, .bool false]) ∧ w = w' := by
  go_enter Tryd.func37, Tryd.ntmps37
  go_wp2
  go_ret2
  exact ⟨rfl, rfl⟩

/-- Four bytes of a row of their own. -/
def Four (w : World) (g : Nat) (t0 t1 t2 t3 : UInt8) : Prop :=
  w.cell? ⟨g, 0, none⟩ = some (.int .u8 (t0.toNat : Int)) ∧ w.cell? ⟨g, 1, none⟩ = some (.int .u8 (t1.toNat : Int)) ∧ w.cell? ⟨g, 2, none⟩ = some (.int .u8 (t2.toNat : Int)) ∧ w.cell? ⟨g, 3, none⟩ = some (.int .u8 (t3.toNat : Int))

theorem four_others {t0 t1 t2 t3 b0 b1 b2 b3 : UInt8} (hne : ¬ (t0 = b0 ∧ t1 = b1 ∧ t2 = b2 ∧ t3 = b3)) :
    (!(t0.toNat : Int) == (b0.toNat : Int) || !(t1.toNat : Int) == (b1.toNat : Int) || !(t2.toNat : Int) == (b2.toNat : Int) || !(t3.toNat : Int) == (b3.toNat : Int)) = true := by
  have hcmp : ((t0.toNat : Int) == (b0.toNat : Int) && (t1.toNat : Int) == (b1.toNat : Int) && (t2.toNat : Int) == (b2.toNat : Int) && (t3.toNat : Int) == (b3.toNat : Int)) = false := by
    rw [Bool.eq_false_iff]
    intro h
    simp only [Bool.and_eq_true, beq_iff_eq, Int.natCast_inj, UInt8.toNat_inj] at h
    exact hne ⟨h.1.1.1, h.1.1.2, h.1.2, h.2⟩
  revert hcmp
  cases ((t0.toNat : Int) == (b0.toNat : Int)) <;> cases ((t1.toNat : Int) == (b1.toNat : Int)) <;> cases ((t2.toNat : Int) == (b2.toNat : Int)) <;> cases ((t3.toNat : Int) == (b3.toNat : Int)) <;> simp

theorem four_same (t0 t1 t2 t3 : UInt8) :
    (!(t0.toNat : Int) == (t0.toNat : Int) || !(t1.toNat : Int) == (t1.toNat : Int) || !(t2.toNat : Int) == (t2.toNat : Int) || !(t3.toNat : Int) == (t3.toNat : Int)) = false := by
  simp

theorem Four.keeps {w w' : World} {g : Nat} {t0 t1 t2 t3 : UInt8} (h : Four w g t0 t1 t2 t3) (hb : Below w.heap.size w w') (hg : g < w.heap.size) : Four w' g t0 t1 t2 t3 :=
  ⟨(hb.cell (p := ⟨g, 0, none⟩) hg).trans h.1, (hb.cell (p := ⟨g, 1, none⟩) hg).trans h.2.1, (hb.cell (p := ⟨g, 2, none⟩) hg).trans h.2.2.1, (hb.cell (p := ⟨g, 3, none⟩) hg).trans h.2.2.2⟩
theorem Four.of_row {w : World} {g : Nat} {T : TypeId} {t0 t1 t2 t3 : UInt8} {m : Nat × Nat} (h : Row w g T (byt [t0, t1, t2, t3]) m) : Four w g t0 t1 t2 t3 :=
  ⟨by rw [h.cell]; rfl, by rw [h.cell]; rfl, by rw [h.cell]; rfl, by rw [h.cell]; rfl⟩
theorem Four.lt {w : World} {g : Nat} {t0 t1 t2 t3 : UInt8} (h : Four w g t0 t1 t2 t3) : g < w.heap.size := by
  rcases Nat.lt_or_ge g w.heap.size with hh | hh
  · exact hh
  · have e0 : w.heap[g]? = none := Array.getElem?_eq_none hh
    have h0 := h.1
    simp only [World.cell?, e0] at h0
    cases h0

theorem sum_four {T : TypeId} (A : Option Addr) (l : List UInt8) (n c m g : Nat) (t0 t1 t2 t3 : UInt8) (w : World) (hn : l.length = n) (hT : Tab w) (hr : Reads T w A l) (hl : n ≤ 140737488355328) (hm : more_ 0 l = m) (h4 : Four w g t0 t1 t2 t3) :
    Calls Tryd.prog 26 #[.slice A n c] w fun e w' => e = .returned (.int .u32 (m : Int)) ∧ Below w.heap.size w w' ∧ Four w' g t0 t1 t2 t3 := by
  subst hn; subst hm
  exact (sum_any A l c w hT hr hl).mono fun _ _ ⟨he, hb⟩ => ⟨he, hb, h4.keeps hb h4.lt⟩

theorem encoded_held (s g : Nat) (b0 b1 b2 b3 t0 t1 t2 t3 : UInt8) (w : World) (hs : s < 4294967296) (h : le4 s = [b0, b1, b2, b3]) (h4 : Four w g t0 t1 t2 t3) :
    Calls Tryd.prog 25 #[.int .u32 (s : Int)] w fun e w' => e = .returned (.agg #[.int .u8 (b0.toNat : Int), .int .u8 (b1.toNat : Int), .int .u8 (b2.toNat : Int), .int .u8 (b3.toNat : Int)]) ∧ Below w.heap.size w w' ∧ Four w' g t0 t1 t2 t3 :=
  (encoded_four s b0 b1 b2 b3 w hs h).mono fun _ _ ⟨he, hb⟩ => ⟨he, hb, h4.keeps hb h4.lt⟩

set_option maxHeartbeats 2000000 in
theorem open_refuses {T : TypeId} (A : Option Addr) (z : List UInt8) (n c : Nat) (w : World) (hn : z.length = n) (hT : Tab w) (hr : Reads T w A z) (h4 : 4 ≤ n) (hl : n ≤ 1000000) (hc : n ≤ c) (hno : ¬ Sealed z) :
    Calls Tryd.prog 37 #[.slice A n c] w fun e w' => e = .returned (.tuple #[.slice none 0 0, .bool false]) ∧ Below w.heap.size w w' := by
  obtain ⟨k, rfl⟩ : ∃ k, n = k + 4 := ⟨n - 4, by omega⟩
  have HT := Lib.hid hT
  have HR := Lib.hid (hr.take k)
  have HR2 := Lib.hid (hr.drop k c (by omega))
  obtain ⟨t0, t1, t2, t3, ht⟩ : ∃ t0 t1 t2 t3, z.drop k = [t0, t1, t2, t3] := by
    have : (z.drop k).length = 4 := by rw [List.length_drop]; omega
    match z.drop k, this with
    | [a, b, c, d], _ => exact ⟨a, b, c, d, rfl⟩
  have HTL := Lib.hid (show (z.take k).length = k by rw [List.length_take]; omega)
  obtain ⟨m, hm⟩ : ∃ m, more_ 0 (z.take k) = m := ⟨_, rfl⟩
  have HM := Lib.hid hm
  have HML := Lib.hid (show m < 4294967296 by rw [← hm]; exact more_lt 0 _ (by decide))
  obtain ⟨b0, b1, b2, b3, hle⟩ : ∃ b0 b1 b2 b3 : UInt8, le4 m = [b0, b1, b2, b3] := ⟨_, _, _, _, rfl⟩
  have HLE := Lib.hid hle
  have hne : ¬ (t0 = b0 ∧ t1 = b1 ∧ t2 = b2 ∧ t3 = b3) := by
    rintro ⟨rfl, rfl, rfl, rfl⟩
    refine hno ⟨by omega, ?_⟩
    rw [hn, Nat.add_sub_cancel, ht, hm, hle]
  have HCMP := Lib.hid (four_others hne)
  rw [ht, if_neg (by omega)] at HR2
  clear hT hr hn hno ht hm hle hne
  generalize z.take k = y at *
  have hk0 : (0 : Int) ≤ (k : Int) := by omega
  have hsl : (k : Int) ≤ (k : Int) + 4 := by omega
  have hck : ¬ c = k := by omega
  have hkc : (k : Int) ≤ (c : Int) := by omega
  go_enter Tryd.func37, Tryd.ntmps37
  go_wp2_with fail
  go_still_tail 4, (by kernel_rfl)
  change wpList _ _ _ _ _ (w.alloc _).drew
  refine wpList_copy_splice rfl (.tmp 12) (.tmp 15) 47 47 rfl 5 Tryd.underlying47 Tryd.size_u8 (some ⟨w.heap.size, 0, none⟩) (A.map (·.add k)) 4 4 4 (c - k) rfl rfl w.heap.size 0 [.int .u8 0, .int .u8 0, .int .u8 0, .int .u8 0] 63 (Row.new w 63 _ (0, 0)).drew (byt [t0, t1, t2, t3]) rfl ?hpos2 (by simp [byt]) (byt_one _) w.heap.size w ((Below.refl _ _).alloc (Nat.le_refl _) _).drew (Nat.le_refl _) ?_
  case hpos2 =>
    intro _
    obtain ⟨g, off, cs, mk, hA, hrow, hcs⟩ := HR2.out (by simp)
    refine ⟨rfl, _, hA, fun j v hj => ?_⟩
    have hjl : j < [t0, t1, t2, t3].length := by
      have := (List.getElem?_eq_some_iff.1 hj).1
      rwa [byt_length] at this
    rw [Addr.add_lit, ((hrow.alloc _).drew).cell, hcs j hjl, hj]
  intro w5 hg5 hb5
  have HF5 := Lib.hid (Four.of_row (show Row w5 w.heap.size 63 (byt [t0, t1, t2, t3]) (0, 0) from hg5.out))
  have HB5 := Lib.hid hb5
  have HS := Lib.hid (sum_four A y k c m w.heap.size t0 t1 t2 t3 w5.drew HTL.out (HT.out.keeps hb5.drew) (HR.out.below hb5.drew (Nat.le_refl _)) (by omega) HM.out HF5.out)
  obtain ⟨f0, f1, f2, f3⟩ := HF5.out
  clear hg5 hb5 HF5
  go_upto_region 6 with fail
  go_frame
  go_cut [23] (fun s wx => s = .bool true ∧ Below w.heap.size w wx)
  case first =>
    go_region_held3 (fun w' => w'.cell? ⟨w.heap.size, 0, none⟩ = some (.int .u8 (t0.toNat : Int)) ∧ w'.cell? ⟨w.heap.size, 1, none⟩ = some (.int .u8 (t1.toNat : Int)) ∧ w'.cell? ⟨w.heap.size, 2, none⟩ = some (.int .u8 (t2.toNat : Int)) ∧ w'.cell? ⟨w.heap.size, 3, none⟩ = some (.int .u8 (t3.toNat : Int))) (go_keep)
      (first
        | (go_at_call 26; refine HS.out.mono ?_; rintro e w6 ⟨rfl, hb6, f0, f1, f2, f3⟩)
        | (go_at_call 25; refine (encoded_held m w.heap.size b0 b1 b2 b3 t0 t1 t2 t3 _ HML.out HLE.out ?_).mono ?_; (exact ⟨by assumption, by assumption, by assumption, by assumption⟩); rintro e w7 ⟨rfl, hb7, f0, f1, f2, f3⟩))
    all_goals
      go_wp2_with fail
      go_meet
      exact ⟨by rw [HCMP.out], (HB5.out.drew.trans (hb6.mono HB5.out.size)).trans (hb7.mono (Nat.le_trans HB5.out.size hb6.size))⟩
  case rest =>
    obtain ⟨rfl, hb⟩ := hcut
    go_wp2
    go_ret2
    exact ⟨rfl, hb⟩

/-- A slice of new bytes, and true. -/
def NewT (w : World) (n : Nat) (r : List UInt8) (e : Ending) (w' : World) : Prop :=
  ∃ g cap, e = .returned (.tuple #[.slice (some ⟨g, 0, none⟩) n cap, .bool true]) ∧ r.length = n ∧ n ≤ cap ∧ Reads 5 w' (some ⟨g, 0, none⟩) r ∧ Below w.heap.size w w'

set_option maxHeartbeats 2000000 in
theorem open_takes {T : TypeId} (A : Option Addr) (z : List UInt8) (n c : Nat) (w : World) (hn : z.length = n) (hT : Tab w) (hr : Reads T w A z) (h4 : 4 ≤ n) (hl : n ≤ 1000000) (hc : n ≤ c) (hyes : Sealed z) :
    Calls Tryd.prog 37 #[.slice A n c] w (NewT w (n - 4) (z.take (n - 4))) := by
  obtain ⟨k, rfl⟩ : ∃ k, n = k + 4 := ⟨n - 4, by omega⟩
  have HT := Lib.hid hT
  have HR := Lib.hid (hr.take k)
  have HR2 := Lib.hid (hr.drop k c (by omega))
  obtain ⟨t0, t1, t2, t3, ht⟩ : ∃ t0 t1 t2 t3, z.drop k = [t0, t1, t2, t3] := by
    have : (z.drop k).length = 4 := by rw [List.length_drop]; omega
    match z.drop k, this with
    | [a, b, c, d], _ => exact ⟨a, b, c, d, rfl⟩
  have HTL := Lib.hid (show (z.take k).length = k by rw [List.length_take]; omega)
  obtain ⟨m, hm⟩ : ∃ m, more_ 0 (z.take k) = m := ⟨_, rfl⟩
  have HM := Lib.hid hm
  have HML := Lib.hid (show m < 4294967296 by rw [← hm]; exact more_lt 0 _ (by decide))
  obtain ⟨b0, b1, b2, b3, hle⟩ : ∃ b0 b1 b2 b3 : UInt8, le4 m = [b0, b1, b2, b3] := ⟨_, _, _, _, rfl⟩
  have HLE := Lib.hid hle
  have hsame : t0 = b0 ∧ t1 = b1 ∧ t2 = b2 ∧ t3 = b3 := by
    have h := hyes.2
    rw [hn, Nat.add_sub_cancel, ht, hm, hle] at h
    injection h with h0 h
    injection h with h1 h
    injection h with h2 h
    injection h with h3 h
    exact ⟨h0, h1, h2, h3⟩
  obtain ⟨rfl, rfl, rfl, rfl⟩ := hsame
  have HCMP := Lib.hid (four_same t0 t1 t2 t3)
  rw [Nat.add_sub_cancel]
  rw [ht, if_neg (by omega)] at HR2
  clear hT hr hn hyes ht hm hle
  generalize z.take k = y at *
  have hk0 : (0 : Int) ≤ (k : Int) := by omega
  have hsl : (k : Int) ≤ (k : Int) + 4 := by omega
  have hck : ¬ c = k := by omega
  have hkc : (k : Int) ≤ (c : Int) := by omega
  have hmk := make_bytes k (by omega) (k : Int) rfl
  go_enter Tryd.func37, Tryd.ntmps37
  go_wp2_with fail
  go_still_tail 4, (by kernel_rfl)
  change wpList _ _ _ _ _ (w.alloc _).drew
  refine wpList_copy_splice rfl (.tmp 12) (.tmp 15) 47 47 rfl 5 Tryd.underlying47 Tryd.size_u8 (some ⟨w.heap.size, 0, none⟩) (A.map (·.add k)) 4 4 4 (c - k) rfl rfl w.heap.size 0 [.int .u8 0, .int .u8 0, .int .u8 0, .int .u8 0] 63 (Row.new w 63 _ (0, 0)).drew (byt [t0, t1, t2, t3]) rfl ?hpos2 (by simp [byt]) (byt_one _) w.heap.size w ((Below.refl _ _).alloc (Nat.le_refl _) _).drew (Nat.le_refl _) ?_
  case hpos2 =>
    intro _
    obtain ⟨g, off, cs, mk, hA, hrow, hcs⟩ := HR2.out (by simp)
    refine ⟨rfl, _, hA, fun j v hj => ?_⟩
    have hjl : j < [t0, t1, t2, t3].length := by
      have := (List.getElem?_eq_some_iff.1 hj).1
      rwa [byt_length] at this
    rw [Addr.add_lit, ((hrow.alloc _).drew).cell, hcs j hjl, hj]
  intro w5 hg5 hb5
  have HF5 := Lib.hid (Four.of_row (show Row w5 w.heap.size 63 (byt [t0, t1, t2, t3]) (0, 0) from hg5.out))
  have HB5 := Lib.hid hb5
  have HS := Lib.hid (sum_four A y k c m w.heap.size t0 t1 t2 t3 w5.drew HTL.out (HT.out.keeps hb5.drew) (HR.out.below hb5.drew (Nat.le_refl _)) (by omega) HM.out HF5.out)
  obtain ⟨f0, f1, f2, f3⟩ := HF5.out
  clear hg5 hb5 HF5
  go_upto_region 6 with fail
  go_frame
  go_cut [23] (fun s wx => s = .bool false ∧ Below w.heap.size w wx)
  case first =>
    go_region_held3 (fun w' => w'.cell? ⟨w.heap.size, 0, none⟩ = some (.int .u8 (t0.toNat : Int)) ∧ w'.cell? ⟨w.heap.size, 1, none⟩ = some (.int .u8 (t1.toNat : Int)) ∧ w'.cell? ⟨w.heap.size, 2, none⟩ = some (.int .u8 (t2.toNat : Int)) ∧ w'.cell? ⟨w.heap.size, 3, none⟩ = some (.int .u8 (t3.toNat : Int))) (go_keep)
      (first
        | (go_at_call 26; refine HS.out.mono ?_; rintro e w6 ⟨rfl, hb6, f0, f1, f2, f3⟩)
        | (go_at_call 25; refine (encoded_held m w.heap.size t0 t1 t2 t3 t0 t1 t2 t3 _ HML.out HLE.out ?_).mono ?_; (exact ⟨by assumption, by assumption, by assumption, by assumption⟩); rintro e w7 ⟨rfl, hb7, f0, f1, f2, f3⟩))
    all_goals
      go_wp2_with fail
      go_meet
      exact ⟨by first | rfl | rw [HCMP.out], (HB5.out.drew.trans (hb6.mono HB5.out.size)).trans (hb7.mono (Nat.le_trans HB5.out.size hb6.size))⟩
  case rest =>
    obtain ⟨rfl, hb⟩ := hcut
    have HB := Lib.hid hb
    have HRY := Lib.hid (HR.out.below hb (Nat.le_refl _))
    have HRL := Lib.hid (show (byt y).length = k by rw [byt_length, HTL.out])
    have HSZ := Lib.hid hb.size
    clear hb f0 f1 f2 f3 HS HCMP HR2
    go_wp2_with (with_reducible refine wpList_copy_splice rfl (.tmp 26) (.tmp 27) 47 47 rfl 5 Tryd.underlying47 Tryd.size_u8 (some ⟨wc.heap.size, 0, none⟩) A k k (k + 4) c rfl rfl wc.heap.size 0 (byt (List.replicate k 0)) 5 ?hg (byt y) ?hn ?hpos ?hfit (byt_one y) w.heap.size w ?hb ?hB ?_)
    case hg => exact heap_alloc_new _ _
    case hn => rw [HRL.out]; exact (Nat.min_eq_right (by omega)).symm
    case hfit => rw [HRL.out]; simp [byt]
    case hb => exact HB.out.alloc HSZ.out _
    case hB => exact HSZ.out
    case hpos =>
      intro h0
      rw [byt_length] at h0
      obtain ⟨g, off, cs, mk, hA, hrow, hc⟩ := HRY.out h0
      refine ⟨_, hA, fun j v hj => ?_⟩
      have hjl : j < y.length := by
        have := (List.getElem?_eq_some_iff.1 hj).1
        rwa [byt_length] at this
      rw [Addr.add_lit, (hrow.alloc _).cell, hc j hjl, hj]
    intro w8 hg8 hb8
    have HR8 := Lib.hid (show Row w8 wc.heap.size 5 (byt y) (0, 0) by
      have e : splice (byt (List.replicate k 0)) 0 (byt y) = byt y := by
        have := splice_head y 0
        rw [Nat.add_zero, HTL.out] at this
        rw [this]
        simp
      have := hg8.out
      rw [e] at this
      exact this)
    clear hg8
    go_wp2
    go_ret2
    exact ⟨wc.heap.size, k, rfl, HTL.out, Nat.le_refl _, row_reads HR8.out, hb8⟩

end Go.Proofs.YtlhcacancnmhcaaDoor
