/-
  The walk of the statements' own helper flip; the walk of CrcTwo.
-/
import Derived.Test.YthfmhfddgmojaaaDoorCrcE
namespace Go.Proofs.YthfmhfddgmojaaaDoor
open Go.RowKit

theorem Tryd.crc_u8 : (Tryd.prog.info? 5).map (fun i => (i.zero, i.size, i.bytes)) = some (some (.int .u8 0), 1, 1) := by kernel_rfl

/-- A slice of new bytes. -/
def NewBytes (w : World) (r : List UInt8) (e : Ending) (w' : World) : Prop :=
  ∃ g cap, e = .returned (.slice (some ⟨g, 0, none⟩) r.length cap) ∧ r.length ≤ cap ∧ Reads 5 w' (some ⟨g, 0, none⟩) r ∧ Below w.heap.size w w'

theorem turn_byte (c : UInt8) (j : Nat) : Go.bits .xor .u8 (c.toNat : Int) (2 ^ j % 256) = ((c ^^^ UInt8.ofNat (2 ^ j)).toNat : Int) := by
  have e : ((2 : Int) ^ j % 256) = ((2 ^ j % 256 : Nat) : Int) := by simp
  rw [e, u8_xor_nat _ _ c.toNat_lt (Nat.mod_lt _ (by omega)), UInt8.toNat_xor, UInt8.toNat_ofNat']

theorem flip_end {w w1 : World} {g cap : Nat} {cur : List Value} {l : List UInt8} (k : Nat) (hk : k < 8 * l.length) (hr : Row w1 g 5 cur (0, 0)) (hc : ∀ j, j < l.length → cur[j]? = (byt l)[j]?) (hlc : l.length ≤ cap) (hb : Below w.heap.size w w1) (hg : w.heap.size ≤ g) :
    NewBytes w (flipL l k) (.returned (.slice (some ⟨g, 0, none⟩) l.length cap)) (w1.setCell ⟨g, k / 8, none⟩ (.int .u8 (Go.bits .xor .u8 ((l[k / 8]'(by omega)).toNat : Int) (2 ^ (k % 8) % 256)))) := by
  have hk8 : k / 8 < l.length := by omega
  refine ⟨g, cap, by rw [flipL_length], by rw [flipL_length]; exact hlc, fun _ => ⟨g, 0, _, _, rfl, hr.put (k / 8) _, fun j hj => ?_⟩, hb.setCell hg _⟩
  rw [flipL_length] at hj
  rw [Nat.zero_add, byt_get _ _ (by rw [flipL_length]; exact hj), List.getElem?_set, turn_byte]
  have hlen : k / 8 < cur.length := by
    have := hc _ hk8
    rw [byt_get l _ hk8] at this
    exact (List.getElem?_eq_some_iff.1 this).1
  by_cases hjk : k / 8 = j
  · subst hjk
    rw [if_pos rfl, if_pos hlen]
    simp [flipL, List.getD, List.getElem?_eq_getElem hk8]
  · rw [if_neg hjk, hc j hj, byt_get l j hj]
    simp [flipL, hjk]

set_option maxHeartbeats 400000 in
theorem flip_any {T : TypeId} (A : Option Addr) (l : List UInt8) (c a k : Nat) (w : World) (hr : Reads T w A l) (h0 : 0 < l.length) (hl : l.length ≤ 2000) (ha : a < 65536) (hk : a % (8 * l.length) = k) :
    Calls Tryd.prog 15 #[.slice A l.length c, .int .u16 (a : Int)] w (NewBytes w (flipL l k)) := by
  obtain ⟨i0, hi0, hz0, hz1, hz2⟩ := info_parts Tryd.crc_u8
  obtain ⟨g0, off0, cs, m, rfl, hrow, hcs⟩ := hr h0
  have hkl : k < 8 * l.length := by rw [← hk]; exact Nat.mod_lt _ (by omega)
  have hk2 : (a : Int) % (8 * (l.length : Int)) = (k : Int) := by rw [← hk]; simp
  have HK := Lib.hid hk
  have HROW := Lib.hid hrow
  have HCS := Lib.hid hcs
  clear hk hr hrow hcs
  go_enter Tryd.func15, Tryd.ntmps15
  go_wp2_with (at_builtin; refine wpList_append_own _ rfl (.tmp 7) (.tmp 8) 22 rfl w.heap.size 5 i0 _ 1 1 Tryd.underlying22 hi0 hz0 hz1 hz2 rfl (by decide) (.slice (some ⟨w.heap.size, 0, none⟩) 0 0) 0 [] rfl ?own ⟨g0, off0, none⟩ l.length c (byt l) rfl ?len ?news (byt_one l) ?h63 ?hby ?hba ?_)
  case own => exact World.ownsRow_made w #[] 0 (Nat.le_refl _) (by simp [maxLen]) rfl
  case len => rw [byt_length, Nat.mul_one]
  case h63 => unfold maxLen; omega
  case hby => omega
  case hba => simp
  case news =>
    intro j u hu
    have hj : j < l.length := by
      have := (List.getElem?_eq_some_iff.1 hu).1
      rwa [byt_length] at this
    rw [Addr.add_lit, (HROW.out.alloc _).cell, HCS.out j hj, hu]
  intro v' w1 hown hg hnil
  clear hnil
  obtain ⟨_, ⟨_, hbad⟩ | ⟨g, cap, cur, rfl, hgB, hgg, hlc, hcm, hsz, htake⟩⟩ := hown
  · omega
  rw [Nat.mul_one] at htake
  have hrow : Row w1 g 5 cur.toList (0, 0) := hgg
  have hcur : ∀ j, j < l.length → cur.toList[j]? = (byt l)[j]? := fun j hj => by rw [← htake, List.getElem?_take, if_pos hj]
  have hk8 : k / 8 < l.length := by omega
  have hcell : w1.cell? ⟨g, k / 8, none⟩ = some (.int .u8 ((l[k / 8]'hk8).toNat : Int)) := by rw [hrow.cell, hcur _ hk8, byt_get l _ hk8]
  have hfree := hrow.loose (k / 8)
  have HR := Lib.hid hrow
  have HC := Lib.hid hcur
  have HLC := Lib.hid hlc
  have HB := Lib.hid (show Below w.heap.size w w1 from ((Below.refl _ _).alloc (Nat.le_refl _) _).grown hg (by simp) (fun k hk => by simp [Value.ownBlock] at hk; omega))
  have HGB := Lib.hid hgB
  clear hg hgB hgg hcm hsz htake hrow hcur
  have HEND := Lib.hid (flip_end (w := w) (w1 := w1) (g := g) (cap := cap) (cur := cur.toList) k hkl HR.out HC.out HLC.out HB.out HGB.out)
  generalize (l[k / 8]'hk8).toNat = cb at *
  go_wp2_with fail
  go_ret
  exact HEND.out

theorem reads_drewN {T : TypeId} {w : World} {A : Option Addr} {l : List UInt8} (h : Reads T w A l) (n : Nat) : Reads T (w.drewN n) A l := h

theorem flip_n {T : TypeId} (A : Option Addr) (l : List UInt8) (n c a k : Nat) (w : World) (hn : l.length = n) (hr : Reads T w A l) (h0 : 0 < n) (hl : n ≤ 2000) (ha : a < 65536) (hk : a % (8 * n) = k) :
    Calls Tryd.prog 15 #[.slice A n c, .int .u16 (a : Int)] w (NewB w n (flipL l k)) := by
  subst hn
  exact (flip_any A l c a k w hr h0 hl ha hk).mono fun e w' ⟨g, cap, he, hc, hrd, hb⟩ => ⟨g, cap, by rw [he, flipL_length], flipL_length _ _, by rw [flipL_length] at hc; exact hc, hrd, hb⟩

set_option maxHeartbeats 400000 in
theorem two_great (A : Option Addr) (n c : Nat) (x y : Int) (w : World) (hT : Tab w) (hn : 600 < n) (hm : n ≤ 9223372036854775807) :
    Calls Tryd.prog 5 #[.slice A n c, .int .u16 x, .int .u16 y] w fun e w' => e = .returned (.bool true) ∧ Below w.heap.size w w' := by
  have HT := Lib.hid hT
  clear hT
  go_enter Tryd.func5, Tryd.ntmps5
  go_wp2_with fail
  refine (head_any _ HT.out).mono ?_
  rintro e w1 ⟨rfl, hb⟩
  go_wp2
  go_ret
  exact ⟨rfl, hb⟩

set_option maxHeartbeats 1000000 in
theorem two_small {T : TypeId} (A : Option Addr) (l : List UInt8) (c x y : Nat) (w : World) (hT : Tab w) (hr : Reads T w A l) (hn : l.length ≤ 600) (hx : x < 65536) (hy : y < 65536) :
    Calls Tryd.prog 5 #[.slice A l.length c, .int .u16 (x : Int), .int .u16 (y : Int)] w fun e w' => e = .returned (.bool true) ∧ Below w.heap.size w w' := by
  have HT := Lib.hid hT
  have HS := Lib.hid (seal_any A l c w hT hr (by omega))
  have HZ := Lib.hid (sealL_sealed l)
  clear hT hr
  generalize sealL l = z at *
  obtain ⟨N, hN⟩ : ∃ N, N = l.length + 4 := ⟨_, rfl⟩
  rw [← hN] at HS
  have hN4 : 4 ≤ N := by omega
  have hN6 : N ≤ 604 := by omega
  clear hN
  obtain ⟨k1, hk1⟩ : ∃ k, x % (8 * N) = k := ⟨_, rfl⟩
  obtain ⟨k2, hk2⟩ : ∃ k, y % (8 * N) = k := ⟨_, rfl⟩
  have HK1 := Lib.hid hk1
  have HK2 := Lib.hid hk2
  have HL1 := Lib.hid (show k1 < 8 * N by rw [← hk1]; exact Nat.mod_lt _ (by omega))
  have HL2 := Lib.hid (show k2 < 8 * N by rw [← hk2]; exact Nat.mod_lt _ (by omega))
  have e1 : (x : Int) % (8 * (N : Int)) = (k1 : Int) := by rw [← hk1]; simp
  have e2 : (y : Int) % (8 * (N : Int)) = (k2 : Int) := by rw [← hk2]; simp
  clear hk1 hk2
  have hw : IntKind.i64.wrap (8 * (N : Int)) = 8 * (N : Int) := by rw [IntKind.wrap_i64]; omega
  have hnz : ((8 * (N : Int)) == 0) = false := by rw [beq_eq_false_iff_ne]; omega
  go_enter Tryd.func5, Tryd.ntmps5
  go_wp2_with fail
  refine HS.out.mono ?_
  rintro e w1 ⟨g1, cap1, rfl, hz1, hc1, hr1, hb1⟩
  have HB1 := Lib.hid hb1
  have HR1 := Lib.hid hr1
  have HZ1 := Lib.hid hz1
  clear hb1 hr1 hz1
  by_cases hkk : k1 = k2
  · subst hkk
    go_wp2_with fail
    go_quiet (fail)
    go_wp2_with fail
    refine (head_any _ (HT.out.keeps (below_drewN HB1.out _))).mono ?_
    rintro e w2 ⟨rfl, hb2⟩
    go_wp2
    go_ret
    exact ⟨rfl, (below_drewN HB1.out _).trans (hb2.mono HB1.out.size)⟩
  · have hne : ((k1 : Int) == (k2 : Int)) = false := by rw [beq_eq_false_iff_ne]; omega
    have HNE := Lib.hid hkk
    clear hkk
    go_wp2_with fail
    go_quiet (fail)
    go_wp2_with fail
    refine (flip_n _ z N cap1 x k1 _ HZ1.out (reads_drewN HR1.out _) (by omega) (by omega) hx HK1.out).mono ?_
    rintro e w2 ⟨g2, cap2, rfl, hz2, hc2, hr2, hb2⟩
    have HB2 := Lib.hid ((below_drewN HB1.out _).trans (hb2.mono HB1.out.size))
    have HR2 := Lib.hid hr2
    have HZ2 := Lib.hid hz2
    clear hb2 hr2 hz2
    go_wp2_with fail
    refine (flip_n _ _ N cap2 y k2 _ HZ2.out HR2.out (by omega) (by omega) hy HK2.out).mono ?_
    rintro e w3 ⟨g3, cap3, rfl, hz3, hc3, hr3, hb3⟩
    have HB3 := Lib.hid (HB2.out.trans (hb3.mono HB2.out.size))
    have HNO := Lib.hid (two_flips HZ.out (by rw [HZ1.out]; omega) (by rw [HZ1.out]; exact HL1.out) (by rw [HZ1.out]; exact HL2.out) HNE.out)
    have HR3 := Lib.hid hr3
    have HZ3 := Lib.hid hz3
    clear hb3 hr3 hz3
    go_wp2_with fail
    refine (open_refuses _ _ N cap3 _ HZ3.out (HT.out.keeps HB3.out) HR3.out hN4 (by omega) hc3 HNO.out).mono ?_
    rintro e w4 ⟨rfl, hb4⟩
    have HB4 := Lib.hid (HB3.out.trans (hb4.mono HB3.out.size))
    clear hb4
    go_wp2_with fail
    refine (head_any _ (HT.out.keeps HB4.out)).mono ?_
    rintro e w5 ⟨rfl, hb5⟩
    go_wp2
    go_ret
    exact ⟨rfl, HB4.out.trans (hb5.mono HB4.out.size)⟩

end Go.Proofs.YthfmhfddgmojaaaDoor
