/-
  The walk of CrcTails.
-/
import Derived.Test.YthfmhfddgmojaaaDoorCrcF
namespace Go.Proofs.YthfmhfddgmojaaaDoor
open Go.RowKit

theorem below_box {w w1 : World} {o : Obj} {k : Nat} (hb : Below ((w.alloc o).drewN k).heap.size ((w.alloc o).drewN k) w1) : Below w.heap.size w w1 :=
  have h1 : Below w.heap.size w ((w.alloc o).drewN k) := below_drewN ((Below.refl _ _).alloc (Nat.le_refl _) _) k
  h1.trans (hb.mono h1.size)

set_option maxHeartbeats 400000 in
theorem tails_great (A : Option Addr) (n c : Nat) (x y z : Int) (w : World) (hT : Tab w) (hm : n ≤ 9223372036854775807) (hg : 600 < n ∨ (n ≤ 600 ∧ x = y)) :
    Calls Tryd.prog 6 #[.agg #[.slice A n c, .int .u32 x, .int .u32 y, .int .u16 z]] w fun e w' => e = .returned (.bool true) ∧ Below w.heap.size w w' := by
  have HT := Lib.hid hT
  clear hT
  rcases hg with h | ⟨h1, rfl⟩
  all_goals
    go_enter Tryd.func6, Tryd.ntmps6
    go_wp2
    go_quiet (fail)
    go_wp2_with fail
    refine (head_any _ (HT.out.keeps (below_drewN ((Below.refl _ _).alloc (Nat.le_refl _) _) _))).mono ?_
    rintro e w1 ⟨rfl, hb⟩
    go_wp2
    go_ret
    exact ⟨rfl, below_box hb⟩

/-- What holds at a round's head: two rows of the call's own, with so many bytes of two numbers. -/
def Both (w : World) (x y k : Nat) (vx vy : Value) (wr : World) : Prop :=
  wr.ownsRow w.heap.size 5 1 vx k (byt ((le4 x).take k)) ∧ wr.ownsRow w.heap.size 5 1 vy k (byt ((le4 y).take k)) ∧ (vx.ownBlock = none ∨ vx.ownBlock ≠ vy.ownBlock) ∧ Below w.heap.size w wr

theorem owns_block {w : World} {base n g : Nat} {e : TypeId} {v : Value} {xs : List Value} (h : w.ownsRow base e 1 v n xs) (hv : v.ownBlock = some g) : base ≤ g ∧ g < w.heap.size := by
  rcases h.2 with ⟨rfl, _⟩ | ⟨g', cap, cur, rfl, hb, hg, _⟩
  · cases hv
  · obtain rfl : g' = g := by simpa [Value.ownBlock] using hv
    refine ⟨hb, ?_⟩
    rcases Nat.lt_or_ge g' w.heap.size with hh | hh
    · exact hh
    · rw [Array.getElem?_eq_none hh] at hg; cases hg

theorem apart_symm {p q : Option Nat} (h : p = none ∨ p ≠ q) : q = none ∨ q ≠ p := by
  rcases h with rfl | h
  · cases q with
    | none => exact .inl rfl
    | some _ => exact .inr (by simp)
  · exact .inr fun e => h e.symm

theorem alloc_size (w : World) (o : Obj) : (w.alloc o).heap.size = w.heap.size + 1 := by simp

theorem both_mid {w wr w1 : World} {x y k : Nat} {o1 : Obj} {vx vy : Value} (h : Both w x y k vx vy wr) (g1 : (wr.alloc o1).grownBy w1 vx.ownBlock) :
    w1.ownsRow w.heap.size 5 1 vy k (byt ((le4 y).take k)) ∧ Below w.heap.size w w1 := by
  obtain ⟨hx, hy, ha, hb⟩ := h
  refine ⟨(hy.alloc o1).kept g1 (apart_symm ha), (hb.alloc hb.size o1).grown g1 (by rw [alloc_size]; have := hb.size; omega) fun k' hk' => (owns_block hx hk').1⟩

theorem both_step {w wr w1 w2 : World} {x y k gx gy cx cy : Nat} {ux uy : Value} {o1 o2 : Obj} {vx vy : Value} (h : Both w x y k vx vy wr)
    (h1 : w1.ownsRow w.heap.size 5 1 (.slice (some ⟨gx, 0, none⟩) (k + 1) cx) (k + 1) (byt ((le4 x).take k) ++ [ux])) (g1 : (wr.alloc o1).grownBy w1 vx.ownBlock) (a1 : vx.ownBlock = some gx ∨ gx = wr.heap.size + 1) (l1 : gx < w1.heap.size)
    (h2 : w2.ownsRow w.heap.size 5 1 (.slice (some ⟨gy, 0, none⟩) (k + 1) cy) (k + 1) (byt ((le4 y).take k) ++ [uy])) (g2 : (w1.alloc o2).grownBy w2 vy.ownBlock) (a2 : vy.ownBlock = some gy ∨ gy = w1.heap.size + 1)
    (ex : byt ((le4 x).take k) ++ [ux] = byt ((le4 x).take (k + 1))) (ey : byt ((le4 y).take k) ++ [uy] = byt ((le4 y).take (k + 1))) :
    Both w x y (k + 1) (.slice (some ⟨gx, 0, none⟩) (k + 1) cx) (.slice (some ⟨gy, 0, none⟩) (k + 1) cy) w2 := by
  obtain ⟨hy1, hb1⟩ := both_mid h g1
  obtain ⟨hx, hy, ha, hb⟩ := h
  rw [ex] at h1
  rw [ey] at h2
  have hgx : ∀ g, vy.ownBlock = some g → g ≠ gx := by
    rintro g hg rfl
    rcases a1 with a1 | a1
    · rcases ha with ha | ha
      · rw [ha] at a1; cases a1
      · exact ha (a1.trans hg.symm)
    · have := (owns_block hy hg).2
      omega
  refine ⟨(h1.alloc o2).kept g2 (.inr ?_), h2, .inr ?_, (hb1.alloc hb1.size o2).grown g2 (by rw [alloc_size]; have := hb1.size; omega) fun k' hk' => (owns_block hy hk').1⟩
  · intro e
    exact hgx gx e.symm rfl
  · intro e
    have e2 : gx = gy := by simpa [Value.ownBlock] using e
    subst e2
    rcases a2 with a2 | a2
    · exact hgx gx a2 rfl
    · omega

theorem owns_four {w : World} {base : Nat} {v : Value} {l : List UInt8} (h : w.ownsRow base 5 1 v 4 (byt (l.take 4))) (hl : l.length = 4) :
    ∃ g cap, v = .slice (some ⟨g, 0, none⟩) 4 cap ∧ Reads 5 w (some ⟨g, 0, none⟩) l := by
  rw [List.take_of_length_le (by omega)] at h
  obtain ⟨g, cap, hv, _, _, _, _, hr⟩ := owns_reads h (fun e => by
    subst e
    rcases h.2 with ⟨_, h0⟩ | ⟨g, cap, cur, hv, _⟩
    · cases h0
    · cases hv)
  exact ⟨g, cap, hv, hr⟩

theorem take_byte (n k : Nat) (hk : k < 4) (u : Int) (hu : (((le4 n)[k]'hk).toNat : Int) = u) : byt ((le4 n).take k) ++ [.int .u8 u] = byt ((le4 n).take (k + 1)) := by
  rw [List.take_succ_eq_append_getElem (by exact hk), byt_append, ← hu]
  rfl

/-- What the three appends leave: a row of the call's own with the bytes in which four are others; nothing else has turned. -/
def Swapped (w w4 : World) (N : Nat) (t : List UInt8) (v : Value) (wx : World) : Prop :=
  ∃ g cap, v = .slice (some ⟨g, 0, none⟩) N cap ∧ t.length = N ∧ N ≤ cap ∧ Reads 5 wx (some ⟨g, 0, none⟩) t ∧ Below w.heap.size w wx ∧ Below w4.heap.size w4 wx

theorem swapped {w w4 w5 w6 w7 : World} {N g1 g2 g3 n c1 c2 c3 : Nat} {t : List UInt8} {o : Obj} {m : Nat} {xs1 xs2 : List Value} (hb : Below w.heap.size w w4)
    (hg1 : ((w4.alloc o).drew).grownBy w5 (some w4.heap.size)) (h1 : w5.ownsRow w4.heap.size 5 1 (.slice (some ⟨g1, 0, none⟩) n c1) n xs1) (hg2 : w5.grownBy w6 (some g1))
    (h2 : w6.ownsRow w4.heap.size 5 1 (.slice (some ⟨g2, 0, none⟩) m c2) m xs2) (hg3 : w6.grownBy w7 (some g2)) (h3 : w7.ownsRow w4.heap.size 5 1 (.slice (some ⟨g3, 0, none⟩) N c3) N (byt t)) : Swapped w w4 N t (.slice (some ⟨g3, 0, none⟩) N c3) w7 := by
  obtain ⟨g, cap, hv, _, _, hl, hc, hr⟩ := owns_reads h3 (by intro h; cases h)
  injection hv with hv _ hv2
  obtain rfl : g3 = g := by simpa using hv
  subst hv2
  have hb5 : Below w4.heap.size w4 w5 := (((Below.refl _ _).alloc (Nat.le_refl _) o).drew).grown hg1 (by show w4.heap.size ≤ (w4.alloc o).heap.size; rw [alloc_size]; omega) (fun k hk => by injection hk; omega)
  have hb6 : Below w4.heap.size w4 w6 := hb5.grown hg2 hb5.size (fun k hk => by injection hk with hk; subst hk; exact (owns_block h1 rfl).1)
  have hb7 : Below w4.heap.size w4 w7 := hb6.grown hg3 hb6.size (fun k hk => by injection hk with hk; subst hk; exact (owns_block h2 rfl).1)
  exact ⟨g3, c3, rfl, hl, hc, hr, hb.trans (hb7.mono hb.size), hb7⟩

theorem reads_5 {T : TypeId} {w4 w5 : World} {A : Option Addr} {l : List UInt8} {o : Obj} (h : Reads T w4 A l) (hg1 : ((w4.alloc o).drew).grownBy w5 (some w4.heap.size)) : Reads T w5 A l :=
  h.below (show Below w4.heap.size w4 w5 from (((Below.refl _ _).alloc (Nat.le_refl _) o).drew).grown hg1 (by show w4.heap.size ≤ (w4.alloc o).heap.size; rw [alloc_size]; omega) (fun k hk => by injection hk; omega)) (Nat.le_refl _)

theorem reads_6 {T : TypeId} {w4 w5 w6 : World} {A : Option Addr} {l : List UInt8} {o : Obj} {g1 n c1 : Nat} {xs1 : List Value} (h : Reads T w4 A l) (hg1 : ((w4.alloc o).drew).grownBy w5 (some w4.heap.size)) (h1 : w5.ownsRow w4.heap.size 5 1 (.slice (some ⟨g1, 0, none⟩) n c1) n xs1) (hg2 : w5.grownBy w6 (some g1)) : Reads T w6 A l :=
  h.below (show Below w4.heap.size w4 w6 from ((((Below.refl _ _).alloc (Nat.le_refl _) o).drew).grown hg1 (by show w4.heap.size ≤ (w4.alloc o).heap.size; rw [alloc_size]; omega) (fun k hk => by injection hk; omega)).grown hg2
    (by have := hg1.size; have e : ((w4.alloc o).drew).heap.size = w4.heap.size + 1 := alloc_size w4 o; omega) (fun k hk => by injection hk with hk; subst hk; exact (owns_block h1 rfl).1)) (Nat.le_refl _)

set_option maxRecDepth 100000 in
set_option maxHeartbeats 4000000 in
theorem tails_small {T : TypeId} (A : Option Addr) (l : List UInt8) (c x y a : Nat) (w : World) (hT : Tab w) (hr : Reads T w A l) (hn : l.length ≤ 600) (hx : x < 4294967296) (hy : y < 4294967296) (ha : a < 65536) (hne : x ≠ y) :
    Calls Tryd.prog 6 #[.agg #[.slice A l.length c, .int .u32 (x : Int), .int .u32 (y : Int), .int .u16 (a : Int)]] w fun e w' => e = .returned (.bool true) ∧ Below w.heap.size w w' := by
  obtain ⟨i0, hi0, hz0, hz1, hz2⟩ := info_parts Tryd.info_u8
  have HT := Lib.hid hT
  have HR := Lib.hid hr
  have HNE := Lib.hid hne
  have hxy : ((x : Int) == (y : Int)) = false := by rw [beq_eq_false_iff_ne]; omega
  clear hT hr hne
  go_enter Tryd.func6, Tryd.ntmps6
  go_wp2
  go_quiet (fail)
  go_wp2_with fail
  have HST := Lib.hid (show Both w x y 0 (.slice none 0 0) (.slice none 0 0) ((w.alloc (.cells #[.slice A l.length c, .int .u32 (x : Int), .int .u32 (y : Int), .int .u16 (a : Int)] 37)).drewN nq) from
    ⟨World.ownsRow_nil _ _ _ _, World.ownsRow_nil _ _ _ _, .inl rfl, below_drewN ((Below.refl _ _).alloc (Nat.le_refl _) _) _⟩)
  go_loopw [7, 8, 9] (fun vx vy vi wr => ∃ k : Nat, k ≤ 4 ∧ vi = .int .i64 k ∧ Both w x y k vx vy wr) (fun _ _ vi _ => 4 - (intOf vi).toNat)
  case atStart => exact ⟨0, by omega, rfl, HST.out⟩
  case round =>
    obtain ⟨k, hk4, rfl, hox, hoy, hap, hb⟩ := hrel
    have HB := Lib.hid hb
    have HOX := Lib.hid hox
    have HOY := Lib.hid hoy
    have HAP := Lib.hid hap
    clear hb hox hoy hap HST
    by_cases hlt : k < 4
    · have HBOTH := Lib.hid (show Both w x y k u7 u8 wr from ⟨HOX.out, HOY.out, HAP.out, HB.out⟩)
      have HSZ := Lib.hid HB.out.size
      have hbx := byte_k x k hlt
      have hby := byte_k y k hlt
      obtain ⟨bx, hex⟩ : ∃ bx : Nat, ((le4 x)[k]'hlt).toNat = bx := ⟨_, rfl⟩
      obtain ⟨by', hey⟩ : ∃ by' : Nat, ((le4 y)[k]'hlt).toNat = by' := ⟨_, rfl⟩
      have HEX := Lib.hid (take_byte x k hlt (bx : Int) (by rw [hex]))
      have HEY := Lib.hid (take_byte y k hlt (by' : Int) (by rw [hey]))
      rw [hex] at hbx
      rw [hey] at hby
      clear hex hey HB HOX HOY HAP
      go_wp2_with (at_builtin; refine wpList_append_lies _ rfl (.tmp 37) (.tmp 44) 22 rfl w.heap.size 5 i0 _ 1 1 Tryd.underlying22 hi0 hz0 hz1 hz2 rfl (by decide) u7 k (byt ((le4 x).take k)) rfl (HBOTH.out.1.alloc _) ⟨wr.heap.size, 0, none⟩ 1 1 [.int .u8 (bx : Int)] rfl rfl (cell_one_new _ _ _) ?o1 (by decide) ?h63 ?hby ?hba _ (alloc_size _ _) ?_)
      case o1 => simp; rfl
      case h63 => unfold maxLen; omega
      case hby => omega
      case hba => rw [alloc_size]; have := HSZ.out; omega
      intro gx cx w1 hown1 hgrow1 hat1 hlt1
      have HO1 := Lib.hid hown1
      have HG1 := Lib.hid hgrow1
      have HA1 := Lib.hid hat1
      have HL1 := Lib.hid hlt1
      have HMID := Lib.hid (both_mid HBOTH.out hgrow1)
      clear hown1 hgrow1 hat1 hlt1 hbx
      go_wp2_with (at_builtin; refine wpList_append_lies _ rfl (.tmp 46) (.tmp 53) 22 rfl w.heap.size 5 i0 _ 1 1 Tryd.underlying22 hi0 hz0 hz1 hz2 rfl (by decide) u8 k (byt ((le4 y).take k)) rfl (HMID.out.1.alloc _) ⟨w1.heap.size, 0, none⟩ 1 1 [.int .u8 (by' : Int)] rfl rfl (cell_one_new _ _ _) ?o2 (by decide) ?h632 ?hby2 ?hba2 _ (alloc_size _ _) ?_)
      case o2 => simp; rfl
      case h632 => unfold maxLen; omega
      case hby2 => omega
      case hba2 => rw [alloc_size]; have := HMID.out.2.size; omega
      intro gy cy w2 hown2 hgrow2 hat2 hlt2
      have HN := Lib.hid (both_step HBOTH.out HO1.out HG1.out HA1.out HL1.out hown2 hgrow2 hat2 HEX.out HEY.out)
      clear hown2 hgrow2 hat2 hlt2 hby
      go_wp2_with fail
      go_roundw
      case rel => exact ⟨k + 1, by omega, by go_num, HN.out⟩
      case measure => simp [intOf]; omega
    · obtain rfl : k = 4 := by omega
      obtain ⟨gx, cx, rfl, hrx⟩ := owns_four HOX.out rfl
      obtain ⟨gy, cy, rfl, hry⟩ := owns_four HOY.out rfl
      have HRX := Lib.hid hrx
      have HRY := Lib.hid hry
      clear hrx hry HOX HOY HAP hlt hk4
      obtain ⟨s, hs⟩ : ∃ s, more_ 0 l = s := ⟨_, rfl⟩
      have hsl : s < 4294967296 := by rw [← hs]; exact more_lt 0 l (by decide)
      have HS := Lib.hid hs
      have HSL := Lib.hid hsl
      obtain ⟨mx, hmx⟩ : ∃ m, more_ s (le4 x) = m := ⟨_, rfl⟩
      obtain ⟨my, hmy⟩ : ∃ m, more_ s (le4 y) = m := ⟨_, rfl⟩
      have HMX := Lib.hid hmx
      have HMY := Lib.hid hmy
      have hmne : ((mx : Int) == (my : Int)) = false := by
        rw [beq_eq_false_iff_ne]
        intro e
        have e2 : mx = my := by omega
        rw [← hmx, ← hmy] at e2
        exact HNE.out (le4_inj hx hy (tails_differ s hsl rfl rfl e2))
      clear hs hsl hmx hmy
      go_wp2_with fail
      refine (sum_n A l l.length c s wr rfl (HT.out.keeps HB.out) (HR.out.below HB.out (Nat.le_refl _)) (by omega) HS.out).mono ?_
      rintro e w1 ⟨rfl, hb1⟩
      have HB1 := Lib.hid (HB.out.trans (hb1.mono HB.out.size))
      have HRX1 := Lib.hid (HRX.out.below hb1 (Nat.le_refl _))
      have HRY1 := Lib.hid (HRY.out.below hb1 (Nat.le_refl _))
      clear hb1 HRX HRY
      go_wp2_with fail
      refine (more_n _ (le4 x) 4 cx s mx w1 rfl (HT.out.keeps HB1.out) HRX1.out HSL.out (by omega) HMX.out).mono ?_
      rintro e w2 ⟨rfl, hb2⟩
      have HB2 := Lib.hid (HB1.out.trans (hb2.mono HB1.out.size))
      have HRX2 := Lib.hid (HRX1.out.below hb2 (Nat.le_refl _))
      have HRY2 := Lib.hid (HRY1.out.below hb2 (Nat.le_refl _))
      clear hb2 HRX1 HRY1
      go_wp2_with fail
      refine (more_n _ (le4 y) 4 cy s my w2 rfl (HT.out.keeps HB2.out) HRY2.out HSL.out (by omega) HMY.out).mono ?_
      rintro e w3 ⟨rfl, hb3⟩
      have HB3 := Lib.hid (HB2.out.trans (hb3.mono HB2.out.size))
      have HRX3 := Lib.hid (HRX2.out.below hb3 (Nat.le_refl _))
      clear hb3 HRX2 HRY2
      have HSEAL := Lib.hid (seal_new A l c w3 (HT.out.keeps HB3.out) (HR.out.below HB3.out (Nat.le_refl _)) (by omega))
      have HZ := Lib.hid (sealL_sealed l)
      generalize sealL l = z at *
      obtain ⟨N, hN⟩ : ∃ N, N = l.length + 4 := ⟨_, rfl⟩
      rw [← hN] at HSEAL
      have hN4 : 4 ≤ N := by omega
      have hN6 : N ≤ 604 := by omega
      clear hN
      go_wp2_with fail
      refine HSEAL.out.mono ?_
      rintro e w4 ⟨gz, rfl, hz4, hr4, hb4⟩
      have HB4 := Lib.hid (HB3.out.trans (hb4.mono HB3.out.size))
      have HRX4 := Lib.hid (HRX3.out.below hb4 (Nat.le_refl _))
      have HRZ4 := Lib.hid hr4
      have HZ4 := Lib.hid hz4
      clear hb4 hr4 hz4 HRX3 HSEAL
      obtain ⟨K, hK⟩ : ∃ K, a % (N - 3) = K := ⟨_, rfl⟩
      have hK2 : (a : Int) % ((N : Int) - 3) = (K : Int) := by
        have : ((N : Int) - 3) = ((N - 3 : Nat) : Int) := by omega
        rw [this, ← hK]
        simp
      have HKN := Lib.hid (show K + 4 ≤ N by have := Nat.mod_lt a (show N - 3 > 0 by omega); omega)
      have hnz : (((N : Int) - 3) == 0) = false := by rw [beq_eq_false_iff_ne]; omega
      clear hK
      have hK0 : (0 : Int) ≤ (K : Int) := by omega
      have hKN1 : (K : Int) ≤ (N : Int) := by have := HKN.out; omega
      have hKN4 : (K : Int) + 4 ≤ (N : Int) := by have := HKN.out; omega
      have hKw : IntKind.i64.wrap ((K : Int) + 4) = (K : Int) + 4 := by rw [IntKind.wrap_i64]; omega
      have hKK : (K : Int) ≤ (K : Int) + 4 := by omega
      have hK40 : (0 : Int) ≤ (K : Int) + 4 := by omega
      have hKt : ((K : Int) + 4).toNat = K + 4 := by omega
      go_upto_region 17 with fail
      rw [hK2]
      clear hK2 hnz
      go_cut [13] (fun s wx => Swapped w w4 N ((z.take K ++ le4 x) ++ z.drop (K + 4)) s wx)
      case first =>
        have HT1 := Lib.hid (HRZ4.out.take K)
        have HT2 := Lib.hid (HRZ4.out.drop (K + 4) N (by rw [HZ4.out]; exact Nat.le_refl _))
        have HL1 := Lib.hid (show (byt (z.take K)).length = K by rw [byt_length, List.length_take, HZ4.out]; have := HKN.out; omega)
        have HL2 := Lib.hid (show (byt (z.drop (K + 4))).length = N - (K + 4) by rw [byt_length, List.length_drop, HZ4.out])
        by_cases hE : N = K + 4
        · subst hE
          have HD0 := Lib.hid (show z.drop (K + 4) = [] from List.drop_eq_nil_of_le (by rw [HZ4.out]; exact Nat.le_refl _))
          go_region_law (first
            | (refine step_own rfl (.tmp 75) (.tmp 78) 22 rfl w4.heap.size 5 i0 _ Tryd.underlying22 hi0 hz0 hz1 hz2 rfl w4.heap.size 0 0 [] (by simp [Act.eval]) (World.ownsRow_made w4 #[] 0 (Nat.le_refl _) (by simp [maxLen]) rfl) ⟨gz, 0, none⟩ K (K + 4) (byt (z.take K)) (by simp [Act.eval]) HL1.out (reads_news (HT1.out.below ((Below.refl _ _).alloc (Nat.le_refl _) _).drew (Nat.le_refl _))) (byt_one _) (by omega) (by simp) ?_; intro g1 c1 w5 hown1 hgr1; rw [Nat.zero_add, List.nil_append] at hown1; rw [Nat.zero_add])
            | (refine step_own rfl (.tmp 79) (.tmp 80) 22 rfl w4.heap.size 5 i0 _ Tryd.underlying22 hi0 hz0 hz1 hz2 rfl g1 K c1 _ (by simp [Act.eval]) hown1 ⟨gx, 0, none⟩ 4 cx (byt (le4 x)) (by simp [Act.eval]) rfl (reads_news (reads_5 HRX4.out hgr1)) (byt_one _) (by omega) (by have := hgr1.size; simp at this; omega) ?_; intro g2 c2 w6 hown2 hgr2)
            | (refine step_own rfl (.tmp 81) (.tmp 85) 22 rfl w4.heap.size 5 i0 _ Tryd.underlying22 hi0 hz0 hz1 hz2 rfl g2 (K + 4) c2 _ (by simp [Act.eval]) hown2 ⟨gz, 0, none⟩ 0 0 [] (by simp [Act.eval]) rfl (fun j u hj => by simp at hj) (fun u hu => by simp at hu) (by omega) (by have := hgr1.size; have := hgr2.size; simp at *; omega) ?_; intro g3 c3 w7 hown3 hgr3; rw [Nat.add_zero] at hown3))
          go_wp2_with fail
          try go_frame
          go_meet
          exact swapped HB4.out hgr1 hown1 hgr2 hown2 hgr3 (by rw [HD0.out, byt_append, byt_append]; exact hown3)
        · have HT3 := Lib.hid (show Reads 5 w4 (some ⟨gz, K + 4, none⟩) (z.drop (K + 4)) by
            have h := HT2.out
            rw [if_neg hE] at h
            rw [Option.map_some, Addr.add_lit, Nat.zero_add] at h
            exact h)
          have HEND := Lib.hid (show K + 4 + (N - (K + 4)) = N by have := HKN.out; omega)
          go_region_law (first
            | (refine step_own rfl (.tmp 75) (.tmp 78) 22 rfl w4.heap.size 5 i0 _ Tryd.underlying22 hi0 hz0 hz1 hz2 rfl w4.heap.size 0 0 [] (by simp [Act.eval]) (World.ownsRow_made w4 #[] 0 (Nat.le_refl _) (by simp [maxLen]) rfl) ⟨gz, 0, none⟩ K N (byt (z.take K)) (by simp [Act.eval]) HL1.out (reads_news (HT1.out.below ((Below.refl _ _).alloc (Nat.le_refl _) _).drew (Nat.le_refl _))) (byt_one _) (by omega) (by simp) ?_; intro g1 c1 w5 hown1 hgr1; rw [Nat.zero_add, List.nil_append] at hown1; rw [Nat.zero_add])
            | (refine step_own rfl (.tmp 79) (.tmp 80) 22 rfl w4.heap.size 5 i0 _ Tryd.underlying22 hi0 hz0 hz1 hz2 rfl g1 K c1 _ (by simp [Act.eval]) hown1 ⟨gx, 0, none⟩ 4 cx (byt (le4 x)) (by simp [Act.eval]) rfl (reads_news (reads_5 HRX4.out hgr1)) (byt_one _) (by omega) (by have := hgr1.size; simp at this; omega) ?_; intro g2 c2 w6 hown2 hgr2)
            | (refine step_own rfl (.tmp 81) (.tmp 85) 22 rfl w4.heap.size 5 i0 _ Tryd.underlying22 hi0 hz0 hz1 hz2 rfl g2 (K + 4) c2 _ (by simp [Act.eval]) hown2 ⟨gz, K + 4, none⟩ (N - (K + 4)) (N - (K + 4)) (byt (z.drop (K + 4))) (by simp [Act.eval]) HL2.out (reads_news (reads_6 HT3.out hgr1 hown1 hgr2)) (byt_one _) (by omega) (by have := hgr1.size; have := hgr2.size; simp at *; omega) ?_; intro g3 c3 w7 hown3 hgr3; rw [HEND.out] at hown3; rw [HEND.out]))
          go_wp2_with fail
          try go_frame
          go_meet
          exact swapped HB4.out hgr1 hown1 hgr2 hown2 hgr3 (by rw [byt_append, byt_append]; exact hown3)
      case rest =>
        obtain ⟨g, cap, rfl, hlen, hcap, hrd, hb, hb4⟩ := hcut
        have HB5 := Lib.hid hb
        have HRD := Lib.hid hrd
        have HLEN := Lib.hid hlen
        have HIFF := Lib.hid (turned_iff (x := le4 x) HZ.out (by rw [HZ4.out]; exact HKN.out) rfl)
        have HM5 := Lib.hid (((HRZ4.out.below hb4 (Nat.le_refl _)).drop K N (by rw [HZ4.out]; exact Nat.le_refl _)).take 4)
        have HM4 := Lib.hid (show ((z.drop K).take 4).length = 4 by rw [List.length_take, List.length_drop, HZ4.out]; have := HKN.out; omega)
        have HX5 := Lib.hid (HRX4.out.below hb4 (Nat.le_refl _))
        clear hb hrd hlen hb4 HRZ4 HRX4 HZ
        have hNK : ¬ N = K := by have := HKN.out; omega
        have HM5 := Lib.hid (show Reads 5 wc (some ⟨gz, K, none⟩) ((z.drop K).take 4) by
          have h := HM5.out
          rw [if_neg hNK, Option.map_some, Addr.add_lit, Nat.zero_add] at h
          exact h)
        generalize (z.take K ++ le4 x) ++ z.drop (K + 4) = t at *
        generalize (z.drop K).take 4 = m at *
        by_cases hyes : m = le4 x
        · have HSE := Lib.hid (HIFF.out.2 hyes)
          subst hyes
          go_wp2_with fail
          refine (open_takes _ t N cap _ HLEN.out (HT.out.keeps HB5.out) HRD.out hN4 (by omega) hcap HSE.out).mono ?_
          rintro e w6 ⟨g6, c6, rfl, _, _, _, hb6⟩
          have HB6 := Lib.hid (HB5.out.trans (hb6.mono HB5.out.size))
          have HM6 := Lib.hid (HM5.out.below hb6 (Nat.le_refl _))
          have HX6 := Lib.hid (HX5.out.below hb6 (Nat.le_refl _))
          clear hb6
          go_wp2_with fail
          have hcv1 := text_n (some ⟨gz, K, none⟩) (le4 x) 4 (N - K) w6.drew rfl HM6.out
          have hcv2 := text_n (some ⟨gx, 0, none⟩) (le4 x) 4 cx w6.drew rfl HX6.out
          generalize (⟨(le4 x).toArray⟩ : ByteArray) = sa at *
          go_still_tail 12, (by kernel_rfl)
          change wpList _ _ _ _ _ w6.drew
          clear hcv1 hcv2
          go_wp2_with fail
          refine (head_any _ (HT.out.keeps HB6.out.drew)).mono ?_
          rintro e w7 ⟨rfl, hb7⟩
          go_wp2
          go_ret
          exact ⟨rfl, HB6.out.drew.trans (hb7.mono HB6.out.drew.size)⟩
        · have HSE := Lib.hid (show ¬ Sealed t from fun h => hyes (HIFF.out.1 h))
          have hse : ((⟨m.toArray⟩ : ByteArray).toList == (⟨(le4 x).toArray⟩ : ByteArray).toList) = false := by
            rw [beq_eq_false_iff_ne, ByteArray.toList_eq, ByteArray.toList_eq]
            exact hyes
          have HSS := Lib.hid hse
          clear hyes hse
          go_wp2_with fail
          refine (open_refuses _ t N cap _ HLEN.out (HT.out.keeps HB5.out) HRD.out hN4 (by omega) hcap HSE.out).mono ?_
          rintro e w6 ⟨rfl, hb6⟩
          have HB6 := Lib.hid (HB5.out.trans (hb6.mono HB5.out.size))
          have HM6 := Lib.hid (HM5.out.below hb6 (Nat.le_refl _))
          have HX6 := Lib.hid (HX5.out.below hb6 (Nat.le_refl _))
          clear hb6
          go_wp2_with fail
          have hcv1 := text_n (some ⟨gz, K, none⟩) m 4 (N - K) w6.drew HM4.out HM6.out
          have hcv2 := text_n (some ⟨gx, 0, none⟩) (le4 x) 4 cx w6.drew rfl HX6.out
          generalize (⟨(le4 x).toArray⟩ : ByteArray) = sa at *
          generalize (⟨m.toArray⟩ : ByteArray) = sm at *
          have hse := HSS.out
          go_still_tail 12, (by kernel_rfl)
          change wpList _ _ _ _ _ w6.drew
          clear hcv1 hcv2
          go_wp2_with fail
          refine (head_any _ (HT.out.keeps HB6.out.drew)).mono ?_
          rintro e w7 ⟨rfl, hb7⟩
          go_wp2
          go_ret
          exact ⟨rfl, HB6.out.drew.trans (hb7.mono HB6.out.drew.size)⟩

end Go.Proofs.YthfmhfddgmojaaaDoor
