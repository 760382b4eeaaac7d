/-
  The code's log: Open.
-/
import Derived.Test.YtjahkaockjhibaaDoorWalCodeH
import Derived.Test.YtjahkaockjhibaaDoorMWOpen
namespace Go.Proofs.YtjahkaockjhibaaDoor
open Go.RowKit

/-- What Open hands back. -/
def WOpenV (t : TV) (least : Nat) (w : World) (e : Ending) (w' : World) : Prop :=
  (opens t.s least = none ∧ e = .returned (.tuple #[.pointer none, .int .i64 80]) ∧ Below w.heap.size w w') ∨
  ∃ d : WV, opens t.s least = some d.g ∧ d.t.A = t.A ∧ e = .returned (.tuple #[d.ptr, .int .i64 0]) ∧ d.In w' ∧ Only t.mine w w' ∧ ∀ k, d.mine k → t.mine k ∨ w.heap.size ≤ k

theorem wopen_set {t : TV} {least : Nat} {w w2 w3 w4 : World} {m : List Ent} {n c : Nat} {A : Option Addr} (h : t.In w) (hm : logRead t.s.l = some (m, n)) (hc : least ≤ 281474976710656 ∧ (m = [] ∨ least ≤ lastN m))
    (hb : Below w.heap.size w w2) (hg : GrE w2 m (.slice A m.length c) w3) (t' : TV) (hA : t'.A = t.A) (hs : t'.s = (t.s.shorten (t.s.base + n)).force) (hin : t'.In w4) (ho : Only t.mine w3 w4) (hmn : ∀ k, t'.mine k → t.mine k ∨ w3.heap.size ≤ k) :
    ∀ W, W = w4.alloc (.cells #[.pointer (some ⟨t.A, 0, none⟩), .slice A m.length c, .int .u64 ((lastOr least m : Nat) : Int), .int .u64 ((lastOr least m : Nat) : Int)] 74) →
    WOpenV t least w (.returned (.tuple #[.pointer (some ⟨w4.heap.size, 0, none⟩), .int .i64 0])) W := by
  rintro W rfl
  have hb3 : Below w.heap.size w w3 := hb.trans (hg.2.mono hb.size)
  have hlt := h.mineLt
  have hfr := hg.fresh
  have hbA : ∀ k, blk A = some k → w2.heap.size ≤ k := fun k hk => by
    cases A with
    | none => cases hk
    | some ad => injection hk with hk; exact hk ▸ hfr ad rfl
  have hne : ∀ k, blk A = some k → ¬ t.mine k := fun k hk e => by
    have := hlt k e
    have := hbA k hk
    have := hb.size
    omega
  refine .inr ⟨⟨w4.heap.size, t', A, c, openAt t.s m n least⟩, opens_some hm hc, hA, rfl, ⟨?_, ?_, hs, ?_, openAt_ok h.ok hm hc.1⟩, ?_, ?_⟩
  · show Row _ w4.heap.size _ [.pointer (some ⟨t'.A, 0, none⟩), .slice A m.length c, .int .u64 ((lastOr least m : Nat) : Int), .int .u64 ((lastOr least m : Nat) : Int)] (0, 0)
    rw [hA]
    exact Row.new w4 74 [.pointer (some ⟨t.A, 0, none⟩), .slice A m.length c, .int .u64 ((lastOr least m : Nat) : Int), .int .u64 ((lastOr least m : Nat) : Int)] (0, 0)
  · exact hin.keeps ((Below.refl _ _).alloc (Nat.le_refl _) _)
  · exact ((EntO.of_gr hg).only ho hne).keeps ((Below.refl _ _).alloc (Nat.le_refl _) _)
  · exact ((Only.below hb3 t.mine).trans ho).alloc _
  · rintro k ((rfl | hk) | hk)
    · exact .inr (Nat.le_trans hb3.size ho.size)
    · rcases hmn k hk with h1 | h1
      · exact .inl h1
      · exact .inr (Nat.le_trans hb3.size h1)
    · exact .inr (Nat.le_trans hb.size (hbA k hk))

theorem scan_x (b : List UInt8) : (scan b).2.2 < 256 := by
  have : ∀ (n : Nat) (b : List UInt8), b.length ≤ n → (scan b).2.2 ≤ 2 := by
    intro n
    induction n with
    | zero =>
      intro b hb
      obtain rfl : b = [] := List.eq_nil_of_length_eq_zero (by omega)
      rw [scan_nil]; decide
    | succ n ih =>
      intro b hb
      cases hl : lookR b with
      | whole => rw [scan_of_whole hl]; simp
      | torn => rw [scan_of_torn hl]; simp
      | bad => rw [scan_of_bad hl]; simp
      | told r =>
        have h1 := (look_rec hl).1
        rw [scan_of_rec hl]
        exact ih (b.drop (13 + r.d.length)) (by rw [List.length_drop]; omega)
  have := this b.length b (Nat.le_refl _)
  omega

set_option maxRecDepth 100000 in
set_option maxHeartbeats 4000000 in
theorem wopen_any (t : TV) (least : Nat) (w : World) (hT : Tab w) (h : t.In w) (hbl : t.s.l.length ≤ 30000) (hl64 : least < 18446744073709551616) : Calls Tryd.prog 11 #[t.ptr, .int .u64 (least : Int)] w (WOpenV t least w) := by
  have hlt := h.mineLt
  obtain ⟨wa, hwa⟩ : ∃ wa, w.alloc (.cells #[.pointer (some ⟨t.A, 0, none⟩)] 72) = wa := ⟨_, rfl⟩
  have HBA := Lib.hid (show Below w.heap.size w wa from hwa ▸ (Below.refl _ _).alloc (Nat.le_refl _) _)
  have HRA := Lib.hid (show Row wa w.heap.size 72 [.pointer (some ⟨t.A, 0, none⟩)] (0, 0) from hwa ▸ Row.new w _ [.pointer (some ⟨t.A, 0, none⟩)] (0, 0))
  have c0 : wa.cell? ⟨w.heap.size, 0, none⟩ = some (.pointer (some ⟨t.A, 0, none⟩)) := HRA.out.cell 0
  have HAL := Lib.hid (wall_any t wa (h.keeps HBA.out))
  have HSC := Lib.hid (fun wx (hb : Below w.heap.size w wx) => scan_new t.s.l wx (hT.keeps hb) (by omega))
  have HTK := Lib.hid (scan_takes _ t.s.l (Nat.le_refl _))
  have hxx := scan_x t.s.l
  have HSL := Lib.hid (scan_len t.s.l)
  have HSN := Lib.hid (show Sane (scan t.s.l).1 from fun r hr => by have := HTK.out.2.2.2 r hr; omega)
  have HTN := HTK.out.1
  have HLR0 := Lib.hid (show (scan t.s.l).2.2 = 2 → opens t.s least = none from fun hh => opens_none (logRead_bad hh))
  have HLR1 := Lib.hid (show entsOf 0 (scan t.s.l).1 = none → opens t.s least = none from fun hh => opens_none (logRead_none hh))
  have HLR2 := Lib.hid (show ∀ m, (scan t.s.l).2.2 ≠ 2 → entsOf 0 (scan t.s.l).1 = some m → logRead t.s.l = some (m, (scan t.s.l).2.1) from fun m h2 hm => logRead_some h2 hm)
  have HNO := Lib.hid (show ∀ w', opens t.s least = none → Below w.heap.size w w' → WOpenV t least w (.returned (.tuple #[.pointer none, .int .i64 80])) w' from fun w' h1 h2 => .inl ⟨h1, rfl, h2⟩)
  have HST := Lib.hid (fun wx (hb : Below w.heap.size w wx) n (hn : n ≤ t.s.l.length) => wsettle_any t wx n hn (h.keeps hb))
  have HSET := Lib.hid (fun w2 w3 w4 m n c A hm hc hb hg t' hA hs hin ho hmn => wopen_set (least := least) (w2 := w2) (w3 := w3) (w4 := w4) (m := m) (n := n) (c := c) (A := A) h hm hc hb hg t' hA hs hin ho hmn)
  have HOB := Lib.hid (fun m (hm : logRead t.s.l = some (m, (scan t.s.l).2.1)) (hc : ¬ (least ≤ 281474976710656 ∧ (m = [] ∨ least ≤ lastN m))) => opens_bad hm hc)
  have HLT := Lib.hid (show ∀ k, t.mine k → k < w.heap.size from hlt)
  have HMX := Lib.hid (show ∀ m, logRead t.s.l = some (m, (scan t.s.l).2.1) → m ≠ [] → lastN m ≤ 281474976710656 from fun m hm hne => by
    rw [lastN_at hne]
    exact ((logRead_is hm).2.2.1 _ (List.getElem_mem _)).2.1)
  obtain ⟨Q, hQ⟩ : ∃ Q, WOpenV t least w = Q := ⟨_, rfl⟩
  simp only [hQ] at HSET HNO ⊢
  clear h hQ hT hlt
  unfold TV.ptr at HAL HST ⊢
  go_enter Tryd.func11, Tryd.ntmps11
  go_wp2_with fail
  try rw [hwa]
  clear hwa
  refine HAL.out.mono ?_
  rintro e w1 ⟨rfl, hb1⟩
  have HB1 := Lib.hid (HBA.out.trans (hb1.mono HBA.out.size))
  have HR1 := Lib.hid (HRA.out.below hb1 HRA.out.lt)
  clear hb1 HAL HBA HRA c0
  go_wp2_with fail
  refine (HSC.out w1 HB1.out).mono ?_
  rintro e w2 ⟨RA, rc, rfl, hrc, _, hrec, hb2, _⟩
  have HB2 := Lib.hid (HB1.out.trans (hb2.mono HB1.out.size))
  have HR2 := Lib.hid (HR1.out.below hb2 HR1.out.lt)
  have hll := HSL.out
  have HEN := Lib.hid (wentries_any RA _ rc w2 hrec (by omega) HSN.out)
  clear hb2 HB1 HR1 HSC hrec HTK HSN
  obtain ⟨rs, hrs⟩ : ∃ rs, (scan t.s.l).1 = rs := ⟨_, rfl⟩
  obtain ⟨n, hn⟩ : ∃ n, (scan t.s.l).2.1 = n := ⟨_, rfl⟩
  obtain ⟨x, hx⟩ : ∃ x, (scan t.s.l).2.2 = x := ⟨_, rfl⟩
  rw [hrs] at HEN HSL hll HLR1 HLR2 ⊢
  rw [hn] at HLR2 HOB HMX HTN ⊢
  rw [hx] at HLR0 HLR2 hxx ⊢
  clear hrs hn hx
  go_wp2_with fail
  refine HEN.out.mono ?_
  rintro e w3 ⟨m, A, c, b, rfl, hg, hbt, hbf, hml⟩
  have HG := Lib.hid hg
  have HB3 := Lib.hid (HB2.out.trans (hg.2.mono HB2.out.size))
  have HR3 := Lib.hid (HR2.out.below hg.2 HR2.out.lt)
  have k0 := HR3.out.cell 0
  simp only [List.getElem?_cons_zero] at k0
  have HBT := Lib.hid hbt
  have HBF := Lib.hid hbf
  have hml5 : m.length ≤ 5000000 := by omega
  have HLL := Lib.hid hll
  have HML := Lib.hid hml
  have HFIN := Lib.hid (show ∀ (hm : logRead t.s.l = some (m, n)) (hc : least ≤ 281474976710656 ∧ (m = [] ∨ least ≤ lastN m)) e w4, t.Turned w3 (t.s.shorten (t.s.base + n)).force (.int .i64 0) e w4 → e = .returned (.int .i64 0) ∧ w4.cell? ⟨w.heap.size, 0, none⟩ = some (.pointer (some ⟨t.A, 0, none⟩)) ∧ ∀ W, W = w4.alloc (.cells #[.pointer (some ⟨t.A, 0, none⟩), .slice A m.length c, .int .u64 ((lastOr least m : Nat) : Int), .int .u64 ((lastOr least m : Nat) : Int)] 74) → Q (.returned (.tuple #[.pointer (some ⟨w4.heap.size, 0, none⟩), .int .i64 0])) W from fun hm hc e w4 ⟨t', he, hA, hs, hin, ho, hmn⟩ =>
    ⟨he, (HR3.out.only ho (fun hk => Nat.lt_irrefl _ (HLT.out _ hk))).cell 0, HSET.out w2 w3 w4 m n c A hm hc HB2.out HG.out t' hA hs hin ho hmn⟩)
  have HST3 := Lib.hid (HST.out w3 HB3.out n HTN)
  have HNO3 := Lib.hid (fun hh => HNO.out w3 hh HB3.out)
  clear hg hbt hbf HEN HB2 HR2 HSET HST HNO HLT hll hml
  by_cases hm0 : m = []
  · subst hm0
    have lo : lastOr least [] = least := if_pos rfl
    rw [lo] at HFIN
    simp only [List.length_nil] at HFIN ⊢
    clear HG HR3 lo
    have hBB : ¬ (least : Int) < (least : Int) := by omega
    by_cases hx2 : x = 2
    · have HE := Lib.hid (HNO3.out (HLR0.out hx2))
      subst hx2
      clear HLR0 HLR1 HLR2 HOB HMX HBT HBF HNO3 HFIN HST3
      go_wp2
      exact HE.out
    · have hxI : ¬ (x : Int) = 2 := by omega
      have hxB : ((x : Int) == 2) = false := beq_eq_false_iff_ne.2 hxI
      cases b with
      | false =>
        have HE := Lib.hid (HNO3.out (HLR1.out (HBF.out rfl)))
        clear HLR0 HLR1 HLR2 HOB HMX HBT HBF HNO3 HFIN HST3 hx2
        go_wp2
        exact HE.out
      | true =>
        have hm := HLR2.out _ hx2 (HBT.out rfl)
        by_cases hl : least ≤ 281474976710656
        · have HF := Lib.hid (HFIN.out hm ⟨hl, .inl (by first | rfl | trivial)⟩)
          have hlI : ¬ (281474976710656 : Int) < (least : Int) := by omega
          clear HLR0 HLR1 HLR2 HOB HMX HBT HBF HNO3 HFIN hm hx2 hl
          go_wp2_with fail
          refine HST3.out.mono ?_
          intro e w4 ht
          obtain ⟨rfl, k4, hq⟩ := HF.out e w4 ht
          have HQ := Lib.hid hq
          clear ht hq HF HST3
          go_wp2
          exact HQ.out _ rfl
        · have HE := Lib.hid (HNO3.out (HOB.out _ hm (fun hc => hl hc.1)))
          have hlI : (281474976710656 : Int) < (least : Int) := by omega
          clear HLR0 HLR1 HLR2 HOB HMX HBT HBF HNO3 HFIN hm hx2 hl HST3
          go_wp2
          exact HE.out
  · have hlen : 0 < m.length := List.length_pos_iff.2 hm0
    have hlenI : (0 : Int) < (m.length : Int) := by omega
    obtain ⟨g, off, hA, hgl, d1, d2, d3⟩ := HG.out.ents_of rfl (m.length - 1) (by omega)
    rw [← lastN_at hm0] at d1
    have lo : lastOr least m = lastN m := if_neg hm0
    rw [lo] at HFIN
    obtain ⟨len', hl'⟩ : ∃ len', m.length - 1 = len' := ⟨_, rfl⟩
    have wk1 : IntKind.i64.wrap ((m.length : Int) - 1) = (len' : Int) := by rw [IntWalk.i64_in _ (by omega)]; omega
    have hlI2 : (len' : Int) < (m.length : Int) := by omega
    rw [hl'] at d1
    have HOB := Lib.hid (HOB.out m)
    have HMX := Lib.hid (HMX.out m)
    obtain ⟨L, hL⟩ : ∃ L, lastN m = L := ⟨_, rfl⟩
    rw [hL] at d1 HFIN HOB HMX
    obtain ⟨M, hM⟩ : ∃ M, m.length = M := ⟨_, rfl⟩
    rw [hM] at hlenI wk1 hlI2 HFIN ⊢
    subst hA
    have HM0 := Lib.hid hm0
    clear d2 d3
    clear HG HR3 lo hl' hlen hgl hm0 hM
    by_cases hx2 : x = 2
    · have HE := Lib.hid (HNO3.out (HLR0.out hx2))
      subst hx2
      clear HLR0 HLR1 HLR2 HOB HMX HBT HBF HNO3 HFIN HST3
      go_wp2
      exact HE.out
    · have hxI : ¬ (x : Int) = 2 := by omega
      have hxB : ((x : Int) == 2) = false := beq_eq_false_iff_ne.2 hxI
      cases b with
      | false =>
        have HE := Lib.hid (HNO3.out (HLR1.out (HBF.out rfl)))
        clear HLR0 HLR1 HLR2 HOB HMX HBT HBF HNO3 HFIN HST3 hx2
        go_wp2
        exact HE.out
      | true =>
        have hm := HLR2.out _ hx2 (HBT.out rfl)
        have hLm := HMX.out hm HM0.out
        by_cases hle : least ≤ L
        · have HF := Lib.hid (HFIN.out hm ⟨by omega, .inr hle⟩)
          have hlI : ¬ (281474976710656 : Int) < (least : Int) := by omega
          have hlJ : ¬ (L : Int) < (least : Int) := by omega
          clear HLR0 HLR1 HLR2 HOB HMX HBT HBF HNO3 HFIN hm hx2 hle
          go_wp2_with fail
          refine HST3.out.mono ?_
          intro e w4 ht
          obtain ⟨rfl, k4, hq⟩ := HF.out e w4 ht
          have HQ := Lib.hid hq
          clear ht hq HF HST3
          go_wp2
          exact HQ.out _ rfl
        · have HE := Lib.hid (HNO3.out (HOB.out hm (fun hc => hc.2.elim HM0.out hle)))
          have hlJ : (L : Int) < (least : Int) := by omega
          clear HLR0 HLR1 HLR2 HOB HMX HBT HBF HNO3 HFIN hm hx2 hle HST3
          go_wp2
          exact HE.out
end Go.Proofs.YtjahkaockjhibaaDoor

/-
  The code's log that is none; Open of no tape.
-/
namespace Go.Proofs.YtjahkaockjhibaaDoor
open Go.RowKit

/-- What a log that is none is. -/
structure NoWal (w : World) (v : Value) : Prop where
  none : v = .pointer none ∨ ∃ A, v = .pointer (some ⟨A, 0, .none⟩) ∧ w.cell? ⟨A, 0, .none⟩ = some (.pointer .none)
theorem NoWal.keeps {w w' : World} {v : Value} (h : NoWal w v) (hb : ∀ A, v = .pointer (some ⟨A, 0, .none⟩) → w'.cell? ⟨A, 0, .none⟩ = w.cell? ⟨A, 0, .none⟩) : NoWal w' v := by
  rcases h.none with h1 | ⟨A, h1, h2⟩
  · exact ⟨.inl h1⟩
  · exact ⟨.inr ⟨A, h1, (hb A h1).trans h2⟩⟩

set_option maxRecDepth 100000 in
theorem wno_isNone {v : Value} {w : World} (h : NoWal w v) : Calls Tryd.prog 49 #[v] w fun e w' => e = .returned (.bool true) ∧ w = w' := by
  rcases h.none with rfl | ⟨A, rfl, h1⟩
  · go_enter Tryd.func49, Tryd.ntmps49
    go_wp2
    go_ret
    exact ⟨rfl, rfl⟩
  · go_enter Tryd.func49, Tryd.ntmps49
    go_wp2
    go_ret
    exact ⟨rfl, rfl⟩
section
variable {v : Value} {w : World}
set_option maxRecDepth 100000 in
theorem wno_append (h : NoWal w v) (k : Int) (s : ByteArray) : Calls Tryd.prog 27 #[v, .int .u8 k, .string s] w fun e w' => e = .returned (.tuple #[.int .u64 0, .int .i64 1]) ∧ w = w' := by
  have HN := Lib.hid (wno_isNone h)
  clear h
  go_enter Tryd.func27, Tryd.ntmps27
  go_wp2_with fail
  refine HN.out.mono ?_
  rintro e w1 ⟨rfl, rfl⟩
  go_wp2
  go_ret2
  exact ⟨rfl, rfl⟩
set_option maxRecDepth 100000 in
theorem wno_force (h : NoWal w v) : Calls Tryd.prog 20 #[v] w fun e w' => e = .returned (.int .i64 1) ∧ w = w' := by
  have HN := Lib.hid (wno_isNone h)
  clear h
  go_enter Tryd.func20, Tryd.ntmps20
  go_wp2_with fail
  refine HN.out.mono ?_
  rintro e w1 ⟨rfl, rfl⟩
  go_wp2
  go_ret
  exact ⟨rfl, rfl⟩
set_option maxRecDepth 100000 in
theorem wno_trim (h : NoWal w v) (n : Int) : Calls Tryd.prog 21 #[v, .int .u64 n] w fun e w' => e = .returned (.int .i64 1) ∧ w = w' := by
  have HN := Lib.hid (wno_isNone h)
  clear h
  go_enter Tryd.func21, Tryd.ntmps21
  go_wp2_with fail
  refine HN.out.mono ?_
  rintro e w1 ⟨rfl, rfl⟩
  go_wp2
  go_ret
  exact ⟨rfl, rfl⟩
set_option maxRecDepth 100000 in
theorem wno_last (h : NoWal w v) : Calls Tryd.prog 35 #[v] w fun e w' => e = .returned (.int .u64 0) ∧ w = w' := by
  have HN := Lib.hid (wno_isNone h)
  clear h
  go_enter Tryd.func35, Tryd.ntmps35
  go_wp2_with fail
  refine HN.out.mono ?_
  rintro e w1 ⟨rfl, rfl⟩
  go_wp2
  go_ret
  exact ⟨rfl, rfl⟩
set_option maxRecDepth 100000 in
theorem wno_stable (h : NoWal w v) : Calls Tryd.prog 34 #[v] w fun e w' => e = .returned (.int .u64 0) ∧ w = w' := by
  have HN := Lib.hid (wno_isNone h)
  clear h
  go_enter Tryd.func34, Tryd.ntmps34
  go_wp2_with fail
  refine HN.out.mono ?_
  rintro e w1 ⟨rfl, rfl⟩
  go_wp2
  go_ret
  exact ⟨rfl, rfl⟩
set_option maxRecDepth 100000 in
theorem wno_first (h : NoWal w v) : Calls Tryd.prog 38 #[v] w fun e w' => e = .returned (.int .u64 0) ∧ w = w' := by
  have HN := Lib.hid (wno_isNone h)
  clear h
  go_enter Tryd.func38, Tryd.ntmps38
  go_wp2_with fail
  refine HN.out.mono ?_
  rintro e w1 ⟨rfl, rfl⟩
  go_wp2
  go_ret
  exact ⟨rfl, rfl⟩
set_option maxRecDepth 100000 in
theorem wno_room (h : NoWal w v) : Calls Tryd.prog 36 #[v] w fun e w' => e = .returned (.int .i64 0) ∧ w = w' := by
  have HN := Lib.hid (wno_isNone h)
  clear h
  go_enter Tryd.func36, Tryd.ntmps36
  go_wp2_with fail
  refine HN.out.mono ?_
  rintro e w1 ⟨rfl, rfl⟩
  go_wp2
  go_ret
  exact ⟨rfl, rfl⟩
set_option maxRecDepth 100000 in
theorem wno_from (h : NoWal w v) (n : Int) : Calls Tryd.prog 16 #[v, .int .u64 n] w fun e w' => e = .returned (.slice none 0 0) ∧ w = w' := by
  have HN := Lib.hid (wno_isNone h)
  clear h
  go_enter Tryd.func16, Tryd.ntmps16
  go_wp2_with fail
  refine HN.out.mono ?_
  rintro e w1 ⟨rfl, rfl⟩
  go_wp2
  go_ret
  exact ⟨rfl, rfl⟩
set_option maxRecDepth 100000 in
set_option maxHeartbeats 1000000 in
theorem wno_get (h : NoWal w v) (hold : ∀ A, v = .pointer (some ⟨A, 0, .none⟩) → A < w.heap.size) (n : Int) : Calls Tryd.prog 25 #[v, .int .u64 n] w fun e w' => e = .returned (.tuple #[.agg #[.int .u64 0, .int .u8 0, .string ⟨#[]⟩], .int .i64 1]) ∧ Below w.heap.size w w' := by
  obtain ⟨wa, hwa⟩ : ∃ wa, w.alloc (.cells #[.int .u64 0, .int .u8 0, .string ⟨#[]⟩] 48) = wa := ⟨_, rfl⟩
  have HR0 := Lib.hid (show Row wa w.heap.size 48 [.int .u64 0, .int .u8 0, .string ⟨#[]⟩] (0, 0) from hwa ▸ ent_new w _)
  have HB0 := Lib.hid (show Below w.heap.size w wa from hwa ▸ (Below.refl _ _).alloc (Nat.le_refl _) _)
  have HN := Lib.hid (wno_isNone (h.keeps (w' := wa) (fun A hA => HB0.out.cell (p := ⟨A, 0, .none⟩) (hold A hA))))
  have b0 := HR0.out.cell 0
  have b1 := HR0.out.cell 1
  have b2 := HR0.out.cell 2
  have f0 := HR0.out.loose 0
  have f1 := HR0.out.loose 1
  have f2 := HR0.out.loose 2
  simp only [List.getElem?_cons_zero, List.getElem?_cons_succ] at b0 b1 b2
  have HW := Lib.hid (show ∀ x y z W', W' = ((wa.setCell ⟨w.heap.size, 0, none⟩ x).setCell ⟨w.heap.size, 1, none⟩ y).setCell ⟨w.heap.size, 2, none⟩ z → Row W' w.heap.size 48 [x, y, z] (0, 0) ∧ Below w.heap.size w W' from fun x y z W' e => by
    subst e
    exact ⟨((HR0.out.put 0 _).put 1 _).put 2 _, ((HB0.out.setCell (Nat.le_refl _) _).setCell (Nat.le_refl _) _).setCell (Nat.le_refl _) _⟩)
  clear h hold
  go_enter Tryd.func25, Tryd.ntmps25
  go_wp2_with fail
  try rw [hwa]
  clear hwa
  refine HN.out.mono ?_
  rintro e w1 ⟨rfl, rfl⟩
  go_wp2
  obtain ⟨hr, hbb⟩ := HW.out _ _ _ _ rfl
  exact bodyPost_ret (v := .tuple #[.agg #[.int .u64 0, .int .u8 0, .string ⟨#[]⟩], .int .i64 1]) (results_cell_tmp (by rfl) _ _ w.heap.size _ _ (0, 0) _ _ (by rfl) (by rfl) hr Tryd.underlying48 rfl Tryd.size_ent) rfl ⟨rfl, hbb⟩
end

theorem no_tape (w : World) : NoTape w (.pointer none) := ⟨.inl rfl⟩

set_option maxRecDepth 100000 in
set_option maxHeartbeats 1000000 in
theorem wall_none (w : World) : Calls Tryd.prog 39 #[.agg #[.pointer none]] w fun e w' => e = .returned (.tuple #[.string ⟨#[]⟩, .int .i64 1]) ∧ Below w.heap.size w w' := by
  obtain ⟨wa, hwa⟩ : ∃ wa, (w.alloc (.cells #[.pointer none] 72)).drew = wa := ⟨_, rfl⟩
  have hb : Below w.heap.size w wa := hwa ▸ ((Below.refl _ _).alloc (Nat.le_refl _) _).drew
  have hrow : Row wa w.heap.size 72 [.pointer none] (0, 0) := by
    have hr : Row (w.alloc (.cells #[.pointer none] 72)) w.heap.size 72 [.pointer none] (0, 0) := Row.new w _ [.pointer none] (0, 0)
    exact hwa ▸ hr.below (Below.refl _ _).drew hr.lt
  have HB := Lib.hid hb
  have hHeld : wa.cell? ⟨w.heap.size, 0, none⟩ = some (.pointer none) := hrow.cell 0
  clear hb hrow
  go_enter Tryd.func39, Tryd.ntmps39
  go_wp2_with fail
  refine wp_region_noPanic ?_
  refine wp_region_sch (fun wx => wx.cell? ⟨w.heap.size, 0, none⟩ = some (.pointer none)) (fun i => [4, 7, 8].contains i)
    (.takes [0, 1, 2, 3, 5, 6] (.run 4 (.run 7 (.run 8 (.takes [9, 10, 11, 12] .done))))) (by kernel_rfl) (fun _ _ _ _ _ h => h) (by kernel_rfl) ?_
  rw [hwa]
  clear hwa
  iterate 6 (
    refine sch_takes_cons ?_
    first
      | (refine sch_take (v := ?_) rfl (by assumption) (by rfl) ?_ ?_; rotate_left; (focus (intro wy hSy; (try dsimp only at hSy); go_simp; (try with_reducible rfl))))
      | (refine sch_pass rfl (by assumption) (by rfl) ?_)
    simp only [Act.put, List.setIfInBounds_toArray, List.set_cons_zero, List.set_cons_succ])
  refine sch_takes_nil ?_
  refine sch_run rfl (fun K hK => ?_)
  go_simp
  with_reducible refine (base_none (no_tape _)).mono ?_
  rintro e w1 ⟨rfl, rfl⟩
  try dsimp only
  refine hK.out _ _ (fun _ => hHeld) ?_
  clear hK K
  try simp only [Act.put, List.setIfInBounds_toArray, List.set_cons_zero, List.set_cons_succ]
  refine sch_run rfl (fun K hK => ?_)
  go_simp
  with_reducible refine (End_none (no_tape _)).mono ?_
  rintro e w1 ⟨rfl, rfl⟩
  try dsimp only
  refine hK.out _ _ (fun _ => hHeld) ?_
  clear hK K
  try simp only [Act.put, List.setIfInBounds_toArray, List.set_cons_zero, List.set_cons_succ]
  refine sch_run rfl (fun K hK => ?_)
  go_simp
  with_reducible refine (read_none (no_tape _) 0 0).mono ?_
  rintro e w1 ⟨rfl, rfl⟩
  try dsimp only
  refine hK.out _ _ (fun _ => hHeld) ?_
  clear hK K
  try simp only [Act.put, List.setIfInBounds_toArray, List.set_cons_zero, List.set_cons_succ]
  iterate 4 (
    refine sch_takes_cons ?_
    first
      | (refine sch_take (v := ?_) rfl (by assumption) (by rfl) ?_ ?_; rotate_left; (focus (intro wy hSy; (try dsimp only at hSy); go_simp; (try with_reducible rfl))))
      | (refine sch_pass rfl (by assumption) (by rfl) ?_)
    simp only [Act.put, List.setIfInBounds_toArray, List.set_cons_zero, List.set_cons_succ])
  refine sch_takes_nil ?_
  refine sch_done ?_
  refine NoPanic.normal ?_
  go_wp2
  go_ret2
  exact ⟨rfl, HB.out⟩

set_option maxRecDepth 100000 in
set_option maxHeartbeats 1000000 in
theorem wopen_none (n : Int) (w : World) : Calls Tryd.prog 11 #[.pointer none, .int .u64 n] w fun e w' => e = .returned (.tuple #[.pointer none, .int .i64 1]) ∧ Below w.heap.size w w' := by
  obtain ⟨wa, hwa⟩ : ∃ wa, w.alloc (.cells #[.pointer none] 72) = wa := ⟨_, rfl⟩
  have HBA := Lib.hid (show Below w.heap.size w wa from hwa ▸ (Below.refl _ _).alloc (Nat.le_refl _) _)
  have hra : Row wa w.heap.size 72 [.pointer none] (0, 0) := hwa ▸ Row.new w _ [.pointer none] (0, 0)
  have c0 : wa.cell? ⟨w.heap.size, 0, none⟩ = some (.pointer none) := hra.cell 0
  have f0 : wa.frozen? ⟨w.heap.size, 0, none⟩ = false := hra.loose 0
  obtain ⟨ws, hws⟩ : ∃ ws, wa.setCell ⟨w.heap.size, 0, none⟩ (.pointer none) = ws := ⟨_, rfl⟩
  have HBS := Lib.hid (show Below w.heap.size w ws from hws ▸ HBA.out.setCell (Nat.le_refl _) _)
  have s0 : ws.cell? ⟨w.heap.size, 0, none⟩ = some (.pointer none) := hws ▸ (hra.put 0 (.pointer none)).cell 0
  have HAL := Lib.hid (wall_none ws)
  clear hra
  go_enter Tryd.func11, Tryd.ntmps11
  go_wp2_with fail
  try rw [hws]
  clear hwa hws
  refine HAL.out.mono ?_
  rintro e w1 ⟨rfl, hb1⟩
  have HB1 := Lib.hid (HBS.out.trans (hb1.mono HBS.out.size))
  clear hb1 HAL HBA HBS c0 s0 f0
  go_wp2
  go_ret2
  exact ⟨rfl, HB1.out⟩
end Go.Proofs.YtjahkaockjhibaaDoor
