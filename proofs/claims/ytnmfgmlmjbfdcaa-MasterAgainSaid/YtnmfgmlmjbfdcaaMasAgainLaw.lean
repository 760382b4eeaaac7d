/-
  The statement MasterAgain walked.
-/
import Derived.Test.YtnmfgmlmjbfdcaaMasHead
import Derived.Test.YtnmfgmlmjbfdcaaMasArgs
namespace Go.Proofs.Ytnmfgmlmjbfdcaa
open Go.RowKit

/-- Opened once more: both masters. -/
theorem MsP.again {W w : World} {p a : Value} {nb ns t : Nat} {m : MS} {J : MV → Prop} (h : MsP W p a J w) (hJ : ∀ x, J x → MI nb ns m t x) (h2 : 2 ≤ nb) : Calls Try.prog 18 #[p] w fun e w' =>
    ∃ A, e = .returned (.tuple #[.pointer (some ⟨A, 0, none⟩), .int .i64 0]) ∧ MsP W p (.pointer (some ⟨A, 0, none⟩)) (MI nb ns m t) w' ∧ MsP W p a J w' := by
  obtain ⟨x, rfl, k2, k3, k4, k5, k6⟩ := h
  obtain ⟨q1, q2⟩ := hJ x k6
  refine (mopen_any x.d w k3.dev (by rw [q1.nb]; exact h2)).mono ?_
  rintro e w' ⟨A, he, hi, hb, hA⟩
  refine ⟨A, he, ⟨⟨A, x.d, x.d.opened, 0⟩, rfl, rfl, hi, k4.trans (hb.mono k4.size), fun k hk => ?_, q1, q1.op⟩, x, rfl, k2, k3.keeps hb, k4.trans (hb.mono k4.size), k5, k6⟩
  rcases hk with rfl | hk
  · exact Nat.le_trans k4.size hA
  · exact k5 k (.inr hk)
/-- What the blocks bear: the text that counts; the one ahead of it. -/
structure AgI (t : Nat) (s : List UInt8) (o : Option (List UInt8)) (m : MS) (x : MV) : Prop where
  mi : MI 2 4 m t x
  hv : m.v = t
  hs : m.s = s
  now : t ≠ 0 → unpackP (x.d.bl m.at_) = some (t, s)
  old : ∀ o', o = some o' → ∃ v, unpackP (x.d.bl (1 - m.at_)) = some (v, o')
def AgW (t : Nat) (s : List UInt8) (m : MS) (b : List UInt8) (x : MV) : Prop :=
  MW 2 4 m t b x ∧ unpackP (x.d.bl (1 - m.at_)) = some (t + 1, b) ∧ (t ≠ 0 → unpackP (x.d.bl m.at_) = some (t, s))
theorem AgI.put {W w : World} {p a : Value} {t : Nat} {s : List UInt8} {o : Option (List UInt8)} {m : MS} (h : MsP W p a (AgI t s o m) w) (b : ByteArray) (hb : b.size ≤ 200) (ht : t ≤ 100) :
    Calls Try.prog 30 #[a, .string b] w fun e w' => e = .returned (.int .i64 0) ∧ MsP W p a (AgW t s m (txt b)) w' := by
  have hE : ∀ x : MV, AgI t s o m x → x.d.putE x.m (txt b) = 0 := fun x hx => by
    rw [hx.mi.2]
    exact hx.mi.1.putE (by show b.size + 4 ≤ _; omega) (by omega)
  have := h.put (J' := AgW t s m (txt b)) (txt b) (by show b.size ≤ _; omega) (fun x hx => hx.mi.1.pend) hE fun x w0 q hi hx => by
    have hE' := hE x hx
    rw [hx.mi.2] at hE'
    have hfit := put_fits hi.dev hE'
    have h1 := hx.mi.1.one
    have hbl := bl_wrote hi.dev (show 1 - m.at_ < x.d.nb by rw [hx.mi.1.nb]; omega) (tb (x.d.putB (txt b))) q (putB_size _ _)
    have ed : (x.putV (txt b) q).d = x.d.wrote (1 - m.at_) (tb (x.d.putB (txt b))) q := by unfold MV.putV; rw [hx.mi.2]
    refine ⟨⟨?_, by show x.m.put _ = _; rw [hx.mi.2]⟩, ?_, fun h0 => ?_⟩
    · rw [ed]; exact WI.of hi.dev hx.mi.1 hE'
    · rw [ed, hbl, if_pos rfl, putB_txt]
      have := unpack_packed hfit
      rw [hx.mi.1.top] at this
      show unpackP (packed (x.d.top + 1) _ _) = _
      rw [hx.mi.1.top]
      exact this
    · rw [ed, hbl, if_neg (by omega)]
      exact hx.now h0
  rw [tb_of] at this
  exact this
theorem AgW.sync {W w : World} {p a : Value} {t : Nat} {s b : List UInt8} {m : MS} (h : MsP W p a (AgW t s m b) w) (h1 : m.at_ ≤ 1) :
    Calls Try.prog 24 #[a] w fun e w' => e = .returned (.int .i64 0) ∧ MsP W p a (AgI (t + 1) b (if t = 0 then none else some s) ⟨1 - m.at_, t + 1, b, false, []⟩) w' :=
  h.sync (fun x hx => by rw [hx.1.2]; rfl) fun x w0 hi hx => by
    obtain ⟨q1, q3⟩ := hx.1.1.synced (by decide)
    refine ⟨⟨q1, by show x.m.sync x.d.top = _; rw [hx.1.2, q3]; rfl⟩, rfl, rfl, fun _ => hx.2.1, fun o' ho => ?_⟩
    by_cases h0 : t = 0
    · rw [if_pos h0] at ho; cases ho
    · rw [if_neg h0] at ho
      injection ho with ho
      subst ho
      refine ⟨t, ?_⟩
      have := hx.2.2 h0
      show unpackP (x.d.bl (1 - (1 - m.at_))) = _
      rw [show 1 - (1 - m.at_) = m.at_ by omega]
      exact this
theorem AgI.one {t : Nat} {s : List UInt8} {o : Option (List UInt8)} {m : MS} {x : MV} (h : AgI t s o m x) : m.at_ ≤ 1 := h.mi.1.one
/-- Both blocks, read. -/
theorem ag_reads {W w : World} {p a : Value} {t : Nat} {s o : List UInt8} {m : MS} (h : MsP W p a (AgI t s (some o) m) w) (ht : t ≠ 0) : ∃ X0 X1 v0 v1 s0 s1, unpackP X0 = some (v0, s0) ∧ unpackP X1 = some (v1, s1) ∧ ((s0 = s ∧ s1 = o) ∨ (s0 = o ∧ s1 = s)) ∧ X0.length ≤ 100000000 ∧ X1.length ≤ 100000000 ∧
    Hid (∀ wx, Below w.heap.size w wx → Calls Try.prog 32 #[p, .int .i64 0] wx fun e w' => e = .returned (.tuple #[.string (tb X0), .int .i64 0]) ∧ Below wx.heap.size wx w') ∧
    Hid (∀ wx, Below w.heap.size w wx → Calls Try.prog 32 #[p, .int .i64 1] wx fun e w' => e = .returned (.tuple #[.string (tb X1), .int .i64 0]) ∧ Below wx.heap.size wx w') := by
  obtain ⟨x, rfl, k2, k3, k4, k5, k6⟩ := h
  have hnb := k6.mi.1.nb
  have hns := k6.mi.1.ns
  have h1 := k6.one
  have hnow := k6.now ht
  obtain ⟨v, hold⟩ := k6.old o rfl
  have hr : ∀ (b : Nat), b < 2 → ∀ wx, Below w.heap.size w wx → Calls Try.prog 32 #[x.d.ptr, .int .i64 (b : Int)] wx fun e w' => e = .returned (.tuple #[.string (tb (x.d.bl b)), .int .i64 0]) ∧ Below wx.heap.size wx w' := fun b hb wx hx => by
    refine (read_any x.d wx (k3.keeps hx).dev (b : Int)).mono ?_
    rintro e w' ⟨he, n, rfl⟩
    rw [read_block x.d b (by omega), chk_in x.d b (by omega)] at he
    exact ⟨he, ⟨rfl, rfl, rfl, Nat.le_refl _, fun _ _ => rfl⟩⟩
  have hl : ∀ b, b < 2 → (x.d.bl b).length ≤ 100000000 := fun b hb => by rw [bl_length k3.dev (by omega), hns]; decide
  have HR0 := Lib.hid (hr 0 (by decide))
  have HR1 := Lib.hid (hr 1 (by decide))
  rcases (show m.at_ = 0 ∨ m.at_ = 1 by omega) with h0 | h0
  · rw [h0] at hnow hold
    exact ⟨_, _, _, _, _, _, hnow, hold, .inl ⟨rfl, rfl⟩, hl 0 (by decide), hl 1 (by decide), HR0, HR1⟩
  · rw [h0] at hnow hold
    exact ⟨_, _, _, _, _, _, hold, hnow, .inr ⟨rfl, rfl⟩, hl 0 (by decide), hl 1 (by decide), HR0, HR1⟩

set_option maxRecDepth 100000 in
set_option maxHeartbeats 16000000 in
theorem again_law (A : Option Addr) (n c : Nat) (l : List ByteArray) (w : World) (hl : Strs w A l) (hn : l.length = n) (hnb : n ≤ 9223372036854775807) (hls : ∀ b ∈ l, b.size ≤ 9223372036854775807) :
    Calls Try.prog 8 #[.slice A n c] w fun e w' => e = .returned (.bool true) ∧ Below w.heap.size w w' := by
  have HH := Lib.hid (fun wx => head_any wx)
  have nI : (n : Int) ≤ 9223372036854775807 := by omega
  by_cases hbig : 12 < n
  · have g1 : (12 : Int) < (n : Int) := by omega
    clear hl hn hls hbig hnb
    go_enter Try.func8, Try.ntmps8
    go_wp2_with fail
    refine (HH.out w).mono ?_
    rintro e w1 ⟨rfl, hb1⟩
    have HB1 := Lib.hid hb1
    clear hb1
    go_wp2
    go_ret
    exact ⟨rfl, HB1.out⟩
  · have g1 : (n : Int) ≤ 12 := by omega
    have HNL := Lib.hid hn
    have HB12 := Lib.hid (show n ≤ 12 by omega)
    have HSTR := Lib.hid hl
    have HLS := Lib.hid hls
    have HN := Lib.hid (show Calls Try.prog 16 #[.int .i64 2, .int .i64 4] w _ from DvP.new 2 4 w (by decide) (by decide) (by decide) (by decide))
    clear hbig hl hn hnb hls nI
    go_enter Try.func8, Try.ntmps8
    go_wp2_with fail
    refine HN.out.mono ?_
    rintro e w1 ⟨B, rfl, hd⟩
    have HD1 := Lib.hid (hd.imp (I' := DI 2 4 m0 0) fun d hi hx => DI.new hi hx.1 hx.2.1 hx.2.2.1 hx.2.2.2.1 hx.2.2.2.2 (by decide))
    have HO := Lib.hid (HD1.out.opens (by decide))
    clear hd HN HD1
    go_wp2_with fail
    refine HO.out.mono ?_
    rintro e w2 ⟨M, rfl, hm⟩
    have HM2 := Lib.hid (hm.imp (J' := AgI 0 [] none m0) fun x _ hx => ⟨hx, rfl, rfl, fun h => absurd rfl h, fun o' h => by cases h⟩)
    clear hm HO
    go_wp2_with fail
    go_loopw [7, 8] (fun ws i wr => ∃ (k : Nat) (m : MS) (s : List UInt8) (o : Option (List UInt8)), k ≤ n ∧ i = .int .i64 k ∧ ws = .int .u64 (k : Int) ∧ m.at_ ≤ 1 ∧ (∀ h : k - 1 < l.length, k ≠ 0 → s = txt l[k - 1]) ∧ Hid (MsP w (.pointer (some ⟨B, 0, none⟩)) (.pointer (some ⟨M, 0, none⟩)) (AgI k s o m) wr)) (fun _ i _ => n - (intOf i).toNat)
    case atStart => exact ⟨0, m0, [], none, Nat.zero_le _, rfl, rfl, by decide, fun _ h => absurd rfl h, HM2⟩
    case round =>
      obtain ⟨k, m, s, o, hk, rfl, rfl, hat, hpv, HM⟩ := hrel
      by_cases hlt : k < n
      · have hkl : k < l.length := by rw [HNL.out]; exact hlt
        obtain ⟨g, off, b, rfl, hbm, HBC⟩ := HSTR.out.at_ hkl
        -- the text itself
        have hkI : (k : Int) < (n : Int) := by omega
        have HT100 := Lib.hid (show k ≤ 100 by have := HB12.out; omega)
        have hc0 := HBC.out wr HM.out.below
        have hzb := HLS.out b hbm
        have HAT := Lib.hid hat
        have hlb : txt b = txt l[k] := by
          obtain ⟨g', off', e', hg', hc'⟩ := HSTR.out k hkl
          injection e' with e'
          injection e' with e1 e2
          subst e1 e2
          have := (HBC.out w (Below.refl _ _)).symm.trans hc'
          injection this with this
          injection this with this
          rw [this]
        have HLB := Lib.hid (fun h : k < l.length => show txt b = txt (l[k]'h) from hlb)
        have HPV := Lib.hid hpv
        clear hbm hat hlb hpv hkl
        by_cases hsz : 200 < b.size
        · have z1 : (200 : Int) < (b.size : Int) := by omega
          have HBE := Lib.hid HM.out.below
          clear hsz hzb
          go_wp2_with fail
          refine (HH.out wr).mono ?_
          rintro e w2 ⟨rfl, hb2⟩
          have HE := Lib.hid (HBE.out.trans (hb2.mono HBE.out.size))
          clear hb2
          go_wp2
          go_ret
          exact ⟨rfl, HE.out⟩
        · have z1 : (b.size : Int) ≤ 200 := by omega
          have HZ := Lib.hid (show b.size ≤ 200 by omega)
          clear hsz hzb
          have HBU := Lib.hid (HM.out.busy_ false (fun x hx => by rw [hx.mi.2]; exact hx.mi.1.way))
          have HPU := Lib.hid (AgI.put HM.out b HZ.out HT100.out)
          clear HM
          go_wp2_with fail
          refine HBU.out.mono ?_
          rintro e w3 ⟨rfl, rfl⟩
          go_wp2_with fail
          refine HPU.out.mono ?_
          rintro e w3 ⟨rfl, hm3⟩
          have HM3 := Lib.hid hm3
          have HBW := Lib.hid (hm3.busy_ true (fun x hx => by rw [hx.1.2]; rfl))
          have HSY := Lib.hid (AgW.sync hm3 HAT.out)
          clear hm3 HBU HPU hc0
          go_wp2_with fail
          refine HBW.out.mono ?_
          rintro e w4 ⟨rfl, rfl⟩
          clear HM3
          go_wp2_with fail
          refine HSY.out.mono ?_
          rintro e w4 ⟨rfl, hm4⟩
          have HM4 := Lib.hid hm4
          have HBZ := Lib.hid (hm4.busy_ false (fun x hx => by rw [hx.mi.2]))
          have HVE := Lib.hid (show Calls Try.prog 21 #[.pointer (some ⟨M, 0, none⟩)] w4 fun e w' => e = .returned (.int .u64 ((k : Int) + 1)) ∧ w4 = w' from by
            have := hm4.version_ (k + 1) (fun x hx => by rw [hx.mi.2])
            rw [show ((k + 1 : Nat) : Int) = (k : Int) + 1 by omega] at this
            exact this)
          have HO := Lib.hid (hm4.again (fun x hx => hx.mi) (by decide))
          clear hm4 HBW HSY
          go_wp2_with fail
          refine HBZ.out.mono ?_
          rintro e w5 ⟨rfl, rfl⟩
          have hle : ¬ (k : Int) + 1 ≤ (k : Int) := by omega
          go_wp2_with fail
          refine HVE.out.mono ?_
          rintro e w5 ⟨rfl, rfl⟩
          go_wp2_with fail
          refine HVE.out.mono ?_
          rintro e w5 ⟨rfl, rfl⟩
          go_wp2_with fail
          refine HO.out.mono ?_
          rintro e w5 ⟨N2, rfl, hn5, hm5⟩
          obtain ⟨w6, hw6⟩ : ∃ w6, w5.drew = w6 := ⟨_, rfl⟩
          have HN6 := Lib.hid (show MsP w (.pointer (some ⟨B, 0, none⟩)) (.pointer (some ⟨N2, 0, none⟩)) (MI 2 4 ⟨1 - m.at_, k + 1, txt b, false, []⟩ (k + 1)) w6 from hw6 ▸ hn5.keeps (Below.refl _ _).drew)
          have HM6 := Lib.hid (show MsP w (.pointer (some ⟨B, 0, none⟩)) (.pointer (some ⟨M, 0, none⟩)) (AgI (k + 1) (txt b) (if k = 0 then none else some s) ⟨1 - m.at_, k + 1, txt b, false, []⟩) w6 from hw6 ▸ hm5.keeps (Below.refl _ _).drew)
          have HND := Lib.hid (show Calls Try.prog 20 #[.pointer (some ⟨N2, 0, none⟩)] w6 fun e w' => e = .returned (.string b) ∧ w6 = w' from by
            have := HN6.out.data_ (txt b) (fun x hx => by rw [hx.2])
            rw [tb_of] at this
            exact this)
          have HNV := Lib.hid (show Calls Try.prog 21 #[.pointer (some ⟨N2, 0, none⟩)] w6 fun e w' => e = .returned (.int .u64 ((k : Int) + 1)) ∧ w6 = w' from by
            have := HN6.out.version_ (k + 1) (fun x hx => by rw [hx.2])
            rw [show ((k + 1 : Nat) : Int) = (k : Int) + 1 by omega] at this
            exact this)
          have hHeld := HBC.out w6 HM6.out.below
          clear hn5 hm5 HBZ HVE HO HM4 HN6 hle
          go_wp2_with fail
          refine wp_region_noPanic ?_
          refine wp_region_sch (fun wx => wx.cell? ⟨g, off + k, none⟩ = some (.string b)) (fun i => [8, 17].contains i)
            (.takes [0, 1, 2, 3, 4, 5, 6, 7, 9, 10, 11, 12] (.run 8 (.takes [13, 14, 15, 16, 18] (.run 17 (.takes [19, 20] .done))))) (by kernel_rfl) (fun _ _ _ _ _ h => h) (by kernel_rfl) ?_
          rw [hw6]
          clear hw6
          iterate 12 (
            refine sch_takes_cons ?_
            first
              | (refine sch_take (v := ?_) rfl (by assumption) (by rfl) ?_ ?_; rotate_left; (focus (intro wy hSy; (try dsimp only at hSy); go_simp; (try with_reducible rfl))))
              | (refine sch_pass rfl (by assumption) (by rfl) ?_)
            simp only [Act.put, List.setIfInBounds_toArray, List.set_cons_zero, List.set_cons_succ])
          refine sch_takes_nil ?_
          refine sch_run rfl (fun K hK => ?_)
          go_simp
          with_reducible refine HND.out.mono ?_
          rintro e w7 ⟨rfl, rfl⟩
          refine hK.out _ _ (fun _ => hHeld) ?_
          clear hK K
          try simp only [Act.put, List.setIfInBounds_toArray, List.set_cons_zero, List.set_cons_succ]
          iterate 5 (
            refine sch_takes_cons ?_
            first
              | (refine sch_take (v := ?_) rfl (by assumption) (by rfl) ?_ ?_; rotate_left; (focus (intro wy hSy; (try dsimp only at hSy); go_simp; (try with_reducible rfl))))
              | (refine sch_pass rfl (by assumption) (by rfl) ?_)
            simp only [Act.put, List.setIfInBounds_toArray, List.set_cons_zero, List.set_cons_succ])
          refine sch_takes_nil ?_
          refine sch_run rfl (fun K hK => ?_)
          go_simp
          with_reducible refine HNV.out.mono ?_
          rintro e w7 ⟨rfl, rfl⟩
          refine hK.out _ _ (fun _ => hHeld) ?_
          clear hK K
          try simp only [Act.put, List.setIfInBounds_toArray, List.set_cons_zero, List.set_cons_succ]
          iterate 2 (
            refine sch_takes_cons ?_
            first
              | (refine sch_take (v := ?_) rfl (by assumption) (by rfl) ?_ ?_; rotate_left; (focus (intro wy hSy; (try dsimp only at hSy); go_simp; (try with_reducible rfl))))
              | (refine sch_pass rfl (by assumption) (by rfl) ?_)
            simp only [Act.put, List.setIfInBounds_toArray, List.set_cons_zero, List.set_cons_succ])
          refine sch_takes_nil ?_
          refine sch_done ?_
          refine NoPanic.normal ?_
          clear hHeld HND HNV
          rcases (show k = 0 ∨ ∃ j, k = j + 1 from by
            cases k with
            | zero => exact .inl rfl
            | succ j => exact .inr ⟨j, rfl⟩) with rfl | ⟨j, rfl⟩
          · go_wp2_with fail
            go_roundw
            case rel => exact ⟨0 + 1, ⟨1 - m.at_, 0 + 1, txt b, false, []⟩, txt b, _, by omega, by go_num, by go_num, by show 1 - m.at_ ≤ 1; omega, fun h _ => HLB.out h, HM6⟩
            case measure => simp [intOf]; omega
          · have hjl : j < l.length := by rw [HNL.out]; omega
            obtain ⟨g', off', hA', hg', hc'⟩ := HSTR.out j hjl
            injection hA' with hA'
            injection hA' with hA1 hA2
            subst hA1 hA2
            have hs := HPV.out (by rw [HNL.out]; omega) (by omega)
            obtain ⟨b2, hb2⟩ : ∃ b2, l[j] = b2 := ⟨_, rfl⟩
            rw [hb2] at hc'
            have hs2 : s = txt b2 := by rw [← hb2]; exact hs
            subst hs2
            have HM6' := Lib.hid (show MsP w (.pointer (some ⟨B, 0, none⟩)) (.pointer (some ⟨M, 0, none⟩)) (AgI (j + 1 + 1) (txt b) (some (txt b2)) ⟨1 - m.at_, j + 1 + 1, txt b, false, []⟩) w6 from by
              have := HM6.out
              rw [if_neg (by omega)] at this
              exact this)
            have HC2 := Lib.hid (show ∀ wx, Below w.heap.size w wx → wx.cell? ⟨g, off + j, none⟩ = some (.string b2) from fun wx hb => (hb.cell (p := ⟨g, off + j, none⟩) hg').trans hc')
            obtain ⟨X0, X1, v0, v1, s0, s1, u0, u1, hor, l0, l1, HR0, HR1⟩ := ag_reads HM6'.out (by omega)
            have HU0 := Lib.hid (fun wx => unpack_any X0 wx l0)
            have HU1 := Lib.hid (fun wx => unpack_any X1 wx l1)
            rw [unpV_some u0] at HU0
            rw [unpV_some u1] at HU1
            clear hc' hg' hb2 hs hjl u0 u1 l0 l1 HM6
            rcases hor with ⟨rfl, rfl⟩ | ⟨rfl, rfl⟩
            · rw [tb_of] at HU0 HU1
              go_wp2_with fail
              refine (HR0.out w6 (Below.refl _ _)).mono ?_
              rintro e w7 ⟨rfl, hb7⟩
              have HB7 := Lib.hid hb7
              clear hb7
              go_wp2_with fail
              refine (HR1.out w7 HB7.out).mono ?_
              rintro e w8 ⟨rfl, hb8⟩
              have HB8 := Lib.hid (HB7.out.trans (hb8.mono HB7.out.size))
              clear hb8
              go_wp2_with fail
              refine (HU0.out w8).mono ?_
              rintro e w9 ⟨rfl, hb9⟩
              have HB9 := Lib.hid (HB8.out.trans (hb9.mono HB8.out.size))
              clear hb9
              go_wp2_with fail
              refine (HU1.out w9).mono ?_
              rintro e wa ⟨rfl, hba⟩
              have HBA := Lib.hid (HB9.out.trans (hba.mono HB9.out.size))
              have HMA := Lib.hid (HM6'.out.keeps HBA.out)
              clear hba HU0 HU1 HR0 HR1 HB7 HB8 HB9
              have d0 := HBC.out wa HMA.out.below
              have d1 := HC2.out wa HMA.out.below
              have dI : (j : Int) < 9223372036854775807 := by have := HT100.out; omega
              go_wp2_with fail
              go_roundw
              case rel => exact ⟨(j + 1) + 1, ⟨1 - m.at_, (j + 1) + 1, txt b, false, []⟩, txt b, _, by omega, by go_num, by go_num, by show 1 - m.at_ ≤ 1; omega, fun h _ => HLB.out h, HMA⟩
              case measure => simp [intOf]; omega
            · rw [tb_of] at HU0 HU1
              go_wp2_with fail
              refine (HR0.out w6 (Below.refl _ _)).mono ?_
              rintro e w7 ⟨rfl, hb7⟩
              have HB7 := Lib.hid hb7
              clear hb7
              go_wp2_with fail
              refine (HR1.out w7 HB7.out).mono ?_
              rintro e w8 ⟨rfl, hb8⟩
              have HB8 := Lib.hid (HB7.out.trans (hb8.mono HB7.out.size))
              clear hb8
              go_wp2_with fail
              refine (HU0.out w8).mono ?_
              rintro e w9 ⟨rfl, hb9⟩
              have HB9 := Lib.hid (HB8.out.trans (hb9.mono HB8.out.size))
              clear hb9
              go_wp2_with fail
              refine (HU1.out w9).mono ?_
              rintro e wa ⟨rfl, hba⟩
              have HBA := Lib.hid (HB9.out.trans (hba.mono HB9.out.size))
              have HMA := Lib.hid (HM6'.out.keeps HBA.out)
              clear hba HU0 HU1 HR0 HR1 HB7 HB8 HB9
              have d0 := HBC.out wa HMA.out.below
              have d1 := HC2.out wa HMA.out.below
              have dI : (j : Int) < 9223372036854775807 := by have := HT100.out; omega
              by_cases hbb : b = b2
              · subst hbb
                go_wp2_with fail
                go_roundw
                case rel => exact ⟨(j + 1) + 1, ⟨1 - m.at_, (j + 1) + 1, txt b, false, []⟩, txt b, _, by omega, by go_num, by go_num, by show 1 - m.at_ ≤ 1; omega, fun h _ => HLB.out h, HMA⟩
                case measure => simp [intOf]; omega
              · have hne : (b2.toList == b.toList) = false := by
                  rw [beq_eq_false_iff_ne, ByteArray.toList_eq, ByteArray.toList_eq]
                  exact fun e => hbb (txt_inj e).symm
                clear hbb
                go_wp2_with fail
                go_roundw
                case rel => exact ⟨(j + 1) + 1, ⟨1 - m.at_, (j + 1) + 1, txt b, false, []⟩, txt b, _, by omega, by go_num, by go_num, by show 1 - m.at_ ≤ 1; omega, fun h _ => HLB.out h, HMA⟩
                case measure => simp [intOf]; omega
      · obtain rfl : k = n := by omega
        have HBE := Lib.hid HM.out.below
        clear HM
        go_wp2_with fail
        refine (HH.out wr).mono ?_
        rintro e w2 ⟨rfl, hb2⟩
        have HE := Lib.hid (HBE.out.trans (hb2.mono HBE.out.size))
        clear hb2
        go_wp2
        go_ret
        exact ⟨rfl, HE.out⟩
end Go.Proofs.Ytnmfgmlmjbfdcaa
