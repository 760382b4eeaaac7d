/-
  The landed master and the document's, side by side, over the two devices: each call on both.
-/
import Derived.Test.YtnmfgmlmjbfdcaaMasNotB
import Derived.Test.YtnmfgmlmjbfdcaaMasStage
namespace Go.Proofs.Ytnmfgmlmjbfdcaa
open Go.RowKit

section
variable {d : DV} {x : RV} {w : World}
theorem rel_top (h : RelD d x.R) (h2 : 2 ≤ d.nb) : x.top = d.top := by
  unfold RV.top DV.top
  rw [show x.bl 0 = d.bl 0 from h.vis 0 (by omega), show x.bl 1 = d.bl 1 from h.vis 1 (by omega)]
theorem rel_fit (h : RelD d x.R) (hi : d.In w) (h2 : 2 ≤ d.nb) (hn : d.pend.length ≤ 1000000) : x.Fit := by
  refine ⟨by rw [h.nb]; exact h2, fun b hb => ?_, ?_⟩
  · rw [show x.bl b = d.bl b from h.vis b (by omega), bl_length hi (by omega)]
    have := hi.ns2
    omega
  · rw [h.opens]
    unfold opensOf
    rw [List.length_map]
    exact hn
end

/-- At p and a lie the landed device and master, at B and A the document's; all have come since W and are the same. -/
def Duo (W : World) (p : Value) (B : Nat) (a : Value) (A nb ns : Nat) (m : MS) (n : Nat) (w : World) : Prop :=
  ∃ (x : MV) (y : NV), x.d.ptr = p ∧ y.x.B = B ∧ x.ptr = a ∧ y.A = A ∧ x.d.nb = nb ∧ x.d.ns = ns ∧ x.m = m ∧ y.m = m ∧ x.In w ∧ y.In w ∧ RelD x.d y.x.R ∧ Below W.heap.size W w ∧ (∀ k, x.mine k → W.heap.size ≤ k) ∧ (∀ k, y.mine k → W.heap.size ≤ k) ∧ x.d.pend.length ≤ n

section
variable {x : MV} {y : NV} {w w' : World}
theorem duo_apart (hx : x.In w) (hy : y.In w) : ∀ k, y.mine k → ¬ x.mine k := by
  rintro k (rfl | hk) (e | hk2)
  · have h1 := hy.row
    rw [e] at h1
    have := h1.symm.trans hx.row
    simp at this
  · exact hx.dev.notMine hy.row (by decide) (by decide) (by decide) hk2
  · exact hy.dev.notMine hx.row (by decide) (by decide) (by decide) (e ▸ hk)
  · exact apart hx.dev hy.dev k hk hk2
theorem duo_noStr (hx : x.In w) : NoStr x.mine w := fun k cs m hr hF => by
  rcases hF with rfl | hF
  · have := hr.symm.trans hx.row
    simp at this
  · exact hx.dev.notMine hr (by decide) (by decide) (by decide) hF
theorem duo_ref (hx : x.In w) (hy : y.In w) (ho : Only x.mine w w') : y.In w' := hy.only ho (duo_apart hx hy) (duo_noStr hx)
theorem duo_code (hx : x.In w) (hy : y.In w) (ho : Only y.mine w w') : x.In w' := hx.only ho fun k hk hk2 => duo_apart hx hy k hk2 hk
theorem duo_stay (hx : x.In w) (ho : Only x.mine w w') : Stay w w' := fun X cs hr => hr.only ho fun hF => by
  rcases hF with e | hF
  · rw [e] at hr
    have := hr.symm.trans hx.row
    simp at this
  · exact hx.dev.notMine hr (by decide) (by decide) (by decide) hF
theorem duo_stay' (hy : y.In w) (ho : Only y.mine w w') : Stay w w' := fun X cs hr => hr.only ho fun hF => by
  rcases hF with e | hF
  · rw [e] at hr
    have := hr.symm.trans hy.row
    simp at this
  · exact hy.dev.notMine hr (by decide) (by decide) (by decide) hF
end

section
variable {W w w' : World} {p a : Value} {B A nb ns n : Nat} {m : MS}
theorem Duo.since (h : Duo W p B a A nb ns m n w) : Below W.heap.size W w := by obtain ⟨_, _, _, _, _, _, _, _, _, _, _, _, _, h, _⟩ := h; exact h
theorem Duo.keeps (h : Duo W p B a A nb ns m n w) (hb : Below w.heap.size w w') : Duo W p B a A nb ns m n w' := by
  obtain ⟨x, y, h1, h2, h3, h4, h5, h6, h7, h8, h9, h10, h11, h12, h13⟩ := h
  exact ⟨x, y, h1, h2, h3, h4, h5, h6, h7, h8, h9.keeps hb, h10.keeps hb, h11, h12.trans (hb.mono h12.size), h13⟩
theorem Duo.drewN (h : Duo W p B a A nb ns m n w) (k : Nat) : Duo W p B a A nb ns m n (w.drewN k) := h.keeps ⟨rfl, rfl, rfl, Nat.le_refl _, fun _ _ => rfl⟩
theorem Duo.more (h : Duo W p B a A nb ns m n w) {k : Nat} (hn : n ≤ k) : Duo W p B a A nb ns m k w := by
  obtain ⟨x, y, h1, h2, h3, h4, h5, h6, h7, h8, h9, h10, h11, h12, h13, h14, h15⟩ := h
  exact ⟨x, y, h1, h2, h3, h4, h5, h6, h7, h8, h9, h10, h11, h12, h13, h14, by omega⟩
theorem Duo.two (h : Duo W p B a A nb ns m n w) : Two W p B nb ns n w := by
  obtain ⟨x, y, h1, h2, h3, h4, h5, h6, h7, h8, h9, h10, h11, h12, h13, h14, h15⟩ := h
  exact ⟨x.d, y.x, h1, h2, h5, h6, h9.dev, h10.dev, h11, h12, fun k hk => h13 k (.inr hk), fun k hk => h14 k (.inr hk), h15⟩
theorem Duo.lit (h : Duo W p B a A nb ns m n w) : ∃ Aa, a = .pointer (some ⟨Aa, 0, none⟩) := by
  obtain ⟨x, y, h1, h2, h3, _⟩ := h
  exact ⟨x.A, h3.symm⟩
/-- What the master tells, and the document's fields. -/
theorem Duo.tells (h : Duo W p B a A nb ns m n w) : Calls Try.prog 20 #[a] w (fun e w' => e = .returned (.string (tb m.s)) ∧ w = w') ∧ Calls Try.prog 21 #[a] w (fun e w' => e = .returned (.int .u64 (m.v : Int)) ∧ w = w') ∧
    Calls Try.prog 22 #[a] w (fun e w' => e = .returned (.bool m.way) ∧ w = w') ∧ w.cell? ⟨A, 2, none⟩ = some (.string (tb m.s)) ∧ w.cell? ⟨A, 3, none⟩ = some (.int .u64 (m.v : Int)) ∧ w.cell? ⟨A, 4, none⟩ = some (.bool m.way) := by
  obtain ⟨x, y, h1, h2, rfl, rfl, h5, h6, rfl, h8, h9, h10, _⟩ := h
  refine ⟨mdata_any h9, mversion_any h9, mbusy_any h9, ?_, ?_, ?_⟩
  · rw [h10.c2, h8]
  · rw [h10.c3, h8]
  · rw [h10.c4, h8]

/-- Both synced. -/
theorem Duo.sync (h : Duo W p B a A nb ns m n w) (hn : n ≤ 1000000) : ∃ E : Int, Calls Try.prog 24 #[a] w fun e w1 => e = .returned (.int .i64 E) ∧ Hid (Calls Try.prog 25 #[.pointer (some ⟨A, 0, none⟩)] w1 fun e w2 => e = .returned (.int .i64 E) ∧ ∃ m', Duo W p B a A nb ns m' n w2) := by
  have hh := h
  obtain ⟨x, y, rfl, rfl, rfl, rfl, rfl, rfl, rfl, h8, h9, h10, h11, h12, h13, h14, h15⟩ := h
  by_cases hw : x.m.way = true
  · refine ⟨0, (msync_way h9 hw).mono ?_⟩
    rintro e w1 ⟨he, hi1, ho1⟩
    refine ⟨he, Lib.hid ?_⟩
    have hy1 := duo_ref h9 h10 ho1
    have hfit := rel_fit h11 h9.dev h9.two (by omega)
    refine (nsync_way hy1 hfit (by rw [h8]; exact hw)).mono ?_
    rintro e2 w2 ⟨he2, x', hB, hR, hi2, ho2, hm2⟩
    refine ⟨he2, x.m.sync x.d.top, x.syncV, NV.mk y.A x' (y.m.sync y.x.top) y.nx, rfl, hB, rfl, rfl, rfl, rfl, rfl, ?_, ?_, hi2, ?_, ?_, ?_, ?_, Nat.zero_le _⟩
    · show y.m.sync y.x.top = _
      rw [h8, rel_top h11 h9.two]
    · exact duo_code hi1 hy1 ho2
    · show RelD x.d.synced x'.R
      rw [hR]
      exact h11.synced
    · exact below_of (below_of h12 ho1 h13) ho2 h14
    · rintro k (hk | hk)
      · exact h13 k (.inl hk)
      · exact h13 k (.inr (synced_mine hk))
    · rintro k (hk | hk)
      · exact h14 k (.inl hk)
      · rcases hm2 k hk with e | e
        · exact h14 k (.inr e)
        · exact Nat.le_trans (below_of h12 ho1 h13).size e
  · have hw' : x.m.way = false := by simpa using hw
    refine ⟨9, (msync_no h9 hw').mono ?_⟩
    rintro e w1 ⟨he, rfl⟩
    refine ⟨he, Lib.hid ((nsync_no h10 (by rw [h8]; exact hw')).mono ?_)⟩
    rintro e2 w2 ⟨he2, rfl⟩
    exact ⟨he2, _, hh⟩

/-- Both asked to put. -/
theorem Duo.put (h : Duo W p B a A nb ns m n w) (hn : n ≤ 1000000) (s : List UInt8) (hs : s.length ≤ 1000000) : ∃ E : Int, Calls Try.prog 30 #[a, .string (tb s)] w fun e w1 => e = .returned (.int .i64 E) ∧ Stay w w1 ∧ Hid (Calls Try.prog 31 #[.pointer (some ⟨A, 0, none⟩), .string (tb s)] w1 fun e w2 => e = .returned (.int .i64 E) ∧ Stay w1 w2 ∧ Hid (∃ m', Duo W p B a A nb ns m' (n + 1) w2)) := by
  have hh := h
  obtain ⟨x, y, rfl, rfl, rfl, rfl, rfl, rfl, rfl, h8, h9, h10, h11, h12, h13, h14, h15⟩ := h
  have hfit := rel_fit h11 h9.dev h9.two (by omega)
  have hE : y.putE s = x.d.putE x.m s := by unfold NV.putE DV.putE; rw [h8, rel_top h11 h9.two, h11.ns]
  have hput : ∀ wx, y.In wx → Calls Try.prog 31 #[y.ptr, .string (tb s)] wx (NPutP y s wx) := fun wx hy => by
    by_cases hw : y.m.way = true
    · exact nput_state hy s hw
    · have hw' : y.m.way = false := by simpa using hw
      by_cases hl : y.x.R.ns * 56 < s.length + 4
      · exact nput_long hy s hw' hl hs
      · by_cases ht : 9223372036854775808 ≤ y.x.top
        · exact nput_full hy hfit s hw' (by omega) ht
        · exact nput_good hy hfit s hw' (by omega) (by omega)
  refine ⟨(x.d.putE x.m s : Nat), (mput_any h9 s (by omega) (by omega)).mono ?_⟩
  rintro e w1 ⟨he, hc⟩
  rcases hc with ⟨h0, hb⟩ | ⟨h0, q, hi1, ho1, hq⟩
  · refine ⟨he, Stay.below hb, Lib.hid ((hput w1 (h10.keeps hb)).mono ?_)⟩
    rintro e2 w2 ⟨he2, hc2⟩
    rw [hE] at he2 hc2
    rcases hc2 with ⟨_, hb2⟩ | ⟨h02, _⟩
    · exact ⟨he2, Stay.below hb2, Lib.hid ⟨_, ((hh.keeps hb).keeps hb2).more (by omega)⟩⟩
    · exact (h0 h02).elim
  · have hy1 := duo_ref h9 h10 ho1
    refine ⟨he, duo_stay h9 ho1, Lib.hid ((hput w1 hy1).mono ?_)⟩
    rintro e2 w2 ⟨he2, hc2⟩
    rw [hE] at he2 hc2
    rcases hc2 with ⟨h02, _⟩ | ⟨_, x', hB, hR, hi2, ho2, hm2⟩
    · exact (h02 h0).elim
    refine ⟨he2, duo_stay' hy1 ho2, Lib.hid ⟨x.m.put s, x.putV s q, NV.mk y.A x' (y.m.put s) s, rfl, hB, rfl, rfl, rfl, rfl, rfl, ?_, ?_, hi2, ?_, ?_, ?_, ?_, ?_⟩⟩
    · show y.m.put s = _
      rw [h8]
    · exact duo_code hi1 hy1 ho2
    · show RelD (x.d.wrote (1 - x.m.at_) (tb (x.d.putB s)) q) x'.R
      rw [hR, h8, rel_top h11 h9.two, h11.ns]
      exact h11.wrote h9.dev (1 - x.m.at_) (tb (x.d.putB s)) q (by have := h9.two; omega)
    · exact below_of (below_of h12 ho1 h13) ho2 h14
    · rintro k (hk | hk)
      · exact h13 k (.inl hk)
      · rcases hk with e | e | e | e
        · exact h13 k (.inr (.inl e))
        · exact h13 k (.inr (.inr (.inl e)))
        · exact h13 k (.inr (.inr (.inr (.inl e))))
        · rcases hq k e with e | e
          · exact h13 k (.inr (.inr (.inr (.inr e))))
          · exact Nat.le_trans h12.size e
    · rintro k (hk | hk)
      · exact h14 k (.inl hk)
      · rcases hm2 k hk with e | e
        · exact h14 k (.inr e)
        · exact Nat.le_trans (below_of h12 ho1 h13).size e
    · show (x.d.pend ++ [(1 - x.m.at_, tb (x.d.putB s))]).length ≤ n + 1
      simp
      omega

/-- Both opened. -/
theorem Two.opens (h : Two W p B nb ns n w) (hn : n ≤ 1000000) (h2 : 2 ≤ nb) : Calls Try.prog 18 #[p] w fun e w1 => ∃ Aa, e = .returned (.tuple #[.pointer (some ⟨Aa, 0, none⟩), .int .i64 0]) ∧
    Hid (Calls Try.prog 19 #[.pointer (some ⟨B, 0, none⟩)] w1 fun e w2 => ∃ A m, e = .returned (.tuple #[.pointer (some ⟨A, 0, none⟩), .int .i64 0]) ∧ Duo W p B (.pointer (some ⟨Aa, 0, none⟩)) A nb ns m n w2) := by
  obtain ⟨d, x, rfl, rfl, rfl, rfl, h5, h6, h7, h8, h9, h10, h11⟩ := h
  refine (mopen_any d w h5 h2).mono ?_
  rintro e w1 ⟨Aa, he, hi, hb, hA⟩
  refine ⟨Aa, he, Lib.hid ((nopen_any (h6.keeps hb) (rel_fit h7 h5 h2 (by omega))).mono ?_)⟩
  rintro e2 w2 ⟨he2, hi2, hb2⟩
  have hb1 := h8.trans (hb.mono h8.size)
  refine ⟨w1.heap.size, d.opened, he2, ⟨Aa, d, d.opened, 0⟩, ⟨w1.heap.size, x, MS.opened (x.bl 0) (x.bl 1), []⟩, rfl, rfl, rfl, rfl, rfl, rfl, rfl, ?_, hi.keeps hb2, hi2, h7, hb1.trans (hb2.mono hb1.size), ?_, ?_, h11⟩
  · show MS.opened (x.bl 0) (x.bl 1) = MS.opened (d.bl 0) (d.bl 1)
    rw [show x.bl 0 = d.bl 0 from h7.vis 0 (by omega), show x.bl 1 = d.bl 1 from h7.vis 1 (by omega)]
  · rintro k (rfl | hk)
    · exact Nat.le_trans h8.size hA
    · exact h9 k hk
  · rintro k (rfl | hk)
    · exact hb1.size
    · exact h10 k hk
theorem Two.opens_one (h : Two W p B nb ns n w) (h1 : nb = 1) : Calls Try.prog 18 #[p] w fun e w1 => e = .returned (.tuple #[.pointer none, .int .i64 2]) ∧
    Hid (Calls Try.prog 19 #[.pointer (some ⟨B, 0, none⟩)] w1 fun e w2 => e = .returned (.tuple #[.pointer none, .int .i64 2]) ∧ Two W p B nb ns n w2) := by
  have hh := h
  obtain ⟨d, x, rfl, rfl, rfl, rfl, h5, h6, h7, h8, h9, h10, h11⟩ := h
  refine (mopen_one d w h5 h1).mono ?_
  rintro e w1 ⟨he, hb⟩
  refine ⟨he, Lib.hid ((nopen_one (h6.keeps hb) (by rw [h7.nb]; exact h1)).mono ?_)⟩
  rintro e2 w2 ⟨he2, rfl⟩
  exact ⟨he2, hh.keeps hb⟩

/-- Both read. -/
theorem Duo.read (h : Duo W p B a A nb ns m n w) (hn : n ≤ 1000000) (b : Nat) (hb : b < nb) : ∃ s : ByteArray, Calls Try.prog 32 #[p, .int .i64 (b : Int)] w fun e w1 => e = .returned (.tuple #[.string s, .int .i64 0]) ∧ Hid (Calls Try.prog 33 #[.pointer (some ⟨B, 0, none⟩), .int .i64 (b : Int)] w1 fun e w2 => e = .returned (.tuple #[.string s, .int .i64 0]) ∧ Duo W p B a A nb ns m n w2) := by
  have hh := h
  obtain ⟨x, y, rfl, rfl, rfl, rfl, rfl, rfl, rfl, h8, h9, h10, h11, h12, h13, h14, h15⟩ := h
  have hlen : y.x.R.opens.length ≤ 1000000 := (rel_fit h11 h9.dev h9.two (by omega)).few
  have hc : chk x.d (b : Int) = 0 := if_pos ⟨by omega, by omega⟩
  have hr := read_any x.d w h9.dev (b : Int)
  rw [hc] at hr
  refine ⟨x.d.read (b : Int), hr.mono ?_⟩
  rintro e w1 ⟨he, k, rfl⟩
  refine ⟨he, Lib.hid ?_⟩
  rw [h11.read b hb]
  refine (rread_good y.x b (w.drewN k) (h10.dev.drewN k) (by rw [h11.nb]; exact hb) hlen).mono ?_
  rintro e2 w2 ⟨he2, rfl⟩
  exact ⟨he2, hh.drewN k⟩
end
end Go.Proofs.Ytnmfgmlmjbfdcaa
