/-
  The landed device and the document's, side by side: each call on both.
-/
import Derived.Test.YtnmfgmlmjbfdcaaBlkPCrash
namespace Go.Proofs.Ytnmfgmlmjbfdcaa
open Go.RowKit

def bptr (B : Nat) : Value := .pointer (some ⟨B, 0, none⟩)
/-- Rows of acts stay. -/
def Stay (w w' : World) : Prop := ∀ X cs, Row w X 56 cs (0, 0) → Row w' X 56 cs (0, 0)
theorem Stay.refl (w : World) : Stay w w := fun _ _ h => h
theorem Stay.trans {a b c : World} (h : Stay a b) (k : Stay b c) : Stay a c := fun X cs hr => k X cs (h X cs hr)
theorem Stay.below {w w' : World} (h : Below w.heap.size w w') : Stay w w' := fun _ _ hr => hr.below h hr.lt

/-- At p lies a device, at B the document's, both have come since W and are the same. -/
def Two (W : World) (p : Value) (B nb ns n : Nat) (w : World) : Prop :=
  ∃ (d : DV) (x : RV), d.ptr = p ∧ x.B = B ∧ d.nb = nb ∧ d.ns = ns ∧ d.In w ∧ x.In w ∧ RelD d x.R ∧ Below W.heap.size W w ∧ (∀ k, d.mine k → W.heap.size ≤ k) ∧ (∀ k, x.mine k → W.heap.size ≤ k) ∧ d.pend.length ≤ n

section
variable {d : DV} {x : RV} {w w' : World}
theorem mine_row (hx : x.In w) {k : Nat} (hk : x.mine k) : ∃ t cs, Row w k t cs (0, 0) ∧ 94 ≠ t ∧ 5 ≠ t ∧ t ≠ 107 ∧ t ≠ 9 := by
  rcases hk with rfl | hk | hk
  · exact ⟨_, _, hx.dev, by decide, by decide, by decide, by decide⟩
  · obtain ⟨cs, hr⟩ := RV.ownBlock_row hx.sown hk
    exact ⟨_, cs, hr, by decide, by decide, by decide, by decide⟩
  · obtain ⟨cs, hr⟩ := RV.ownBlock_row hx.oown hk
    exact ⟨_, cs, hr, by decide, by decide, by decide, by decide⟩
theorem apart (hd : d.In w) (hx : x.In w) : ∀ k, x.mine k → ¬ d.mine k := fun k hk => by
  obtain ⟨t, cs, hr, h1, h2, h3, _⟩ := mine_row hx hk
  exact hd.notMine hr h1 h2 h3
theorem ref_stays (hd : d.In w) (hx : x.In w) (ho : Only d.mine w w') : x.In w' :=
  hx.only ho (apart hd hx) fun _ _ _ hr => hd.notMine hr (by decide) (by decide) (by decide)
theorem dev_stays (hd : d.In w) (hx : x.In w) (ho : Only x.mine w w') : d.In w' := hd.only ho fun k hk hx2 => apart hd hx k hx2 hk
theorem act_stays (hd : d.In w) (ho : Only d.mine w w') : Stay w w' := fun _ _ hr => hr.only ho (hd.notMine hr (by decide) (by decide) (by decide))
theorem act_stays' (hx : x.In w) (ho : Only x.mine w w') : Stay w w' := fun _ _ hr => hr.only ho (hx.notMine hr (by decide) (by decide) (by decide))
end

section
variable {W w w' : World} {p : Value} {B nb ns n : Nat}
theorem Two.since (h : Two W p B nb ns n w) : Below W.heap.size W w := by obtain ⟨_, _, _, _, _, _, _, _, _, h, _⟩ := h; exact h
theorem Two.keeps (h : Two W p B nb ns n w) (hb : Below w.heap.size w w') : Two W p B nb ns n w' := by
  obtain ⟨d, x, h1, h2, h3, h4, h5, h6, h7, h8, h9⟩ := h
  exact ⟨d, x, h1, h2, h3, h4, h5.keeps hb, h6.keeps hb, h7, h8.trans (hb.mono h8.size), h9⟩
theorem Two.drewN (h : Two W p B nb ns n w) (k : Nat) : Two W p B nb ns n (w.drewN k) := h.keeps ⟨rfl, rfl, rfl, Nat.le_refl _, fun _ _ => rfl⟩
theorem Two.more (h : Two W p B nb ns n w) {m : Nat} (hm : n ≤ m) : Two W p B nb ns m w := by
  obtain ⟨d, x, h1, h2, h3, h4, h5, h6, h7, h8, h9, h10, h11⟩ := h
  exact ⟨d, x, h1, h2, h3, h4, h5, h6, h7, h8, h9, h10, by omega⟩
theorem below_of {w0 : World} {F : Nat → Prop} (hb : Below W.heap.size W w0) (ho : Only F w0 w') (hF : ∀ k, F k → W.heap.size ≤ k) : Below W.heap.size W w' :=
  hb.trans ⟨ho.os, ho.tape, ho.output, ho.size, fun k hk => ho.block k (Nat.lt_of_lt_of_le hk hb.size) (fun h => by have := hF k h; omega)⟩

/-- Both synced. -/
theorem Two.sync (h : Two W p B nb ns n w) (hn : n ≤ 1000000) : Calls Try.prog 47 #[p] w fun e w1 => e = .returned (.int .i64 0) ∧ Hid (Calls Try.prog 48 #[bptr B] w1 fun e w2 => e = .returned (.tuple #[]) ∧ Two W p B nb ns n w2) := by
  obtain ⟨d, x, rfl, rfl, rfl, rfl, h5, h6, h7, h8, h9, h10, h11⟩ := h
  refine (sync_any d w h5).mono ?_
  rintro e w1 ⟨he, k1, k2⟩
  have hx1 := ref_stays h5 h6 k2
  have hlen : x.R.opens.length ≤ 1000000 := by rw [h7.opens]; unfold opensOf; rw [List.length_map]; omega
  refine ⟨he, Lib.hid ((rsync_any x w1 hx1 hlen).mono ?_)⟩
  rintro e2 w2 ⟨x', e3, e4, e5, e6, e7, e8⟩
  have hb1 := below_of h8 k2 h9
  refine ⟨e3, d.synced, x', rfl, e4, rfl, rfl, dev_stays k1 hx1 e7, e6, ?_, below_of hb1 e7 h10, fun k hk => ?_, fun k hk => ?_, Nat.zero_le _⟩
  · rw [e5]; exact h7.synced
  · rcases hk with e | e | e | e
    · exact h9 k (.inl e)
    · exact h9 k (.inr (.inl e))
    · exact h9 k (.inr (.inr (.inl e)))
    · cases e
  · rcases e8 k hk with e | e
    · exact h10 k e
    · exact Nat.le_trans hb1.size e

/-- Both behind a power loss. -/
theorem Two.crash (h : Two W p B nb ns n w) (hn : n ≤ 1000000) {A : Option Addr} {m : Nat} {keep : List Nat} (hk : Old W A m keep) (c : Nat) : Calls Try.prog 26 #[p, .slice A m c] w fun e w1 => e = .returned (.tuple #[]) ∧ Stay w w1 ∧ Hid (Calls Try.prog 27 #[bptr B, .slice A m c] w1 fun e w2 => e = .returned (.tuple #[]) ∧ Two W p B nb ns n w2) := by
  obtain ⟨d, x, rfl, rfl, rfl, rfl, h5, h6, h7, h8, h9, h10, h11⟩ := h
  have hold : ∀ i (hi : i < keep.length), ∃ g off, A = some ⟨g, off, none⟩ ∧ g < W.heap.size ∧ W.cell? ⟨g, off + i, none⟩ = some (.int .u64 (keep[i] : Int)) := fun i hi => by
    obtain ⟨g, off, e, hc⟩ := hk.nums.at_ i hi
    exact ⟨g, off, e, hk.old (by have := hk.len; omega) g off e, hc⟩
  refine (crash_any d w h5 A m c keep hk.len ⟨fun i hi => ?_, hk.nums.lt⟩ (fun h0 g off e hm => ?_) hk.big).mono ?_
  · obtain ⟨g, off, e, hg, hc⟩ := hold i hi
    exact ⟨g, off, e, (h8.cell (p := ⟨g, off + i, none⟩) hg).trans hc⟩
  · have := hk.old h0 g off e
    have := h9 g hm
    omega
  rintro e w1 ⟨he, k1, k2⟩
  have hx1 := ref_stays h5 h6 k2
  have hb1 := below_of h8 k2 h9
  have hlen : x.R.opens.length ≤ 1000000 := by rw [h7.opens]; unfold opensOf; rw [List.length_map]; omega
  refine ⟨he, act_stays h5 k2, Lib.hid ((rcrash_any x w1 A m c keep hx1 hlen hk.len hk.big ⟨fun i hi => ?_, hk.nums.lt⟩).mono ?_)⟩
  · obtain ⟨g, off, e, hg, hc⟩ := hold i hi
    exact ⟨g, off, e, fun wr ho => ((below_of hb1 ho h10).cell (p := ⟨g, off + i, none⟩) hg).trans hc⟩
  rintro e2 w2 ⟨x', e3, e4, e5, e6, e7, e8⟩
  refine ⟨e3, d.crashed keep, x', rfl, e4, rfl, rfl, dev_stays k1 hx1 e7, e6, ?_, below_of hb1 e7 h10, fun k hk => ?_, fun k hk => ?_, Nat.zero_le _⟩
  · rw [e5]; exact h7.crashed h5 keep
  · rcases hk with e | e | e | e
    · exact h9 k (.inl e)
    · exact h9 k (.inr (.inl e))
    · exact h9 k (.inr (.inr (.inl e)))
    · cases e
  · rcases e8 k hk with e | e
    · exact h10 k e
    · exact Nat.le_trans hb1.size e

/-- What a write answers. -/
def wans (nb ns : Nat) (b : Int) (s : ByteArray) : Int := if 0 ≤ b ∧ b < nb then (if s.size ≤ ns * 64 then 0 else 3) else 2
/-- Both written. -/
theorem Two.write (h : Two W p B nb ns n w) (hn : n ≤ 1000000) (b : Int) (s : ByteArray) (hs : s.size ≤ 9223372036854775807) : Calls Try.prog 28 #[p, .int .i64 b, .string s] w fun e w1 => e = .returned (.int .i64 (wans nb ns b s)) ∧ Stay w w1 ∧ Hid (Below W.heap.size W w1) ∧ Hid (∀ w1', Below w1.heap.size w1 w1' → Calls Try.prog 29 #[bptr B, .int .i64 b, .string s] w1' fun e w2 => e = .returned (.int .i64 (wans nb ns b s)) ∧ Stay w1' w2 ∧ Hid (Two W p B nb ns (n + 1) w2)) := by
  have hh := h
  obtain ⟨d, x, rfl, rfl, rfl, rfl, h5, h6, h7, h8, h9, h10, h11⟩ := h
  have hlen : x.R.opens.length ≤ 1000000 := by rw [h7.opens]; unfold opensOf; rw [List.length_map]; omega
  have hns := h7.ns
  have hnb := h7.nb
  by_cases hb : 0 ≤ b ∧ b < d.nb
  · obtain ⟨k, rfl⟩ : ∃ k : Nat, b = k := ⟨b.toNat, by omega⟩
    have hk : k < d.nb := by omega
    by_cases hsz : s.size ≤ d.ns * 64
    · rw [show wans d.nb d.ns k s = 0 by unfold wans; rw [if_pos hb, if_pos hsz]]
      refine (write_good d k s w h5 hk hsz (by omega)).mono ?_
      rintro e w1 ⟨p1, he, k1, k2, k3⟩
      have hx1 := ref_stays h5 h6 k2
      have hb1 := below_of h8 k2 h9
      refine ⟨he, act_stays h5 k2, Lib.hid hb1, Lib.hid fun w1' hw1 => ?_⟩
      have hx1' := hx1.keeps hw1
      refine (rwrite_good x k s w1' hx1' (by rw [hnb]; exact hk) (by rw [hns]; exact hsz) hlen).mono ?_
      rintro e2 w2 ⟨x', e3, e4, e5, e6, e7, e8⟩
      have hb2 := hb1.trans (hw1.mono hb1.size)
      refine ⟨e3, act_stays' hx1' e7, Lib.hid ⟨d.wrote k s p1, x', rfl, e4, rfl, rfl, dev_stays (k1.keeps hw1) hx1' e7, e6, ?_, below_of hb2 e7 h10, fun j hj => ?_, fun j hj => ?_, ?_⟩⟩
      · rw [e5, hns]; exact h7.wrote h5 k s p1 hk
      · rcases hj with e | e | e | e
        · exact h9 j (.inl e)
        · exact h9 j (.inr (.inl e))
        · exact h9 j (.inr (.inr (.inl e)))
        · rcases k3 j e with e | e
          · exact h9 j (.inr (.inr (.inr e)))
          · exact Nat.le_trans h8.size e
      · rcases e8 j hj with e | e
        · exact h10 j e
        · exact Nat.le_trans hb2.size e
      · show (d.pend ++ [(k, s)]).length ≤ n + 1; simp; omega
    · rw [show wans d.nb d.ns k s = 3 by unfold wans; rw [if_pos hb, if_neg hsz]]
      refine (write_long d k s w h5 hk (by show d.ns * 64 < _; omega)).mono ?_
      rintro e w1 ⟨he, rfl⟩
      refine ⟨he, Stay.refl _, Lib.hid h8, Lib.hid fun w1' hw1 => ?_⟩
      refine (rwrite_long x k s w1' (h6.keeps hw1) (by rw [hnb]; exact hk) (by rw [hns]; omega) hs).mono ?_
      rintro e2 w2 ⟨he2, rfl⟩
      exact ⟨he2, Stay.refl _, Lib.hid ((hh.keeps hw1).more (by omega))⟩
  · rw [show wans d.nb d.ns b s = 2 by unfold wans; rw [if_neg hb]]
    refine (write_bad d b s w h5 hb).mono ?_
    rintro e w1 ⟨he, rfl⟩
    refine ⟨he, Stay.refl _, Lib.hid h8, Lib.hid fun w1' hw1 => ?_⟩
    refine (rwrite_bad x b s w1' (h6.keeps hw1) (by rw [hnb]; exact hb)).mono ?_
    rintro e2 w2 ⟨he2, rfl⟩
    exact ⟨he2, Stay.refl _, Lib.hid ((hh.keeps hw1).more (by omega))⟩

/-- Both read. -/
theorem Two.read (h : Two W p B nb ns n w) (hn : n ≤ 1000000) (b : Int) : ∃ (s : ByteArray) (a : Int), Calls Try.prog 32 #[p, .int .i64 b] w fun e w1 => e = .returned (.tuple #[.string s, .int .i64 a]) ∧ Hid (Calls Try.prog 33 #[bptr B, .int .i64 b] w1 fun e w2 => e = .returned (.tuple #[.string s, .int .i64 a]) ∧ Two W p B nb ns n w2) := by
  have hh := h
  obtain ⟨d, x, rfl, rfl, rfl, rfl, h5, h6, h7, h8, h9, h10, h11⟩ := h
  have hlen : x.R.opens.length ≤ 1000000 := by rw [h7.opens]; unfold opensOf; rw [List.length_map]; omega
  refine ⟨d.read b, chk d b, (read_any d w h5 b).mono ?_⟩
  rintro e w1 ⟨he, k, rfl⟩
  refine ⟨he, Lib.hid ?_⟩
  by_cases hb : 0 ≤ b ∧ b < d.nb
  · obtain ⟨j, rfl⟩ : ∃ j : Nat, b = j := ⟨b.toNat, by omega⟩
    have hj : j < d.nb := by omega
    rw [h7.read j hj, show chk d j = 0 from if_pos hb]
    refine (rread_good x j (w.drewN k) (h6.drewN k) (by rw [h7.nb]; exact hj) hlen).mono ?_
    rintro e2 w2 ⟨he2, rfl⟩
    exact ⟨he2, hh.drewN k⟩
  · rw [show d.read b = ⟨#[]⟩ by unfold DV.read; rw [if_neg (by rw [show chk d b = 2 from if_neg hb]; decide)], show chk d b = 2 from if_neg hb]
    refine (rread_bad x b (w.drewN k) (h6.drewN k) (by rw [h7.nb]; exact hb)).mono ?_
    rintro e2 w2 ⟨he2, rfl⟩
    exact ⟨he2, hh.drewN k⟩

end
end Go.Proofs.Ytnmfgmlmjbfdcaa
