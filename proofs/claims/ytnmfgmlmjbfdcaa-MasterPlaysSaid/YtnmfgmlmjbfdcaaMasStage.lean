/-
  A device and a master of a statement's own: where they lie is hidden; what they are is said in plain words; each call over that.
-/
import Derived.Test.YtnmfgmlmjbfdcaaMasCodeE
import Derived.Test.YtnmfgmlmjbfdcaaMBlkEF
namespace Go.Proofs.Ytnmfgmlmjbfdcaa
open Go.RowKit

/-- At p lies a device that has come since W; I says what it is. -/
def DvP (W : World) (p : Value) (I : DV → Prop) (w : World) : Prop := ∃ d : DV, d.ptr = p ∧ d.In w ∧ Below W.heap.size W w ∧ (∀ k, d.mine k → W.heap.size ≤ k) ∧ I d
/-- At a lies a master on it. -/
def MsP (W : World) (p a : Value) (J : MV → Prop) (w : World) : Prop := ∃ x : MV, x.d.ptr = p ∧ x.ptr = a ∧ x.In w ∧ Below W.heap.size W w ∧ (∀ k, x.mine k → W.heap.size ≤ k) ∧ J x

section
variable {W w w' : World} {p a : Value} {I I' : DV → Prop} {J J' : MV → Prop}
theorem DvP.keeps (h : DvP W p I w) (hb : Below w.heap.size w w') : DvP W p I w' := by
  obtain ⟨d, h1, h2, h3, h4, h5⟩ := h
  exact ⟨d, h1, h2.keeps hb, h3.trans (hb.mono h3.size), h4, h5⟩
theorem MsP.keeps (h : MsP W p a J w) (hb : Below w.heap.size w w') : MsP W p a J w' := by
  obtain ⟨x, h1, h2, h3, h4, h5, h6⟩ := h
  exact ⟨x, h1, h2, h3.keeps hb, h4.trans (hb.mono h4.size), h5, h6⟩
theorem DvP.below (h : DvP W p I w) : Below W.heap.size W w := by obtain ⟨_, _, _, h3, _⟩ := h; exact h3
theorem MsP.below (h : MsP W p a J w) : Below W.heap.size W w := by obtain ⟨_, _, _, _, h3, _⟩ := h; exact h3
theorem DvP.imp (h : DvP W p I w) (hi : ∀ d, d.In w → I d → I' d) : DvP W p I' w := by
  obtain ⟨d, h1, h2, h3, h4, h5⟩ := h
  exact ⟨d, h1, h2, h3, h4, hi d h2 h5⟩
theorem MsP.imp (h : MsP W p a J w) (hi : ∀ x, x.In w → J x → J' x) : MsP W p a J' w := by
  obtain ⟨x, h1, h2, h3, h4, h5, h6⟩ := h
  exact ⟨x, h1, h2, h3, h4, h5, hi x h3 h6⟩
theorem MsP.dev (h : MsP W p a J w) (hi : ∀ x, x.In w → J x → I x.d) : DvP W p I w := by
  obtain ⟨x, h1, h2, h3, h4, h5, h6⟩ := h
  exact ⟨x.d, h1, h3.dev, h4, fun k hk => h5 k (.inr hk), hi x h3 h6⟩
theorem MsP.lit (h : MsP W p a J w) : ∃ A, a = .pointer (some ⟨A, 0, none⟩) := by obtain ⟨x, _, h2, _⟩ := h; exact ⟨x.A, h2.symm⟩

/-- A new device. -/
theorem DvP.new (nb ns : Nat) (W : World) (h1 : 1 ≤ nb) (h2 : nb ≤ 1000) (h3 : 1 ≤ ns) (h4 : ns ≤ 256) : Calls Try.prog 16 #[.int .i64 (nb : Int), .int .i64 (ns : Int)] W fun e w' =>
    ∃ A, e = .returned (.tuple #[.pointer (some ⟨A, 0, none⟩), .int .i64 0]) ∧ DvP W (.pointer (some ⟨A, 0, none⟩)) (fun d => d.nb = nb ∧ d.ns = ns ∧ d.vis = List.replicate (nb * (ns * 64)) 0 ∧ d.dur = List.replicate (nb * (ns * 64)) 0 ∧ d.pend = []) w' := by
  refine (new_good nb ns W ⟨h1, h2⟩ ⟨h3, h4⟩).mono ?_
  intro e w' h
  obtain ⟨d, he, hs, k1⟩ := since_new h
  exact ⟨d.A, he, d, rfl, hs.dev, hs.below, hs.new, k1⟩
/-- Open. -/
theorem DvP.open_ (h : DvP W p I w) (h2 : ∀ d, I d → 2 ≤ d.nb) : Calls Try.prog 18 #[p] w fun e w' =>
    ∃ A, e = .returned (.tuple #[.pointer (some ⟨A, 0, none⟩), .int .i64 0]) ∧ MsP W p (.pointer (some ⟨A, 0, none⟩)) (fun x => I x.d ∧ x.m = x.d.opened) w' ∧ DvP W p I w' := by
  obtain ⟨d, rfl, k2, k3, k4, k5⟩ := h
  refine (mopen_any d w k2 (h2 d k5)).mono ?_
  rintro e w' ⟨A, he, hi, hb, hA⟩
  refine ⟨A, he, ⟨⟨A, d, d.opened, 0⟩, rfl, rfl, hi, k3.trans (hb.mono k3.size), fun k hk => ?_, k5, rfl⟩, d, rfl, hi.dev, k3.trans (hb.mono k3.size), k4, k5⟩
  rcases hk with rfl | hk
  · exact Nat.le_trans k3.size hA
  · exact k4 k hk
theorem MsP.data_ (h : MsP W p a J w) (s : List UInt8) (hs : ∀ x, J x → x.m.s = s) : Calls Try.prog 20 #[a] w fun e w' => e = .returned (.string (tb s)) ∧ w = w' := by
  obtain ⟨x, h1, rfl, h3, h4, h5, h6⟩ := h
  rw [← hs x h6]
  exact mdata_any h3
theorem MsP.version_ (h : MsP W p a J w) (v : Nat) (hs : ∀ x, J x → x.m.v = v) : Calls Try.prog 21 #[a] w fun e w' => e = .returned (.int .u64 (v : Int)) ∧ w = w' := by
  obtain ⟨x, h1, rfl, h3, h4, h5, h6⟩ := h
  rw [← hs x h6]
  exact mversion_any h3
theorem MsP.busy_ (h : MsP W p a J w) (b : Bool) (hs : ∀ x, J x → x.m.way = b) : Calls Try.prog 22 #[a] w fun e w' => e = .returned (.bool b) ∧ w = w' := by
  obtain ⟨x, h1, rfl, h3, h4, h5, h6⟩ := h
  rw [← hs x h6]
  exact mbusy_any h3
theorem below_then {F : Nat → Prop} {x : World} (hb : Below W.heap.size W x) (ho : Only F x w') (hF : ∀ k, F k → W.heap.size ≤ k) : Below W.heap.size W w' :=
  hb.trans (ho.upTo hb.size fun k hk hf => by have := hF k hf; omega)
/-- Put, where it is refused. -/
theorem MsP.putNo (h : MsP W p a J w) (s : List UInt8) (n : Nat) (hs : s.length ≤ 9223372036854775807) (hpl : ∀ x, J x → x.d.pend.length ≤ 1000000) (hn : n ≠ 0) (hE : ∀ x, J x → x.d.putE x.m s = n) :
    Calls Try.prog 30 #[a, .string (tb s)] w fun e w' => e = .returned (.int .i64 (n : Int)) ∧ MsP W p a J w' := by
  obtain ⟨x, h1, rfl, h3, h4, h5, h6⟩ := h
  refine (mput_any h3 s hs (hpl x h6)).mono ?_
  rintro e w' ⟨he, ⟨k1, k2⟩ | ⟨k1, _⟩⟩
  · exact ⟨by rw [he, hE x h6], x, h1, rfl, h3.keeps k2, h4.trans (k2.mono h4.size), h5, h6⟩
  · rw [hE x h6] at k1
    exact absurd k1 hn
/-- Put, where it puts. -/
theorem MsP.put (h : MsP W p a J w) (s : List UInt8) (hs : s.length ≤ 9223372036854775807) (hpl : ∀ x, J x → x.d.pend.length ≤ 1000000) (hE : ∀ x, J x → x.d.putE x.m s = 0) (hJ : ∀ x w0 q, x.In w0 → J x → J' (x.putV s q)) :
    Calls Try.prog 30 #[a, .string (tb s)] w fun e w' => e = .returned (.int .i64 0) ∧ MsP W p a J' w' := by
  obtain ⟨x, h1, rfl, h3, h4, h5, h6⟩ := h
  refine (mput_any h3 s hs (hpl x h6)).mono ?_
  rintro e w' ⟨he, ⟨k1, _⟩ | ⟨_, q, k2, k3, k4⟩⟩
  · exact absurd (hE x h6) k1
  · refine ⟨by rw [he, hE x h6]; rfl, x.putV s q, h1, rfl, k2, below_then h4 k3 h5, fun k hk => ?_, hJ x w q h3 h6⟩
    rcases hk with rfl | hk
    · exact h5 _ (.inl rfl)
    · rcases hk with e | e | e | e
      · exact h5 k (.inr (.inl e))
      · exact h5 k (.inr (.inr (.inl e)))
      · exact h5 k (.inr (.inr (.inr (.inl e))))
      · rcases k4 k e with e | e
        · exact h5 k (.inr (.inr (.inr (.inr e))))
        · exact Nat.le_trans h4.size e
theorem MsP.syncNo (h : MsP W p a J w) (hw : ∀ x, J x → x.m.way = false) : Calls Try.prog 24 #[a] w fun e w' => e = .returned (.int .i64 9) ∧ w = w' := by
  obtain ⟨x, h1, rfl, h3, h4, h5, h6⟩ := h
  exact msync_no h3 (hw x h6)
theorem MsP.sync (h : MsP W p a J w) (hw : ∀ x, J x → x.m.way = true) (hJ : ∀ x w0, x.In w0 → J x → J' x.syncV) : Calls Try.prog 24 #[a] w fun e w' => e = .returned (.int .i64 0) ∧ MsP W p a J' w' := by
  obtain ⟨x, h1, rfl, h3, h4, h5, h6⟩ := h
  refine (msync_way h3 (hw x h6)).mono ?_
  rintro e w' ⟨he, k2, k3⟩
  refine ⟨he, x.syncV, h1, rfl, k2, below_then h4 k3 h5, fun k hk => ?_, hJ x w h3 h6⟩
  rcases hk with rfl | hk
  · exact h5 _ (.inl rfl)
  · exact h5 k (.inr (synced_mine hk))
/-- A power loss. -/
theorem DvP.crash (h : DvP W p I w) {A : Option Addr} {n : Nat} {keep : List Nat} (hk : Old W A n keep) (c : Nat) (hJ : ∀ d w0, d.In w0 → I d → I' (d.crashed keep)) :
    Calls Try.prog 26 #[p, .slice A n c] w fun e w' => e = .returned (.tuple #[]) ∧ DvP W p I' w' := by
  obtain ⟨d, rfl, k2, k3, k4, k5⟩ := h
  refine (hk.crash (d := d) ⟨k2, k3, k4⟩ c).mono ?_
  rintro e w' ⟨he, hs, _⟩
  exact ⟨he, d.crashed keep, rfl, hs.dev, hs.below, hs.new, hJ d w k2 k5⟩
theorem old_nil (W : World) : Old W none 0 [] := ⟨rfl, by omega, ⟨fun i hi => by simp at hi, fun m hm => by simp at hm⟩, fun h => by omega⟩
/-- A block is read. -/
theorem DvP.read (h : DvP W p I w) (b : Nat) (t : List UInt8) (hb : ∀ d, I d → b < d.nb ∧ d.bl b = t) : Calls Try.prog 32 #[p, .int .i64 (b : Int)] w fun e w' => e = .returned (.tuple #[.string (tb t), .int .i64 0]) ∧ DvP W p I w' := by
  obtain ⟨d, rfl, k2, k3, k4, k5⟩ := h
  obtain ⟨q1, q2⟩ := hb d k5
  refine (read_any d w k2 (b : Int)).mono ?_
  rintro e w' ⟨he, n, rfl⟩
  rw [read_block d b q1, chk_in d b q1, show d.block b = tb (d.bl b) from rfl, q2] at he
  exact ⟨he, d, rfl, k2.drewN n, ⟨k3.os, k3.tape, k3.output, k3.size, k3.block⟩, k4, k5⟩
end

/-! ### What is said of them -/

/-- A device at rest: what it holds is m, its greatest stamp t. -/
structure DI (nb ns : Nat) (m : MS) (t : Nat) (d : DV) : Prop where
  nb : d.nb = nb
  ns : d.ns = ns
  calm : Calm d
  op : d.opened = m
  top : d.top = t
/-- A text is under way. -/
structure WI (nb ns : Nat) (m : MS) (t : Nat) (s : List UInt8) (d : DV) : Prop where
  ex : ∃ d0 q w0, d0.In w0 ∧ DI nb ns m t d0 ∧ d0.putE m s = 0 ∧ d = d0.wrote (1 - m.at_) (tb (d0.putB s)) q
section
variable {nb ns t : Nat} {m : MS} {s : List UInt8} {d : DV}
theorem DI.way (h : DI nb ns m t d) : m.way = false := by rw [← h.op]; rfl
theorem DI.one (h : DI nb ns m t d) : m.at_ ≤ 1 := by rw [← h.op]; exact opened_at
theorem DI.ver (h : DI nb ns m t d) : m.v ≤ t := by rw [← h.op, ← h.top]; exact opened_top
theorem DI.putE (h : DI nb ns m t d) (hs : s.length + 4 ≤ ns * 56) (ht : t < 9223372036854775808) : d.putE m s = 0 := by
  unfold DV.putE
  rw [if_neg (by rw [h.way]; decide), if_neg (by rw [h.ns]; omega), if_neg (by rw [h.top]; omega)]
theorem DI.putLong (h : DI nb ns m t d) (hs : ns * 56 < s.length + 4) : d.putE m s = 3 := by
  unfold DV.putE
  rw [if_neg (by rw [h.way]; decide), if_pos (by rw [h.ns]; omega)]
theorem DI.new {w : World} (_hi : d.In w) (h0 : d.nb = nb) (h1 : d.ns = ns) (h2 : d.vis = List.replicate (nb * (ns * 64)) 0) (h3 : d.dur = List.replicate (nb * (ns * 64)) 0) (h4 : d.pend = []) (h5 : 2 ≤ nb) : DI nb ns ⟨0, 0, [], false, []⟩ 0 d := by
  have hz : ∀ b, b < nb → d.bl b = List.replicate (ns * 64) 0 := fun b hb => by
    have := block_in (ns * 64) hb
    show seg d.vis (b * (d.ns * 64)) (d.ns * 64) = _
    rw [h2, h1]
    unfold seg
    rw [List.drop_replicate, List.take_replicate]
    congr 1
    omega
  have v0 : ∀ k, val (List.replicate k 0) = 0 := by
    intro k
    induction k with
    | zero => rfl
    | succ k ih => rw [List.replicate_succ', val_snoc, ih]; rfl
  have ht : ∀ b, b < nb → topP (d.bl b) = 0 := fun b hb => by
    unfold topP
    refine Nat.le_zero.1 (topL_le _ fun i hi2 => ?_)
    rw [hz b hb]
    unfold seg
    rw [List.drop_replicate, List.take_replicate, v0]
    exact Nat.le_refl _
  have hu : ∀ b, b < nb → unpackP (d.bl b) = none := fun b hb => unpack_none fun v s hu => by
    obtain ⟨e1, e2⟩ := unpack_top hu
    exact e2 (e1.symm.trans (ht b hb))
  refine ⟨h0, h1, ⟨h4, by rw [h2, h3]⟩, ?_, ?_⟩
  · show MS.opened (d.bl 0) (d.bl 1) = _
    have : best (d.bl 0) (d.bl 1) = Held.none := by unfold best; rw [look_none (hu 1 (by omega)), look_none (hu 0 (by omega))]
    unfold MS.opened
    rw [this]
    rfl
  · show max (topP (d.bl 0)) (topP (d.bl 1)) = 0
    rw [ht 0 (by omega), ht 1 (by omega)]
    rfl
theorem WI.of {w0 : World} {q : Value} (hi : d.In w0) (h : DI nb ns m t d) (hE : d.putE m s = 0) : WI nb ns m t s (d.wrote (1 - m.at_) (tb (d.putB s)) q) := ⟨d, q, w0, hi, h, hE, rfl⟩
/-- Behind a Sync. -/
theorem WI.synced (h : WI nb ns m t s d) (h2 : 2 ≤ nb) : DI nb ns ⟨1 - m.at_, t + 1, s, false, []⟩ (t + 1) d.synced ∧ d.top = t + 1 := by
  obtain ⟨d0, q, w0, hi, hd, hE, rfl⟩ := h.ex
  have e := opened_wrote (m := m) hi (by rw [hd.nb]; exact h2) hE q
  have e2 := top_wrote hi (by rw [hd.nb]; exact h2) hE (b := 1 - m.at_) (by omega) q
  rw [hd.op, hd.top] at e
  rw [hd.top] at e2
  exact ⟨⟨hd.nb, hd.ns, ⟨rfl, rfl⟩, e, e2⟩, e2⟩
/-- Behind a power loss. -/
theorem WI.lost (h : WI nb ns m t s d) (h2 : 2 ≤ nb) (keep : List Nat) : ∃ m' t', DI nb ns m' t' (d.crashed keep) ∧ (m'.s = m.s ∨ m'.s = s) ∧ t' ≤ t + 1 := by
  obtain ⟨d0, q, w0, hi, hd, hE, rfl⟩ := h.ex
  have e := opened_lost (m := m) hi hd.calm (by rw [hd.nb]; exact h2) hE q keep
  rw [hd.op, hd.top] at e
  exact ⟨_, _, ⟨hd.nb, hd.ns, crash_calm keep, rfl, rfl⟩, e.1, e.2⟩
theorem DI.lost (h : DI nb ns m t d) (keep : List Nat) : DI nb ns m t (d.crashed keep) := by
  have e := crash_same h.calm keep
  refine ⟨h.nb, h.ns, crash_calm keep, ?_, ?_⟩
  · rw [← h.op]
    exact opened_of _ _ _ (by show seg (d.crashed keep).vis _ _ = _; rw [e]; rfl) (by show seg (d.crashed keep).vis _ _ = _; rw [e]; rfl)
  · rw [← h.top]
    show max (topP (seg (d.crashed keep).vis _ _)) (topP (seg (d.crashed keep).vis _ _)) = _
    rw [e]; rfl
/-- Behind one that keeps nothing. -/
theorem WI.lostAll (h : WI nb ns m t s d) : DI nb ns m t (d.crashed []) := by
  obtain ⟨d0, q, w0, hi, hd, hE, rfl⟩ := h.ex
  have e : ((d0.wrote (1 - m.at_) (tb (d0.putB s)) q).crashed []).vis = d0.vis := by
    show keepAll _ d0.dur _ [] = _
    rw [keepAll_nil]
    exact hd.calm.2.symm
  refine ⟨hd.nb, hd.ns, crash_calm [], ?_, ?_⟩
  · refine Eq.trans (opened_of _ (d0.bl 0) (d0.bl 1) ?_ ?_) hd.op
    · show seg ((d0.wrote (1 - m.at_) (tb (d0.putB s)) q).crashed []).vis _ _ = _; rw [e]; rfl
    · show seg ((d0.wrote (1 - m.at_) (tb (d0.putB s)) q).crashed []).vis _ _ = _; rw [e]; rfl
  · rw [← hd.top]
    show max (topP (seg ((d0.wrote (1 - m.at_) (tb (d0.putB s)) q).crashed []).vis _ _)) (topP (seg ((d0.wrote (1 - m.at_) (tb (d0.putB s)) q).crashed []).vis _ _)) = _
    rw [e]; rfl
theorem WI.pend (h : WI nb ns m t s d) : d.pend.length = 1 := by
  obtain ⟨d0, q, w0, hi, hd, hE, rfl⟩ := h.ex
  show (d0.pend ++ [_]).length = 1
  rw [hd.calm.1]; rfl
theorem DI.pend (h : DI nb ns m t d) : d.pend.length ≤ 1000000 := by rw [h.calm.1]; exact Nat.zero_le _
end

/-- A master at rest; one that puts. -/
def MI (nb ns : Nat) (m : MS) (t : Nat) (x : MV) : Prop := DI nb ns m t x.d ∧ x.m = m
def MW (nb ns : Nat) (m : MS) (t : Nat) (s : List UInt8) (x : MV) : Prop := WI nb ns m t s x.d ∧ x.m = m.put s
section
variable {W w : World} {p a : Value} {nb ns t : Nat} {m : MS} {s : List UInt8}
theorem MsP.begin (h : MsP W p a (MI nb ns m t) w) (_h2 : 2 ≤ nb) (hs : s.length + 4 ≤ ns * 56) (hn : ns ≤ 256) (ht : t < 9223372036854775808) : Calls Try.prog 30 #[a, .string (tb s)] w fun e w' => e = .returned (.int .i64 0) ∧ MsP W p a (MW nb ns m t s) w' :=
  h.put s (by omega) (fun x hx => hx.1.pend) (fun x hx => by rw [hx.2]; exact hx.1.putE hs ht) fun x w0 q hi hx => by
    refine ⟨?_, by show x.m.put s = _; rw [hx.2]⟩
    show WI nb ns m t s (x.d.wrote (1 - x.m.at_) (tb (x.d.putB s)) q)
    rw [hx.2]
    exact WI.of hi.dev hx.1 (hx.1.putE hs ht)
theorem MsP.finish (h : MsP W p a (MW nb ns m t s) w) (h2 : 2 ≤ nb) : Calls Try.prog 24 #[a] w fun e w' => e = .returned (.int .i64 0) ∧ MsP W p a (MI nb ns ⟨1 - m.at_, t + 1, s, false, []⟩ (t + 1)) w' :=
  h.sync (fun x hx => by rw [hx.2]; rfl) fun x w0 hi hx => by
    obtain ⟨h1, h3⟩ := hx.1.synced h2
    refine ⟨h1, ?_⟩
    show x.m.sync x.d.top = _
    rw [hx.2, h3]; rfl
theorem DvP.opens (h : DvP W p (DI nb ns m t) w) (h2 : 2 ≤ nb) : Calls Try.prog 18 #[p] w fun e w' =>
    ∃ A, e = .returned (.tuple #[.pointer (some ⟨A, 0, none⟩), .int .i64 0]) ∧ MsP W p (.pointer (some ⟨A, 0, none⟩)) (MI nb ns m t) w' :=
  (h.open_ fun d hd => by rw [hd.nb]; exact h2).mono fun e w' ⟨A, he, hm, _⟩ => ⟨A, he, hm.imp fun x _ hx => ⟨hx.1, hx.2.trans hx.1.op⟩⟩
end
end Go.Proofs.Ytnmfgmlmjbfdcaa
