/-
  A log of the code and the document's, side by side; their tapes, side by side.
-/
import Derived.Test.YtjahkaockjhibaaDoorMWLaw
import Derived.Test.YtjahkaockjhibaaDoorWalLawB
namespace Go.Proofs.YtjahkaockjhibaaDoor
open Go.RowKit

/-- Acts that lie there stay. -/
def KeepA (w w' : World) : Prop := ∀ (X : Nat) (cs : List Value), Row w X 41 cs (0, 0) → Row w' X 41 cs (0, 0)
theorem KeepA.below {w w' : World} (h : Below w.heap.size w w') : KeepA w w' := fun _ _ hr => hr.below h hr.lt

theorem mine_act {d : WV} {w : World} (h : d.In w) {X : Nat} {t : TypeId} {cs : List Value} {m : Nat × Nat} (hr : Row w X t cs m) (h1 : 74 ≠ t) (h2 : 83 ≠ t) (h3 : 5 ≠ t) (h4 : 48 ≠ t) : ¬ d.mine X := by
  rintro ((e | (e | e)) | e)
  · exact h.row.ne_ hr h1 e.symm
  · exact h.tape.dev.ne_ hr h2 e.symm
  · obtain ⟨cs', hr'⟩ := h.tape.bts.u8 e
    exact hr'.ne_ hr h3 rfl
  · obtain ⟨cs', hr'⟩ := h.own.at_block X e
    exact hr'.ne_ hr h4 rfl
theorem tmine_act {t : TV} {w : World} (h : t.In w) {X : Nat} {ty : TypeId} {cs : List Value} {m : Nat × Nat} (hr : Row w X ty cs m) (h2 : 83 ≠ ty) (h3 : 5 ≠ ty) : ¬ t.mine X := by
  rintro (e | e)
  · exact h.dev.ne_ hr h2 e.symm
  · obtain ⟨cs', hr'⟩ := h.bts.u8 e
    exact hr'.ne_ hr h3 rfl
theorem rmine_act {r : RL} {w : World} (h : r.In w) {X : Nat} {t : TypeId} {cs : List Value} {m : Nat × Nat} (hr : Row w X t cs m) (h1 : 95 ≠ t) (h2 : 64 ≠ t) (h4 : 48 ≠ t) : ¬ r.mine X := by
  rintro (e | e | e)
  · exact h.row.ne_ hr h1 e.symm
  · exact h.tape.row.ne_ hr h2 e.symm
  · obtain ⟨cs', hr'⟩ := h.own.at_block X e
    exact hr'.ne_ hr h4 rfl
/-- The two share no memory, but that their rows might. -/
theorem mine_apart {d : WV} {r : RL} {w : World} (hd : d.In w) (hr : r.In w) (hne : ∀ k, blk d.A = some k → ¬ blk r.A = some k) : ∀ k, d.mine k → ¬ r.mine k := by
  intro k hk hk2
  rcases hk2 with e | e | e
  · exact mine_act hd (e ▸ hr.row) (by decide) (by decide) (by decide) (by decide) hk
  · exact mine_act hd (e ▸ hr.tape.row) (by decide) (by decide) (by decide) (by decide) hk
  · obtain ⟨cs, hrow⟩ := hr.own.at_block k e
    rcases hk with ((h1 | (h1 | h1)) | h1)
    · exact hd.row.ne_ hrow (by decide) h1.symm
    · exact hd.tape.dev.ne_ hrow (by decide) h1.symm
    · obtain ⟨cs', hr'⟩ := hd.tape.bts.u8 h1
      exact hr'.ne_ hrow (by decide) rfl
    · exact hne k h1 e

/-- What Get tells. -/
def gotV (g : LG) (n : Nat) : Value := match g.get n with
  | some x => .tuple #[entV x, .int .i64 0]
  | none => .tuple #[entV ⟨0, 0, []⟩, .int .i64 7]

/-- Both tapes, come since W. -/
def TPair (W : World) (pt qt : Value) (s1 s2 : ST) (w : World) : Prop := ∃ (t : TV) (T : Nat) (r : RT), t.ptr = pt ∧ rptr T = qt ∧ t.s = s1 ∧ r.st = s2 ∧ t.In w ∧ RIn T r w ∧ Below W.heap.size W w ∧ (∀ k, t.mine k → W.heap.size ≤ k) ∧ W.heap.size ≤ T
/-- The code's log, the document's tape. -/
def LTPair (W : World) (pt p qt : Value) (g : LG) (s2 : ST) (w : World) : Prop := ∃ (d : WV) (T : Nat) (r : RT), d.t.ptr = pt ∧ d.ptr = p ∧ rptr T = qt ∧ d.g = g ∧ r.st = s2 ∧ d.In w ∧ RIn T r w ∧ Below W.heap.size W w ∧ (∀ k, d.mine k → W.heap.size ≤ k) ∧ W.heap.size ≤ T
/-- Both logs, come since W. -/
def Pair (W : World) (pt p qt q : Value) (g1 g2 : LG) (w : World) : Prop := ∃ (d : WV) (r : RL), d.t.ptr = pt ∧ d.ptr = p ∧ rptr r.T = qt ∧ r.ptr = q ∧ d.g = g1 ∧ r.g = g2 ∧ d.In w ∧ r.In w ∧ Below W.heap.size W w ∧ (∀ k, d.mine k → W.heap.size ≤ k) ∧ (∀ k, r.mine k → W.heap.size ≤ k) ∧ ∀ k, blk d.A = some k → ¬ blk r.A = some k

section
variable {W w w' : World} {pt p qt q : Value} {g1 g2 : LG} {s1 s2 : ST}
theorem Pair.since (h : Pair W pt p qt q g1 g2 w) : Below W.heap.size W w := by obtain ⟨_, _, _, _, _, _, _, _, _, _, h, _⟩ := h; exact h
theorem TPair.since (h : TPair W pt qt s1 s2 w) : Below W.heap.size W w := by obtain ⟨_, _, _, _, _, _, _, _, _, h, _⟩ := h; exact h
theorem Pair.ok (h : Pair W pt p qt q g1 g2 w) : g1.Ok := by obtain ⟨d, _, _, _, _, _, rfl, _, hi, _⟩ := h; exact hi.ok
theorem TPair.ok (h : TPair W pt qt s1 s2 w) : s1.Ok := by obtain ⟨t, _, _, _, _, rfl, _, hi, _⟩ := h; exact hi.ok
theorem Pair.keeps (h : Pair W pt p qt q g1 g2 w) (hb : Below w.heap.size w w') : Pair W pt p qt q g1 g2 w' := by
  obtain ⟨d, r, h1, h2, h3, h4, h5, h6, hd, hr, hw, hn, hm, hne⟩ := h
  exact ⟨d, r, h1, h2, h3, h4, h5, h6, hd.keeps hb, hr.keeps hb, hw.trans (hb.mono hw.size), hn, hm, hne⟩
theorem TPair.keeps (h : TPair W pt qt s1 s2 w) (hb : Below w.heap.size w w') : TPair W pt qt s1 s2 w' := by
  obtain ⟨t, T, r, h1, h2, h3, h4, ht, hr, hw, hn, hm⟩ := h
  exact ⟨t, T, r, h1, h2, h3, h4, ht.keeps hb, hr.keeps hb, hw.trans (hb.mono hw.size), hn, hm⟩
theorem Pair.tapes (h : Pair W pt p qt q g1 g2 w) : TPair W pt qt g1.st g2.st w := by
  obtain ⟨d, r, h1, h2, h3, h4, rfl, rfl, hd, hr, hw, hn, hm, hne⟩ := h
  exact ⟨d.t, r.T, r.r, h1, h3, hd.st, hr.st, hd.tape, hr.tape, hw, fun k hk => hn k (.inl (.inr hk)), hm _ (.inr (.inl rfl))⟩
theorem Pair.addr (h : Pair W pt p qt q g1 g2 w) : ∃ B C, p = .pointer (some ⟨B, 0, none⟩) ∧ q = .pointer (some ⟨C, 0, none⟩) := by
  obtain ⟨d, r, _, rfl, _, rfl, _⟩ := h
  exact ⟨d.B, r.B, rfl, rfl⟩
theorem pair_code {d : WV} {r : RL} {F : Nat → Prop} {g' : LG} {a : Value} {e : Ending} (hd : d.In w) (hr : r.In w) (hw : Below W.heap.size W w) (hn : ∀ k, d.mine k → W.heap.size ≤ k) (hm : ∀ k, r.mine k → W.heap.size ≤ k) (hne : ∀ k, blk d.A = some k → ¬ blk r.A = some k)
    (hF : ∀ k, F k → d.mine k) (h : d.Turned F w g' a e w') : e = .returned a ∧ Pair W d.t.ptr d.ptr (rptr r.T) r.ptr g' r.g w' ∧ KeepA w w' := by
  obtain ⟨d', h1, h2, h3, h4, h5, h6, h7⟩ := h
  have hap := mine_apart hd hr hne
  have hsz := h6.size
  refine ⟨h1, ⟨d', r, by unfold TV.ptr; rw [h3], by unfold WV.ptr; rw [h2], rfl, rfl, h4, rfl, h5, hr.only h6 (fun k hk hf => hap k (hF k hf) hk), since_only hw h6 (fun k hk => hn k (hF k hk)), fun k hk => ?_, hm, fun k hk hk2 => ?_⟩, fun X cs hx => hx.only h6 (fun hf => mine_act hd hx (by decide) (by decide) (by decide) (by decide) (hF X hf))⟩
  · rcases h7 k hk with h8 | h8
    · exact hn k h8
    · exact Nat.le_trans hw.size h8
  · rcases h7 k (.inr hk) with h8 | h8
    · exact hap k h8 (.inr (.inr hk2))
    · have := hr.own.lt k hk2
      omega
theorem pair_doc {d : WV} {r : RL} {g' : LG} {a : Value} {e : Ending} (hd : d.In w) (hr : r.In w) (hw : Below W.heap.size W w) (hn : ∀ k, d.mine k → W.heap.size ≤ k) (hm : ∀ k, r.mine k → W.heap.size ≤ k) (hne : ∀ k, blk d.A = some k → ¬ blk r.A = some k)
    (h : r.Turned w g' a e w') : e = .returned a ∧ Pair W d.t.ptr d.ptr (rptr r.T) r.ptr d.g g' w' ∧ KeepA w w' := by
  obtain ⟨r', h1, h2, h3, h4, h5, h6, h7⟩ := h
  have hap := mine_apart hd hr hne
  have hsz := h6.size
  refine ⟨h1, ⟨d, r', rfl, rfl, by rw [h3], by unfold RL.ptr; rw [h2], rfl, h4, hd.only h6 (fun k hk hf => hap k hk hf), h5, since_only hw h6 hm, hn, fun k hk => ?_, fun k hk hk2 => ?_⟩, fun X cs hx => hx.only h6 (fun hf => rmine_act hr hx (by decide) (by decide) (by decide) hf)⟩
  · rcases h7 k hk with h8 | h8
    · exact hm k h8
    · exact Nat.le_trans hw.size h8
  · rcases h7 k (.inr (.inr hk2)) with h8 | h8
    · exact hap k (.inr hk) h8
    · have := hd.own.lt k hk
      omega
theorem mem_logB : ∀ {l : List Ent} {e : Ent}, e ∈ l → 21 + e.d.length ≤ (logB l).length
  | x :: l, e, h => by
    rw [logB_cons, List.length_append, one_recE]
    rcases List.mem_cons.1 h with rfl | h
    · omega
    · have := mem_logB h; omega
/-- Each call, on both. -/
theorem append_p1 (hT : Tab W) (h : Pair W pt p qt q g1 g2 w) (k : UInt8) (x : List UInt8) (hx : x.length ≤ 30000) (hs : g1.st.fin + (21 + x.length) ≤ 100000000) (c : Int) (t : ByteArray) (hc : c = (k.toNat : Int)) (ht : t = tb x) : Calls Tryd.prog 27 #[p, .int .u8 c, .string t] w fun e w' => e = .returned (.tuple #[.int .u64 (((if g1.can x then g1.last + 1 else 0) : Nat) : Int), .int .i64 (((if g1.can x then 0 else 6) : Nat) : Int)]) ∧ Pair W pt p qt q (g1.append k x) g2 w' ∧ KeepA w w' := by
  subst hc ht
  obtain ⟨d, r, rfl, rfl, rfl, rfl, rfl, rfl, hd, hr, hw, hn, hm, hne⟩ := h
  exact (wappend_any d w (hT.keeps hw) k x hd hx hs).mono fun e w' hh => pair_code hd hr hw hn hm hne (fun _ hk => hk) hh
theorem append_p2 (h : Pair W pt p qt q g1 g2 w) (k : UInt8) (x : List UInt8) (hx : x.length ≤ 30000) (hs : g2.st.fin + (21 + x.length) ≤ 100000000) (c : Int) (t : ByteArray) (hc : c = (k.toNat : Int)) (ht : t = tb x) : Calls Tryd.prog 28 #[q, .int .u8 c, .string t] w fun e w' => e = .returned (.tuple #[.int .u64 (((if g2.can x then g2.last + 1 else 0) : Nat) : Int), .int .i64 (((if g2.can x then 0 else 6) : Nat) : Int)]) ∧ Pair W pt p qt q g1 (g2.append k x) w' ∧ KeepA w w' := by
  subst hc ht
  obtain ⟨d, r, rfl, rfl, rfl, rfl, rfl, rfl, hd, hr, hw, hn, hm, hne⟩ := h
  exact (rwappend_any r w k x hr hx hs).mono fun e w' hh => pair_doc hd hr hw hn hm hne hh
theorem force_p1 (h : Pair W pt p qt q g1 g2 w) : Calls Tryd.prog 20 #[p] w fun e w' => e = .returned (.int .i64 0) ∧ Pair W pt p qt q g1.force g2 w' ∧ KeepA w w' := by
  obtain ⟨d, r, rfl, rfl, rfl, rfl, rfl, rfl, hd, hr, hw, hn, hm, hne⟩ := h
  exact (wforce_any d w hd).mono fun e w' hh => pair_code hd hr hw hn hm hne (fun _ hk => .inl hk) hh
theorem force_p2 (h : Pair W pt p qt q g1 g2 w) : Calls Tryd.prog 19 #[q] w fun e w' => e = .returned (.tuple #[]) ∧ Pair W pt p qt q g1 g2.force w' ∧ KeepA w w' := by
  obtain ⟨d, r, rfl, rfl, rfl, rfl, rfl, rfl, hd, hr, hw, hn, hm, hne⟩ := h
  exact (rwforce_any r w hr).mono fun e w' hh => pair_doc hd hr hw hn hm hne hh
theorem trim_p1 (h : Pair W pt p qt q g1 g2 w) (n : Nat) (hn64 : n < 18446744073709551616) (c : Int) (hc : c = (n : Int)) : Calls Tryd.prog 21 #[p, .int .u64 c] w fun e w' => e = .returned (.int .i64 (((if n ≤ g1.stable + 1 then 0 else 9) : Nat) : Int)) ∧ Pair W pt p qt q (g1.trim n) g2 w' ∧ KeepA w w' := by
  subst hc
  obtain ⟨d, r, rfl, rfl, rfl, rfl, rfl, rfl, hd, hr, hw, hn, hm, hne⟩ := h
  exact (wtrim_any d w n hn64 hd).mono fun e w' hh => pair_code hd hr hw hn hm hne (fun _ hk => .inl hk) hh
theorem trim_p2 (h : Pair W pt p qt q g1 g2 w) (n : Nat) (hsm : g2.st.l.length ≤ 30000) (c : Int) (hc : c = (n : Int)) : Calls Tryd.prog 22 #[q, .int .u64 c] w fun e w' => e = .returned (.int .i64 (((if n ≤ g2.stable + 1 then 0 else 9) : Nat) : Int)) ∧ Pair W pt p qt q g1 (g2.trim n) w' ∧ KeepA w w' := by
  subst hc
  obtain ⟨d, r, rfl, rfl, rfl, rfl, rfl, rfl, hd, hr, hw, hn, hm, hne⟩ := h
  exact (rwtrim_any r w n hr (fun e he => by have := mem_logB he; rw [← hr.ok.bytes] at this; omega)).mono fun e w' hh => pair_doc hd hr hw hn hm hne hh
theorem get_p1 (h : Pair W pt p qt q g1 g2 w) (n : Nat) (hn64 : n < 18446744073709551616) (c : Int) (hc : c = (n : Int)) : Calls Tryd.prog 25 #[p, .int .u64 c] w fun e w' => e = .returned (gotV g1 n) ∧ Below w.heap.size w w' := by
  subst hc
  obtain ⟨d, r, rfl, rfl, rfl, rfl, rfl, rfl, hd, hr, hw, hn, hm, hne⟩ := h
  exact (wget_any d w n hn64 hd).mono fun e w' hh => ⟨by rw [hh.1]; unfold gotV; cases d.g.get n <;> rfl, hh.2⟩
theorem get_p2 (h : Pair W pt p qt q g1 g2 w) (n : Nat) (c : Int) (hc : c = (n : Int)) : Calls Tryd.prog 26 #[q, .int .u64 c] w fun e w' => e = .returned (gotV g2 n) ∧ Below w.heap.size w w' := by
  subst hc
  obtain ⟨d, r, rfl, rfl, rfl, rfl, rfl, rfl, hd, hr, hw, hn, hm, hne⟩ := h
  exact (rwget_any r w n hr).mono fun e w' hh => ⟨by rw [hh.1]; unfold gotV; cases r.g.get n <;> rfl, hh.2⟩
theorem from_p1 (h : Pair W pt p qt q g1 g2 w) (n : Nat) (hn64 : n < 18446744073709551616) (c : Int) (hc : c = (n : Int)) : Calls Tryd.prog 16 #[p, .int .u64 c] w fun e w' => ∃ (A : Option Addr) (c : Nat), e = .returned (.slice A (g1.from_ n).length c) ∧ Ents w' A (g1.from_ n) ∧ (g1.from_ n).length ≤ c ∧ Below w.heap.size w w' := by
  subst hc
  obtain ⟨d, r, rfl, rfl, rfl, rfl, rfl, rfl, hd, hr, hw, hn, hm, hne⟩ := h
  exact (wfrom_any d w n hn64 hd).mono fun e w' ⟨A, c, k1, k2, k3, _, k5⟩ => ⟨A, c, k1, k2, k3, k5⟩
theorem from_p2 (h : Pair W pt p qt q g1 g2 w) (n : Nat) (c : Int) (hc : c = (n : Int)) : Calls Tryd.prog 17 #[q, .int .u64 c] w fun e w' => ∃ (A : Option Addr) (c : Nat), e = .returned (.slice A (g2.from_ n).length c) ∧ Ents w' A (g2.from_ n) ∧ (g2.from_ n).length ≤ c ∧ Below w.heap.size w w' := by
  subst hc
  obtain ⟨d, r, rfl, rfl, rfl, rfl, rfl, rfl, hd, hr, hw, hn, hm, hne⟩ := h
  exact (rwfrom_any r w n hr).mono fun e w' ⟨A, c, k1, k2, k3, _⟩ => ⟨A, c, k1, k2.ents, k3, k2.2⟩
theorem is_pair (h : Pair W pt p qt q g1 g1 w) : Calls Tryd.prog 14 #[p, pt, q] w fun e w' => e = .returned (.bool true) ∧ Below w.heap.size w w' := by
  obtain ⟨d, r, rfl, rfl, rfl, rfl, hg, hg2, hd, hr, hw, hn, hm, hne⟩ := h
  exact is_true walC d r w hd hr (hg.trans hg2.symm)
theorem new_tp (room : Int) (hr : room ≤ 9223372036854775807) (hw : Below W.heap.size W w) : Calls Tryd.prog 9 #[.int .i64 room] w fun e w1 => ∃ A : Nat, e = .returned (.pointer (some ⟨A, 0, none⟩)) ∧ Calls Tryd.prog 10 #[.int .i64 room] w1 fun e w2 => ∃ T : Nat, e = .returned (.pointer (some ⟨T, 0, none⟩)) ∧ TPair W (.pointer (some ⟨A, 0, none⟩)) (.pointer (some ⟨T, 0, none⟩)) ⟨room.toNat, 0, 0, []⟩ ⟨room.toNat, 0, 0, []⟩ w2 := by
  refine (new_any room w hr).mono ?_
  rintro e w1 ⟨t, rfl, hi, hb, hn, hs⟩
  refine ⟨t.A, rfl, (rnew_any room w1 hr).mono ?_⟩
  rintro e w2 ⟨rfl, hr2, hb2, _⟩
  have hw1 := hw.trans (hb.mono hw.size)
  exact ⟨w1.heap.size, rfl, t, w1.heap.size, _, rfl, rfl, hs, rfl, hi.keeps hb2, hr2, hw1.trans (hb2.mono hw1.size), fun k hk => Nat.le_trans hw.size (hn k hk), hw1.size⟩
theorem tp_code {t : TV} {T : Nat} {r : RT} {s' : ST} {a : Value} {e : Ending} (ht : t.In w) (hr : RIn T r w) (hw : Below W.heap.size W w) (hn : ∀ k, t.mine k → W.heap.size ≤ k) (hm : W.heap.size ≤ T) (h : t.Turned w s' a e w') : e = .returned a ∧ TPair W t.ptr (rptr T) s' r.st w' ∧ KeepA w w' := by
  obtain ⟨t', h1, h2, h3, h4, h5, h6⟩ := h
  refine ⟨h1, ⟨t', T, r, by unfold TV.ptr; rw [h2], rfl, h3, rfl, h4, hr.only h5 (tmine_act ht hr.row (by decide) (by decide)), since_only hw h5 hn, fun k hk => ?_, hm⟩, fun X cs hx => hx.only h5 (tmine_act ht hx (by decide) (by decide))⟩
  rcases h6 k hk with h8 | h8
  · exact hn k h8
  · exact Nat.le_trans hw.size h8
theorem tp_doc {t : TV} {T : Nat} {r : RT} {s' : ST} {a : Value} {e : Ending} (ht : t.In w) (hr : RIn T r w) (hw : Below W.heap.size W w) (hn : ∀ k, t.mine k → W.heap.size ≤ k) (hm : W.heap.size ≤ T) (h : RTurned T w s' a e w') : e = .returned a ∧ TPair W t.ptr (rptr T) t.s s' w' ∧ KeepA w w' := by
  obtain ⟨h1, r', h2, h3, h4⟩ := h
  exact ⟨h1, ⟨t, T, r', rfl, rfl, rfl, h3, ht.only h4 (fun k hk e => tmine_act ht hr.row (by decide) (by decide) (e ▸ hk)), h2, since_only hw h4 (fun k hk => hk ▸ hm), hn, hm⟩, fun X cs hx => hx.only h4 (fun e => hx.ne_ hr.row (by decide) e)⟩
theorem crash_t1 (h : TPair W pt qt s1 s2 w) (keep : Int) (hk : keep ≤ 9223372036854775807) : Calls Tryd.prog 23 #[pt, .int .i64 keep] w fun e w' => e = .returned (.tuple #[]) ∧ TPair W pt qt (s1.crash keep) s2 w' ∧ KeepA w w' := by
  obtain ⟨t, T, r, rfl, rfl, rfl, rfl, ht, hr, hw, hn, hm⟩ := h
  exact (crash_any t keep w ht hk).mono fun e w' hh => tp_code ht hr hw hn hm hh
theorem crash_t2 (h : TPair W pt qt s1 s2 w) (keep : Int) (hk : keep ≤ 9223372036854775807) : Calls Tryd.prog 24 #[qt, .int .i64 keep] w fun e w' => e = .returned (.tuple #[]) ∧ TPair W pt qt s1 (s2.crash keep) w' ∧ KeepA w w' := by
  obtain ⟨t, T, r, rfl, rfl, rfl, rfl, ht, hr, hw, hn, hm⟩ := h
  exact (rcrash_any T r w keep hr hk).mono fun e w' hh => tp_doc ht hr hw hn hm hh
theorem append_t1 (h : TPair W pt qt s1 s2 w) (x : ByteArray) (hx : s1.fin + x.size ≤ 100000000) : Calls Tryd.prog 29 #[pt, .string x] w fun e w' => e = .returned (.int .i64 (if s1.fits x then 0 else 6)) ∧ TPair W pt qt (s1.append x) s2 w' ∧ KeepA w w' := by
  obtain ⟨t, T, r, rfl, rfl, rfl, rfl, ht, hr, hw, hn, hm⟩ := h
  exact (append_any t x w ht hx).mono fun e w' hh => tp_code ht hr hw hn hm hh
theorem append_t2 (h : TPair W pt qt s1 s2 w) (x : ByteArray) (hx : s2.fin + x.size ≤ 100000000) : Calls Tryd.prog 30 #[qt, .string x] w fun e w' => e = .returned (.int .i64 (if s2.fits x then 0 else 6)) ∧ TPair W pt qt s1 (s2.append x) w' ∧ KeepA w w' := by
  obtain ⟨t, T, r, rfl, rfl, rfl, rfl, ht, hr, hw, hn, hm⟩ := h
  exact (rappend_any T r w x hr hx).mono fun e w' hh => tp_doc ht hr hw hn hm hh
/-- Open, on the code's tape, then on the document's: both tell the same. -/
def Open1 (W : World) (pt qt : Value) (s : ST) (least : Nat) (w : World) (e : Ending) (w1 : World) : Prop := KeepA w w1 ∧
  ((opens s least = none ∧ e = .returned (.tuple #[.pointer none, .int .i64 80]) ∧ TPair W pt qt s s w1) ∨
  ∃ B g, opens s least = some g ∧ e = .returned (.tuple #[.pointer (some ⟨B, 0, none⟩), .int .i64 0]) ∧ LTPair W pt (.pointer (some ⟨B, 0, none⟩)) qt g s w1)
theorem open_t1 (hT : Tab W) {s : ST} (h : TPair W pt qt s s w) (hs : s.l.length ≤ 30000) (least : Nat) (hl : least < 18446744073709551616) (c : Int) (hc : c = (least : Int)) : Calls Tryd.prog 11 #[pt, .int .u64 c] w (Open1 W pt qt s least w) := by
  subst hc
  have hh := h
  obtain ⟨t, T, r, rfl, rfl, rfl, hst, ht, hr, hw, hn, hm⟩ := h
  refine (wopen_any t least w (hT.keeps hw) ht hs hl).mono fun e w' hr2 => ?_
  rcases hr2 with ⟨h1, h2, h3⟩ | ⟨d, h1, h2, h3, h4, h5, h6⟩
  · exact ⟨KeepA.below h3, .inl ⟨h1, h2, hh.keeps h3⟩⟩
  · refine ⟨fun X cs hx => hx.only h5 (tmine_act ht hx (by decide) (by decide)), .inr ⟨d.B, d.g, h1, h3, d, T, r, by unfold TV.ptr; rw [h2], rfl, rfl, rfl, hst, h4, hr.only h5 (tmine_act ht hr.row (by decide) (by decide)), since_only hw h5 hn, fun k hk => ?_, hm⟩⟩
    rcases h6 k hk with h7 | h7
    · exact hn k h7
    · exact Nat.le_trans hw.size h7
theorem open_none2 {s : ST} (h : TPair W pt qt s s w) (hs : s.l.length ≤ 30000) (least : Nat) (hl : least < 18446744073709551616) (c : Int) (hc : c = (least : Int)) (ho : opens s least = none) : Calls Tryd.prog 12 #[qt, .int .u64 c] w fun e w' => e = .returned (.tuple #[.pointer none, .int .i64 80]) ∧ TPair W pt qt s s w' := by
  subst hc
  have hh := h
  obtain ⟨t, T, r, rfl, rfl, rfl, hst, ht, hr, hw, hn, hm⟩ := h
  refine (rwopen_any T r least w hr (by rw [hst]; exact hs) hl).mono fun e w' hr2 => ?_
  rcases hr2 with ⟨h1, h2, h3⟩ | ⟨d, h1, _⟩
  · exact ⟨h2, hh.keeps h3⟩
  · rw [hst, ho] at h1; cases h1
theorem open_some2 {s : ST} {g : LG} (h : LTPair W pt p qt g s w) (hs : s.l.length ≤ 30000) (least : Nat) (hl : least < 18446744073709551616) (c : Int) (hc : c = (least : Int)) (ho : opens s least = some g) : Calls Tryd.prog 12 #[qt, .int .u64 c] w fun e w' => ∃ C, e = .returned (.tuple #[.pointer (some ⟨C, 0, none⟩), .int .i64 0]) ∧ Pair W pt p qt (.pointer (some ⟨C, 0, none⟩)) g g w' := by
  subst hc
  obtain ⟨d, T, r, rfl, rfl, rfl, rfl, hst, hd, hr, hw, hn, hm⟩ := h
  refine (rwopen_any T r least w hr (by rw [hst]; exact hs) hl).mono fun e w' hr2 => ?_
  rcases hr2 with ⟨h1, _⟩ | ⟨r', h1, h2, h3, h4, h5, h6, h7⟩
  · rw [hst, ho] at h1; cases h1
  · rw [hst, ho] at h1
    injection h1 with h1
    have hTd : ¬ d.mine T := mine_act hd hr.row (by decide) (by decide) (by decide) (by decide)
    refine ⟨r'.B, h3, d, r', rfl, rfl, by rw [h2], rfl, rfl, h1.symm, hd.only h5 (fun k hk e => hTd (e ▸ hk)), h4, since_only hw h5 (fun k hk => hk ▸ hm), hn, ?_, fun k hk hk2 => ?_⟩
    · rintro k (rfl | rfl | hk)
      · exact Nat.le_trans hw.size h6
      · rw [h2]; exact hm
      · exact Nat.le_trans hw.size (h7 k hk)
    · have h8 := h7 k hk2
      have h9 := hd.own.lt k hk
      omega
end
theorem opens_fin {s : ST} {k : Nat} {g : LG} (h : opens s k = some g) : g.st.fin ≤ s.fin := by
  obtain ⟨h1, _, h3, h4, _⟩ := opens_bytes h
  unfold ST.fin
  rw [h3, h4]
  omega
theorem crash_fin (s : ST) (h : s.Ok) (keep : Int) : (s.crash keep).fin ≤ s.fin := by
  show s.base + (s.l.take _).length ≤ s.base + s.l.length
  rw [List.length_take]
  omega
end Go.Proofs.YtjahkaockjhibaaDoor
