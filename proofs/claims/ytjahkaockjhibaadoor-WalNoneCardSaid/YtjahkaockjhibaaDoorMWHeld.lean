/-
  What package wal is held to, held; a log that has come since a world, and its calls.
-/
import Derived.Test.YtjahkaockjhibaaDoorMWOpen
import Derived.Test.YtjahkaockjhibaaDoorMWCodD
namespace Go.Proofs.YtjahkaockjhibaaDoor
open Go.RowKit

/-- The code's log, seen so, does what package wal is held to. -/
def walC : WalC WV where
  In := WV.In
  mine := WV.mine
  hard := WV.hard
  at_ := WV.B
  tv := WV.t
  g := WV.g
  tape := fun h => h.tape
  st := fun h => h.st
  ok := fun h => h.ok
  only := fun h ho hF => h.only ho hF
  mineLt := fun h => h.mineLt
  tmine := fun h => .inr h
  hmine := fun h => .inl h
  open_ := fun t least w hT h hb hl => (wopen_any t least w hT h hb hl).mono fun e w' hh => hh.imp id fun ⟨d, h1, h2, h3, h4, h5, h6⟩ => ⟨d, h1, h2, h3, h4, h5, h6⟩
  append_ := fun d k x w hT h hx hs => (wappend_any d w hT k x h hx hs).mono fun e w' ⟨d', h1, h2, h3, h4, h5, h6, h7⟩ => ⟨h1, d', h2, h3, h4, h5, h6, h7⟩
  force_ := fun d w h => (wforce_any d w h).mono fun e w' ⟨d', h1, h2, h3, h4, h5, h6, h7⟩ => ⟨h1, d', h2, h3, h4, h5, h6, h7⟩
  trim_ := fun d n w h _ hn => (wtrim_any d w n hn h).mono fun e w' ⟨d', h1, h2, h3, h4, h5, h6, h7⟩ => ⟨h1, d', h2, h3, h4, h5, h6, h7⟩
  last_ := fun d w h => (wlast_any d w h).mono fun e w' hh => ⟨hh.1, hh.2 ▸ Below.refl _ _⟩
  stable_ := fun d w h => (wstable_any d w h).mono fun e w' hh => ⟨hh.1, hh.2 ▸ Below.refl _ _⟩
  first_ := fun d w h => (wfirst_any d w h).mono fun e w' hh => ⟨hh.1, hh.2 ▸ Below.refl _ _⟩
  room_ := fun d w h => (wroom_any d w h).mono fun e w' hh => ⟨hh.1, by obtain ⟨n, h2⟩ := hh.2; rw [h2]; exact below_draw (Below.refl _ _) n⟩
  get_ := fun d n w h hn => wget_any d w n hn h
  from_ := fun d n w h hn => wfrom_any d w n hn h
  cost_ := fun n w hn => (wcost_any n w hn).mono fun e w' hh => ⟨hh.1, hh.2 ▸ Below.refl _ _⟩

/-- At pt lies a tape, and at p a log on it, both come since W; the log is g. -/
def Log (W : World) (pt p : Value) (g : LG) (w : World) : Prop := ∃ d : WV, d.t.ptr = pt ∧ d.ptr = p ∧ d.g = g ∧ d.In w ∧ Below W.heap.size W w ∧ ∀ k, d.mine k → W.heap.size ≤ k

theorem since_only {W w w' : World} {F : Nat → Prop} (hw : Below W.heap.size W w) (ho : Only F w w') (hF : ∀ k, F k → W.heap.size ≤ k) : Below W.heap.size W w' :=
  hw.trans ⟨ho.os, ho.tape, ho.output, ho.size, fun k hk => ho.block k (Nat.lt_of_lt_of_le hk hw.size) fun hm => by have := hF k hm; omega⟩

section
variable {W w : World} {pt p : Value} {g : LG}
theorem Log.ok (h : Log W pt p g w) : g.Ok := by obtain ⟨d, _, _, rfl, hi, _⟩ := h; exact hi.ok
theorem Log.since (h : Log W pt p g w) : Below W.heap.size W w := by obtain ⟨d, _, _, _, _, h, _⟩ := h; exact h
theorem Log.keeps {w' : World} (h : Log W pt p g w) (hb : Below w.heap.size w w') : Log W pt p g w' := by
  obtain ⟨d, rfl, rfl, rfl, hi, hw, hn⟩ := h
  exact ⟨d, rfl, rfl, rfl, hi.keeps hb, hw.trans (hb.mono hw.size), hn⟩
theorem Log.drewN (h : Log W pt p g w) (n : Nat) : Log W pt p g (w.drewN n) := h.keeps (below_draw (Below.refl _ _) n)
theorem Log.addr (h : Log W pt p g w) : ∃ B A, p = .pointer (some ⟨B, 0, none⟩) ∧ pt = .pointer (some ⟨A, 0, none⟩) := by
  obtain ⟨d, rfl, rfl, _⟩ := h
  exact ⟨d.B, d.t.A, rfl, rfl⟩
theorem log_turned {d : WV} {F : Nat → Prop} {g' : LG} {a : Value} {e : Ending} {w' : World} (hw : Below W.heap.size W w) (hn : ∀ k, d.mine k → W.heap.size ≤ k) (hF : ∀ k, F k → d.mine k) (h : d.Turned F w g' a e w') : e = .returned a ∧ Log W d.t.ptr d.ptr g' w' := by
  obtain ⟨d', h1, h2, h3, h4, h5, h6, h7⟩ := h
  refine ⟨h1, d', by unfold TV.ptr; rw [h3], by unfold WV.ptr; rw [h2], h4, h5, since_only hw h6 (fun k hk => hn k (hF k hk)), fun k hk => ?_⟩
  rcases h7 k hk with h8 | h8
  · exact hn k h8
  · exact Nat.le_trans hw.size h8
theorem append_log (hT : Tab W) (h : Log W pt p g w) (k : UInt8) (x : List UInt8) (hx : x.length ≤ 30000) (hs : g.st.fin + (21 + x.length) ≤ 100000000) (c : Int) (t : ByteArray) (hc : c = (k.toNat : Int)) (ht : t = tb x) : Calls Tryd.prog 27 #[p, .int .u8 c, .string t] w fun e w' => e = .returned (.tuple #[.int .u64 (((if g.can x then g.last + 1 else 0) : Nat) : Int), .int .i64 (((if g.can x then 0 else 6) : Nat) : Int)]) ∧ Log W pt p (g.append k x) w' := by
  subst hc ht
  obtain ⟨d, rfl, rfl, rfl, hi, hw, hn⟩ := h
  exact (wappend_any d w (hT.keeps hw) k x hi hx hs).mono fun e w' hh => log_turned hw hn (fun _ hk => hk) hh
theorem force_log (h : Log W pt p g w) : Calls Tryd.prog 20 #[p] w fun e w' => e = .returned (.int .i64 0) ∧ Log W pt p g.force w' := by
  obtain ⟨d, rfl, rfl, rfl, hi, hw, hn⟩ := h
  exact (wforce_any d w hi).mono fun e w' hh => log_turned hw hn (fun _ hk => .inl hk) hh
theorem trim_log (h : Log W pt p g w) (n : Nat) (hn64 : n < 18446744073709551616) (c : Int) (hc : c = (n : Int)) : Calls Tryd.prog 21 #[p, .int .u64 c] w fun e w' => e = .returned (.int .i64 (((if n ≤ g.stable + 1 then 0 else 9) : Nat) : Int)) ∧ Log W pt p (g.trim n) w' := by
  subst hc
  obtain ⟨d, rfl, rfl, rfl, hi, hw, hn⟩ := h
  exact (wtrim_any d w n hn64 hi).mono fun e w' hh => log_turned hw hn (fun _ hk => .inl hk) hh
set_option maxRecDepth 100000 in
theorem wtrim_no (d : WV) (w : World) (n : Nat) (hn : d.g.stable + 1 < n) (h : d.In w) : Calls Tryd.prog 21 #[d.ptr, .int .u64 (n : Int)] w fun e w' => e = .returned (.int .i64 9) ∧ w = w' := by
  have HN := Lib.hid (wnone_any d w h)
  have c3 := h.c3
  have hmax := h.ok.max
  have hstb := h.ok.stb
  have hst1 : IntKind.u64.wrap ((d.g.stable : Int) + 1) = (d.g.stable : Int) + 1 := IntWalk.u64_in _ (by omega)
  have hnI : (d.g.stable : Int) + 1 < (n : Int) := by omega
  clear h
  unfold WV.ptr at HN ⊢
  go_enter Tryd.func21, Tryd.ntmps21
  go_wp2_with fail
  refine HN.out.mono ?_
  rintro e w1 ⟨rfl, rfl⟩
  go_wp2
  go_ret
  exact ⟨rfl, rfl⟩
theorem trim_no_log (h : Log W pt p g w) (n : Nat) (hn : g.stable + 1 < n) (c : Int) (hc : c = (n : Int)) : Calls Tryd.prog 21 #[p, .int .u64 c] w fun e w' => e = .returned (.int .i64 9) ∧ w = w' := by
  subst hc
  obtain ⟨d, rfl, rfl, rfl, hi, hw, hn2⟩ := h
  exact wtrim_no d w n hn hi
theorem last_log (h : Log W pt p g w) : Calls Tryd.prog 35 #[p] w fun e w' => e = .returned (.int .u64 (g.last : Int)) ∧ w = w' := by
  obtain ⟨d, rfl, rfl, rfl, hi, hw, hn⟩ := h
  exact wlast_any d w hi
theorem stable_log (h : Log W pt p g w) : Calls Tryd.prog 34 #[p] w fun e w' => e = .returned (.int .u64 (g.stable : Int)) ∧ w = w' := by
  obtain ⟨d, rfl, rfl, rfl, hi, hw, hn⟩ := h
  exact wstable_any d w hi
theorem first_log (h : Log W pt p g w) : Calls Tryd.prog 38 #[p] w fun e w' => e = .returned (.int .u64 (g.first : Int)) ∧ w = w' := by
  obtain ⟨d, rfl, rfl, rfl, hi, hw, hn⟩ := h
  exact wfirst_any d w hi
theorem room_log (h : Log W pt p g w) : Calls Tryd.prog 36 #[p] w fun e w' => e = .returned (.int .i64 ((g.st.room - g.st.l.length : Nat) : Int)) ∧ ∃ n, w' = w.drewN n := by
  obtain ⟨d, rfl, rfl, rfl, hi, hw, hn⟩ := h
  exact wroom_any d w hi
theorem get_log (h : Log W pt p g w) (n : Nat) (hn64 : n < 18446744073709551616) (c : Int) (hc : c = (n : Int)) : Calls Tryd.prog 25 #[p, .int .u64 c] w fun e w' => e = .returned (match g.get n with | some x => .tuple #[entV x, .int .i64 0] | none => .tuple #[entV ⟨0, 0, []⟩, .int .i64 7]) ∧ Below w.heap.size w w' := by
  subst hc
  obtain ⟨d, rfl, rfl, rfl, hi, hw, hn⟩ := h
  exact wget_any d w n hn64 hi
theorem from_log (h : Log W pt p g w) (n : Nat) (hn64 : n < 18446744073709551616) (c : Int) (hc : c = (n : Int)) : Calls Tryd.prog 16 #[p, .int .u64 c] w fun e w' => ∃ (A : Option Addr) (c : Nat), e = .returned (.slice A (g.from_ n).length c) ∧ Ents w' A (g.from_ n) ∧ (g.from_ n).length ≤ c ∧ (∀ k, blk A = some k → w.heap.size ≤ k) ∧ Below w.heap.size w w' := by
  subst hc
  obtain ⟨d, rfl, rfl, rfl, hi, hw, hn⟩ := h
  exact wfrom_any d w n hn64 hi
/-- What Open hands back. -/
def Opened (W : World) (pt : Value) (s : ST) (least : Nat) (e : Ending) (w' : World) : Prop :=
  (opens s least = none ∧ e = .returned (.tuple #[.pointer none, .int .i64 80]) ∧ Tape W pt s w') ∨ ∃ B g, opens s least = some g ∧ e = .returned (.tuple #[.pointer (some ⟨B, 0, none⟩), .int .i64 0]) ∧ Log W pt (.pointer (some ⟨B, 0, none⟩)) g w'
theorem open_log {s : ST} (hT : Tab W) (h : Tape W pt s w) (hs : s.l.length ≤ 30000) (least : Nat) (hl : least < 18446744073709551616) (c : Int) (hc : c = (least : Int)) : Calls Tryd.prog 11 #[pt, .int .u64 c] w (Opened W pt s least) := by
  subst hc
  have hh := h
  obtain ⟨t, rfl, rfl, hi, hw, hn⟩ := h
  refine (wopen_any t least w (hT.keeps hw) hi hs hl).mono fun e w' hr => ?_
  rcases hr with ⟨h1, h2, h3⟩ | ⟨d, h1, h2, h3, h4, h5, h6⟩
  · exact .inl ⟨h1, h2, hh.keeps h3⟩
  · refine .inr ⟨d.B, d.g, h1, h3, d, by unfold TV.ptr; rw [h2], rfl, rfl, h4, since_only hw h5 hn, fun k hk => ?_⟩
    rcases h6 k hk with h7 | h7
    · exact hn k h7
    · exact Nat.le_trans hw.size h7
theorem crash_log (h : Log W pt p g w) (keep : Int) (hk : keep ≤ 9223372036854775807) : Calls Tryd.prog 23 #[pt, .int .i64 keep] w fun e w' => e = .returned (.tuple #[]) ∧ Tape W pt (g.st.crash keep) w' ∧ ∀ (A : Option Addr) l, Ents w A l → (∀ k, blk A = some k → ¬ ∃ d : WV, d.t.ptr = pt ∧ d.In w ∧ d.t.mine k) → Ents w' A l := by
  obtain ⟨d, rfl, rfl, rfl, hi, hw, hn⟩ := h
  refine (crash_any d.t keep w hi.tape hk).mono fun e w' hh => ?_
  have ho : Only d.t.mine w w' := by obtain ⟨_, _, _, _, _, ho, _⟩ := hh; exact ho
  rw [hi.st] at hh
  obtain ⟨h1, h2⟩ := tape_turned hw (fun k hk => hn k (.inl (.inr hk))) hh
  exact ⟨h1, h2, fun A l he hb => he.only ho fun ad ha hk => hb ad.block (by rw [ha]; rfl) ⟨d, rfl, hi, hk⟩⟩
end
end Go.Proofs.YtjahkaockjhibaaDoor

/-
  The head: calls whose answers the document fixes.
-/
namespace Go.Proofs.YtjahkaockjhibaaDoor
open Go.RowKit

def hd1 : LG := (logNew 1000 0).put 3 [97]
def hd2 : LG := hd1.put 3 [98]
def hd4 : LG := hd2.force.put 3 [99]
theorem hd1_len : hd1.st.l.length = 22 := put_len _ _ _
theorem hd2_len : hd2.st.l.length = 44 := by unfold hd2; rw [put_len, hd1_len]; rfl
theorem hd1_base : hd1.st.base = 0 := rfl
theorem can_new : (logNew 1000 0).can [97] := ⟨by decide, by decide, by show 22 ≤ 1000 - 0; omega⟩
theorem can_hd1 : hd1.can [98] := ⟨by decide, by decide, by show 22 ≤ 1000 - hd1.st.l.length; rw [hd1_len]; omega⟩
theorem can_hd2 : hd2.force.can [99] := ⟨by decide, by decide, by show 22 ≤ 1000 - hd2.st.l.length; rw [hd2_len]; omega⟩
theorem fin_hd1 : hd1.st.fin = 22 := by unfold ST.fin; rw [hd1_len]; rfl
theorem fin_hd2 : hd2.force.st.fin = 44 := by show 0 + hd2.st.l.length = 44; rw [hd2_len]
theorem app_new : (logNew 1000 0).append 3 [97] = hd1 := if_pos can_new
theorem app_hd1 : hd1.append 3 [98] = hd2 := if_pos can_hd1
theorem app_hd2 : hd2.force.append 3 [99] = hd4 := if_pos can_hd2
theorem ok_new : (logNew 1000 0).Ok := opens_ok (s := ⟨1000, 0, 0, []⟩) ⟨Nat.le_refl _, Nat.le_refl _, Nat.zero_le _, by decide, by decide⟩ (opens_new 1000 0 (by decide))
theorem ok_hd4 : hd4.Ok := by
  have h1 : hd1.Ok := ok_new.put 3 [97] can_new (by decide)
  have h2 : hd2.Ok := h1.put 3 [98] can_hd1 (by rw [fin_hd1]; decide)
  exact h2.force.put 3 [99] can_hd2 (by rw [fin_hd2]; decide)
theorem head_math : ∃ g5, opens (hd4.st.crash 0) 0 = some g5 ∧ g5.Ok ∧ g5.l = [⟨1, 3, [97]⟩, ⟨2, 3, [98]⟩] ∧ g5.last = 2 ∧ g5.stable = 2 := by
  obtain ⟨g5, h1, h2, h3, h4, h5⟩ := crash_kept_none ok_hd4
  have e : g5.l = [⟨1, 3, [97]⟩, ⟨2, 3, [98]⟩] := h2
  have hok : g5.Ok := opens_ok (ok_hd4.st.crash 0) h1
  have hnum := (hok.num 1 (by rw [e]; decide)).1
  simp only [e, List.getElem_cons_succ, List.getElem_cons_zero, List.length_cons, List.length_nil] at hnum
  have h6 : (2 : Nat) ≤ g5.last := h4
  have h7 : g5.last ≤ 3 := h5
  exact ⟨g5, opens_less h1 (Nat.zero_le _) (by rw [e]; simp), hok, e, by omega, by omega⟩
theorem head_trim {g5 : LG} (hok : g5.Ok) (e : g5.l = [⟨1, 3, [97]⟩, ⟨2, 3, [98]⟩]) (h6 : g5.last = 2) (h7 : g5.stable = 2) :
    g5.get 3 = none ∧ (g5.trim 2).get 2 = some ⟨2, 3, [98]⟩ ∧ (g5.trim 2).first = 2 ∧ (g5.trim 2).last = 2 ∧ (g5.trim 2).stable = 2 := by
  have hb : g5.below 2 = 1 := by rw [hok.below, e, h6]; rfl
  have et : g5.trim 2 = { g5 with st := g5.st.drop (g5.st.base + (logB (g5.l.take (g5.below 2))).length), l := g5.l.drop (g5.below 2) } := if_pos (by omega)
  have el : (g5.trim 2).l = [⟨2, 3, [98]⟩] := by rw [et]; show g5.l.drop (g5.below 2) = _; rw [hb, e]; rfl
  refine ⟨by unfold LG.get; rw [e]; rfl, by unfold LG.get; rw [el]; rfl, by unfold LG.first; rw [el], by rw [et]; exact h6, by rw [et]; exact h7⟩
theorem tape_small {W w : World} {p : Value} {s : ST} (h : Tape W p s w) : s.l.length ≤ s.room := h.ok.lr

set_option maxRecDepth 100000 in
set_option maxHeartbeats 4000000 in
theorem whead_any (w : World) (hT : Tab w) : Calls Tryd.prog 13 #[] w fun e w' => e = .returned (.bool true) ∧ Below w.heap.size w w' := by
  have HT := Lib.hid hT
  have HCO := Lib.hid (fun wx => wcost_any 3 wx (by decide))
  clear hT
  go_enter Tryd.func13, Tryd.ntmps13
  go_wp2_with fail
  refine (new_tape (W := w) 1000 (by omega) (Below.refl _ _)).mono ?_
  rintro e w1 ⟨A, rfl, h1⟩
  have H1 := Lib.hid (show Tape w (.pointer (some ⟨A, 0, none⟩)) ⟨1000, 0, 0, []⟩ w1 from h1)
  clear h1
  obtain ⟨p, hp⟩ : ∃ p, (Value.pointer (some ⟨A, 0, none⟩)) = p := ⟨_, rfl⟩
  rw [hp] at H1 ⊢
  clear hp
  go_wp2_with fail
  refine (open_log HT.out H1.out (by simp) 0 (by decide) 0 rfl).mono ?_
  intro e w2 ho
  obtain ⟨B, hB⟩ : ∃ B, e = .returned (.tuple #[.pointer (some ⟨B, 0, none⟩), .int .i64 0]) ∧ Log w p (.pointer (some ⟨B, 0, none⟩)) (logNew 1000 0) w2 := by
    rcases ho with ⟨h, _⟩ | ⟨B, g, h1, h2, h3⟩
    · rw [opens_new 1000 0 (by decide)] at h; cases h
    · rw [opens_new 1000 0 (by decide)] at h1
      injection h1 with h1
      subst h1
      exact ⟨B, h2, h3⟩
  obtain ⟨rfl, hl⟩ := hB
  have H2 := Lib.hid hl
  clear ho hl H1
  go_wp2_with fail
  refine (append_log HT.out H2.out 3 [97] (by decide) (by decide) 3 _ rfl rfl).mono ?_
  rintro e w3 ⟨rfl, hl⟩
  rw [app_new] at hl
  rw [if_pos can_new, if_pos can_new]
  have H3 := Lib.hid hl
  clear hl H2
  go_wp2_with fail
  refine (append_log HT.out H3.out 3 [98] (by decide) (by rw [fin_hd1]; decide) 3 _ rfl rfl).mono ?_
  rintro e w4 ⟨rfl, hl⟩
  rw [app_hd1] at hl
  rw [if_pos can_hd1, if_pos can_hd1]
  have H4 := Lib.hid hl
  clear hl H3
  go_wp2_with fail
  refine (stable_log H4.out).mono ?_
  rintro e wz ⟨rfl, rfl⟩
  go_wp2_with fail
  refine (force_log H4.out).mono ?_
  rintro e w5 ⟨rfl, hl⟩
  have H5 := Lib.hid hl
  clear hl H4
  go_wp2_with fail
  refine (append_log HT.out H5.out 3 [99] (by decide) (by rw [fin_hd2]; decide) 3 _ rfl rfl).mono ?_
  rintro e w6 ⟨rfl, hl⟩
  rw [app_hd2] at hl
  rw [if_pos can_hd2, if_pos can_hd2]
  have H6 := Lib.hid hl
  clear hl H5
  go_wp2_with fail
  refine (crash_log H6.out 0 (by decide)).mono ?_
  rintro e w7 ⟨rfl, hl, _⟩
  have H7 := Lib.hid hl
  clear hl H6
  go_wp2_with fail
  refine (open_log HT.out H7.out (by have := tape_small H7.out; have e : (hd4.st.crash 0).room = 1000 := rfl; omega) 0 (by decide) 0 rfl).mono ?_
  intro e w8 ho
  obtain ⟨g5, hg5, hok5, hl5, hla5, hst5⟩ := head_math
  obtain ⟨B2, hB⟩ : ∃ B, e = .returned (.tuple #[.pointer (some ⟨B, 0, none⟩), .int .i64 0]) ∧ Log w p (.pointer (some ⟨B, 0, none⟩)) g5 w8 := by
    rcases ho with ⟨h, _⟩ | ⟨B, g, h1, h2, h3⟩
    · rw [hg5] at h; cases h
    · rw [hg5] at h1
      injection h1 with h1
      subst h1
      exact ⟨B, h2, h3⟩
  obtain ⟨t1, t2, t3, t4, t5⟩ := head_trim hok5 hl5 hla5 hst5
  obtain ⟨rfl, hl⟩ := hB
  have H8 := Lib.hid hl
  have HG3 := Lib.hid (get_log H8.out 3 (by decide) 3 rfl)
  rw [t1] at HG3
  clear ho hl H7 hg5 hok5 hl5 hla5 t1
  go_wp2_with fail
  refine HG3.out.mono ?_
  rintro e w9 ⟨rfl, hb9⟩
  have H9 := Lib.hid (H8.out.keeps hb9)
  clear hb9 HG3 H8
  unfold entV
  have hst : 2 ≤ g5.stable + 1 := by omega
  obtain ⟨wa, hwa⟩ : ∃ wa, w9.alloc (.cells #[.int .u64 0, .int .u8 0, .string (tb [])] 48) = wa := ⟨_, rfl⟩
  have HA := Lib.hid (show Log w p (.pointer (some ⟨B2, 0, none⟩)) g5 wa from hwa ▸ H9.out.keeps ((Below.refl _ _).alloc (Nat.le_refl _) _))
  have HTR := Lib.hid (fun wx (h : Log w p (.pointer (some ⟨B2, 0, none⟩)) g5 wx) => trim_log h 2 (by decide) 2 rfl)
  rw [if_pos hst] at HTR
  clear H9
  go_wp2_with fail
  try rw [hwa]
  clear hwa
  refine (HTR.out wa HA.out).mono ?_
  rintro e w10 ⟨rfl, hl⟩
  obtain ⟨g6, hg6⟩ : ∃ g6, g5.trim 2 = g6 := ⟨_, rfl⟩
  rw [hg6] at hl t2 t3 t4 t5
  have H10 := Lib.hid hl
  have HG2 := Lib.hid (get_log H10.out 2 (by decide) 2 rfl)
  rw [t2] at HG2
  clear hl HTR HA hg6 hst t2
  go_wp2_with fail
  refine HG2.out.mono ?_
  rintro e w11 ⟨rfl, hb11⟩
  have H11 := Lib.hid (H10.out.keeps hb11)
  clear hb11 HG2 H10
  unfold entV
  dsimp only
  rw [show tb [98] = (⟨#[98]⟩ : ByteArray) from rfl]
  obtain ⟨wb, hwb⟩ : ∃ wb, w11.alloc (.cells #[.int .u64 2, .int .u8 3, .string ⟨#[98]⟩] 48) = wb := ⟨_, rfl⟩
  have HLB := Lib.hid (show Log w p (.pointer (some ⟨B2, 0, none⟩)) g6 wb from hwb ▸ H11.out.keeps ((Below.refl _ _).alloc (Nat.le_refl _) _))
  have hrow : Row wb w11.heap.size 48 [.int .u64 2, .int .u8 3, .string ⟨#[98]⟩] (0, 0) := hwb ▸ Row.new w11 48 [.int .u64 2, .int .u8 3, .string ⟨#[98]⟩] (0, 0)
  have y1 : wb.cell? ⟨w11.heap.size, 1, none⟩ = some (.int .u8 3) := hrow.cell 1
  have y2 : wb.cell? ⟨w11.heap.size, 2, none⟩ = some (.string ⟨#[98]⟩) := hrow.cell 2
  have hno : g6.stable + 1 < 4 := by omega
  have HNO := Lib.hid (trim_no_log HLB.out 4 hno 4 rfl)
  have HLA := Lib.hid (last_log HLB.out)
  have HFI := Lib.hid (first_log HLB.out)
  rw [t4] at HLA
  rw [t3] at HFI
  have HEND := Lib.hid HLB.out.since
  clear hrow hno t3 t4 t5 HLB H11
  go_wp2_with fail
  try rw [hwb]
  clear hwb
  refine HLA.out.mono ?_
  rintro e wz ⟨rfl, rfl⟩
  go_wp2_with fail
  refine HFI.out.mono ?_
  rintro e wz ⟨rfl, rfl⟩
  go_wp2_with fail
  refine HNO.out.mono ?_
  rintro e wz ⟨rfl, rfl⟩
  go_wp2_with fail
  refine (HCO.out _).mono ?_
  rintro e wz ⟨rfl, rfl⟩
  go_wp2
  go_ret
  exact ⟨rfl, HEND.out⟩
end Go.Proofs.YtjahkaockjhibaaDoor

/-
  A log whose memory lies within a set of blocks: each call turns nothing outside it.
-/
namespace Go.Proofs.YtjahkaockjhibaaDoor
open Go.RowKit

def LogZ (Z : Nat → Prop) (pt p : Value) (g : LG) (w : World) : Prop := ∃ d : WV, d.t.ptr = pt ∧ d.ptr = p ∧ d.g = g ∧ d.In w ∧ ∀ k, d.mine k → Z k
def TapeZ (Z : Nat → Prop) (pt : Value) (s : ST) (w : World) : Prop := ∃ d : TV, d.ptr = pt ∧ d.s = s ∧ d.In w ∧ ∀ k, d.mine k → Z k

section
variable {W w : World} {Z : Nat → Prop} {pt p : Value} {g : LG} {s : ST}
theorem LogZ.ok (h : LogZ Z pt p g w) : g.Ok := by obtain ⟨d, _, _, rfl, hi, _⟩ := h; exact hi.ok
theorem LogZ.keeps {w' : World} (h : LogZ Z pt p g w) (hb : Below w.heap.size w w') : LogZ Z pt p g w' := by
  obtain ⟨d, h1, h2, h3, hi, hm⟩ := h
  exact ⟨d, h1, h2, h3, hi.keeps hb, hm⟩
theorem TapeZ.keeps {w' : World} (h : TapeZ Z pt s w) (hb : Below w.heap.size w w') : TapeZ Z pt s w' := by
  obtain ⟨d, h1, h2, hi, hm⟩ := h
  exact ⟨d, h1, h2, hi.keeps hb, hm⟩
/-- A log that has come since W, at w0; seen at a later world w, it keeps out of what has come in between. -/
theorem Log.between {w0 : World} (h : Log W pt p g w0) (hb : Below w0.heap.size w0 w) : LogZ (fun k => W.heap.size ≤ k ∧ (k < w0.heap.size ∨ w.heap.size ≤ k)) pt p g w := by
  obtain ⟨d, h1, h2, h3, hi, hw, hn⟩ := h
  exact ⟨d, h1, h2, h3, hi.keeps hb, fun k hk => ⟨hn k hk, .inl (hi.mineLt k hk)⟩⟩
theorem between_up {w0 : World} (hw : Below W.heap.size W w0) (hb : Below w0.heap.size w0 w) : ∀ k, w.heap.size ≤ k → (fun k => W.heap.size ≤ k ∧ (k < w0.heap.size ∨ w.heap.size ≤ k)) k := fun k hk => ⟨Nat.le_trans hw.size (Nat.le_trans hb.size hk), .inr hk⟩
theorem ents_between {w0 w' : World} {A : Option Addr} {l : List Ent} (h : Ents w A l) (ho : Only (fun k => W.heap.size ≤ k ∧ (k < w0.heap.size ∨ w.heap.size ≤ k)) w w') (hA : ∀ k, blk A = some k → w0.heap.size ≤ k) : Ents w' A l := ⟨fun i hi => by
  obtain ⟨g, off, rfl, hg, h1, h2, h3⟩ := h.at_ i hi
  have hge := hA g rfl
  have hb : w'.heap[g]? = w.heap[g]? := ho.block g hg (fun hh => by omega)
  have hc : ∀ j, w'.cell? ⟨g, j, none⟩ = w.cell? ⟨g, j, none⟩ := fun j => by unfold World.cell?; simp only [hb]
  exact ⟨g, off, rfl, Nat.lt_of_lt_of_le hg ho.size, (hc _).trans h1, (hc _).trans h2, (hc _).trans h3⟩⟩
theorem turnedZ {d : WV} {F : Nat → Prop} {g' : LG} {a : Value} {e : Ending} {w' : World} (hZ : ∀ k, w.heap.size ≤ k → Z k) (hm : ∀ k, d.mine k → Z k) (hF : ∀ k, F k → d.mine k) (h : d.Turned F w g' a e w') : e = .returned a ∧ LogZ Z d.t.ptr d.ptr g' w' ∧ Only Z w w' := by
  obtain ⟨d', h1, h2, h3, h4, h5, h6, h7⟩ := h
  exact ⟨h1, ⟨d', by unfold TV.ptr; rw [h3], by unfold WV.ptr; rw [h2], h4, h5, fun k hk => (h7 k hk).elim (hm k) (hZ k)⟩, h6.imp fun k _ hk => hm k (hF k hk)⟩
theorem trimZ (hZ : ∀ k, w.heap.size ≤ k → Z k) (h : LogZ Z pt p g w) (n : Nat) (hn64 : n < 18446744073709551616) (c : Int) (hc : c = (n : Int)) : Calls Tryd.prog 21 #[p, .int .u64 c] w fun e w' => e = .returned (.int .i64 (((if n ≤ g.stable + 1 then 0 else 9) : Nat) : Int)) ∧ LogZ Z pt p (g.trim n) w' ∧ Only Z w w' := by
  subst hc
  obtain ⟨d, rfl, rfl, rfl, hi, hm⟩ := h
  exact (wtrim_any d w n hn64 hi).mono fun e w' hh => turnedZ hZ hm (fun _ hk => .inl hk) hh
theorem appendZ (hZ : ∀ k, w.heap.size ≤ k → Z k) (hT : Tab w) (h : LogZ Z pt p g w) (k : UInt8) (x : List UInt8) (hx : x.length ≤ 30000) (hs : g.st.fin + (21 + x.length) ≤ 100000000) (c : Int) (t : ByteArray) (hc : c = (k.toNat : Int)) (ht : t = tb x) : Calls Tryd.prog 27 #[p, .int .u8 c, .string t] w fun e w' => e = .returned (.tuple #[.int .u64 (((if g.can x then g.last + 1 else 0) : Nat) : Int), .int .i64 (((if g.can x then 0 else 6) : Nat) : Int)]) ∧ LogZ Z pt p (g.append k x) w' ∧ Only Z w w' := by
  subst hc ht
  obtain ⟨d, rfl, rfl, rfl, hi, hm⟩ := h
  exact (wappend_any d w hT k x hi hx hs).mono fun e w' hh => turnedZ hZ hm (fun _ hk => hk) hh
theorem lastZ (h : LogZ Z pt p g w) : Calls Tryd.prog 35 #[p] w fun e w' => e = .returned (.int .u64 (g.last : Int)) ∧ w = w' := by
  obtain ⟨d, rfl, rfl, rfl, hi, _⟩ := h
  exact wlast_any d w hi
theorem stableZ (h : LogZ Z pt p g w) : Calls Tryd.prog 34 #[p] w fun e w' => e = .returned (.int .u64 (g.stable : Int)) ∧ w = w' := by
  obtain ⟨d, rfl, rfl, rfl, hi, _⟩ := h
  exact wstable_any d w hi
theorem fromZ (h : LogZ Z pt p g w) (n : Nat) (hn64 : n < 18446744073709551616) (c : Int) (hc : c = (n : Int)) : Calls Tryd.prog 16 #[p, .int .u64 c] w fun e w' => ∃ (A : Option Addr) (c : Nat), e = .returned (.slice A (g.from_ n).length c) ∧ Ents w' A (g.from_ n) ∧ (g.from_ n).length ≤ c ∧ (∀ k, blk A = some k → w.heap.size ≤ k) ∧ Below w.heap.size w w' := by
  subst hc
  obtain ⟨d, rfl, rfl, rfl, hi, _⟩ := h
  exact wfrom_any d w n hn64 hi
theorem crashZ (hZ : ∀ k, w.heap.size ≤ k → Z k) (h : LogZ Z pt p g w) (keep : Int) (hk : keep ≤ 9223372036854775807) : Calls Tryd.prog 23 #[pt, .int .i64 keep] w fun e w' => e = .returned (.tuple #[]) ∧ TapeZ Z pt (g.st.crash keep) w' ∧ Only Z w w' := by
  obtain ⟨d, rfl, rfl, rfl, hi, hm⟩ := h
  refine (crash_any d.t keep w hi.tape hk).mono fun e w' hh => ?_
  rw [hi.st] at hh
  obtain ⟨t', h1, h2, h3, h4, h5, h6⟩ := hh
  exact ⟨h1, ⟨t', by unfold TV.ptr; rw [h2], h3, h4, fun k hk => (h6 k hk).elim (fun hh => hm k (.inl (.inr hh))) (hZ k)⟩, h5.imp fun k _ hk => hm k (.inl (.inr hk))⟩
def OpenedZ (Z : Nat → Prop) (pt : Value) (s : ST) (least : Nat) (w : World) (e : Ending) (w' : World) : Prop :=
  Only Z w w' ∧ ((opens s least = none ∧ e = .returned (.tuple #[.pointer none, .int .i64 80]) ∧ TapeZ Z pt s w') ∨ ∃ B g, opens s least = some g ∧ e = .returned (.tuple #[.pointer (some ⟨B, 0, none⟩), .int .i64 0]) ∧ LogZ Z pt (.pointer (some ⟨B, 0, none⟩)) g w')
theorem openZ (hZ : ∀ k, w.heap.size ≤ k → Z k) (hT : Tab w) (h : TapeZ Z pt s w) (hs : s.l.length ≤ 30000) (least : Nat) (hl : least < 18446744073709551616) (c : Int) (hc : c = (least : Int)) : Calls Tryd.prog 11 #[pt, .int .u64 c] w (OpenedZ Z pt s least w) := by
  subst hc
  have hh := h
  obtain ⟨t, rfl, rfl, hi, hm⟩ := h
  refine (wopen_any t least w hT hi hs hl).mono fun e w' hr => ?_
  rcases hr with ⟨h1, h2, h3⟩ | ⟨d, h1, h2, h3, h4, h5, h6⟩
  · exact ⟨Only.below h3 Z, .inl ⟨h1, h2, hh.keeps h3⟩⟩
  · exact ⟨h5.imp fun k _ hk => hm k hk, .inr ⟨d.B, d.g, h1, h3, d, by unfold TV.ptr; rw [h2], rfl, rfl, h4, fun k hk => (h6 k hk).elim (hm k) (hZ k)⟩⟩
theorem since_between {w0 w' : World} (hw : Below W.heap.size W w) (ho : Only (fun k => W.heap.size ≤ k ∧ (k < w0.heap.size ∨ w.heap.size ≤ k)) w w') : Below W.heap.size W w' := since_only hw ho fun k hk => hk.1
end
end Go.Proofs.YtjahkaockjhibaaDoor
