/-
  BlockSectors: the walk.
-/
import Derived.Test.YtghmfodoojfadaaBlkApart
import Derived.Test.YtghmfodoojfadaaBlkSecMath
import Derived.Test.YtghmfodoojfadaaBlkFour
import Derived.BigRegion
import Derived.Test.YtghmfodoojfadaaDraw
namespace Go.Proofs.Ytghmfodoojfadaa
open Go.RowKit

theorem Acts.at_addr {W w : World} {g off : Nat} {l : List ActV} (h : Acts W (some ⟨g, off, none⟩) l) (hb : Below W.heap.size W w) {i : Nat} (hi : i < l.length) {x : ActV} (hx : l[i] = x) :
    w.cell? ⟨g, off + i * 5, none⟩ = some (.int .u8 (x.what : Int)) ∧ w.cell? ⟨g, off + i * 5 + 1, none⟩ = some (.int .i64 x.B) ∧ w.cell? ⟨g, off + i * 5 + 2, none⟩ = some (.int .i64 x.N) ∧
    w.cell? ⟨g, off + i * 5 + 3, none⟩ = some (.int .u8 (x.c : Int)) ∧ w.cell? ⟨g, off + i * 5 + 4, none⟩ = some (.slice x.A x.n x.cap) := by
  obtain ⟨g', off', hA, h0⟩ := h.cells hb hi
  simp only [Option.some.injEq, Addr.mk.injEq, and_true] at hA
  obtain ⟨rfl, rfl⟩ := hA
  rw [hx] at h0
  exact h0

theorem below_more {B : Nat} {a w : World} {o : Obj} (h : Below B a w) (hB : B ≤ a.heap.size) : Below B a (w.alloc o) := h.alloc (Nat.le_trans hB h.size) o

/-- The first blocks' texts. -/
def firsts (d : DV) (k : Nat) : List ByteArray := (List.range k).map d.block
theorem firsts_length (d : DV) (k : Nat) : (firsts d k).length = k := by simp [firsts]
theorem firsts_succ (d : DV) (k : Nat) : firsts d k ++ [d.block k] = firsts d (k + 1) := by simp [firsts, List.range_succ]
theorem firsts_get (d : DV) (k i : Nat) (h : i < (firsts d k).length) : (firsts d k)[i] = d.block i := by simp [firsts]

theorem Acts.at_addr_lt {W : World} {g off : Nat} {l : List ActV} (h : Acts W (some ⟨g, off, none⟩) l) {i : Nat} (hi : i < l.length) : g < W.heap.size := by
  obtain ⟨g', off', hA, hg, _⟩ := h.at_ i hi
  simp only [Option.some.injEq, Addr.mk.injEq, and_true] at hA
  omega

theorem seen_wrote {d : DV} {w : World} (_h : d.In w) (hsz : d.sz = 192) (b : Nat) (s : ByteArray) (p : Value) (hs : s.size ≤ d.sz) :
    seenOf (d.wrote b s p) = fun x => if x = b then seenOf d b ++ [s ++ (rep 0 192).extract s.size 192] else seenOf d x := by
  funext x
  have e : padT d.sz s = s ++ (rep 0 192).extract s.size 192 := by
    rw [hsz] at hs ⊢
    exact pad_text 192 s hs
  show _ :: ((d.pend ++ [(b, s)]).filter fun q => q.1 == x).map (fun q => padT d.sz q.2) = _
  rw [List.filter_append, List.map_append]
  by_cases hx : x = b
  · subst hx
    rw [if_pos rfl, List.filter_cons_of_pos (by simp), ← e]
    rfl
  · rw [if_neg hx, List.filter_cons_of_neg (by simpa using fun e => hx e.symm)]
    simp [seenOf]; rfl
theorem one_owns {w : World} {base g : Nat} {X : ByteArray} (hr : Row w g 9 [.string X] (0, 0)) (hg : base ≤ g) : w.ownsRow base 9 1 (.slice (some ⟨g, 0, none⟩) 1 1) 1 (strs [X]) :=
  ⟨rfl, .inr ⟨g, 1, #[.string X], rfl, hg, hr, Nat.le_refl _, by unfold maxLen; omega, rfl, rfl⟩⟩
theorem seen_start {d : DV} {w9 w : World} {X0 X1 X2 X3 : ByteArray} {g0 g1 g2 g3 G : Nat} (hp : d.pend = []) (hd : d.dur = d.vis) (h0 : d.block 0 = X0) (h1 : d.block 1 = X1) (h2 : d.block 2 = X2) (h3 : d.block 3 = X3)
    (r0 : Row w g0 9 [.string X0] (0, 0)) (r1 : Row w g1 9 [.string X1] (0, 0)) (r2 : Row w g2 9 [.string X2] (0, 0)) (r3 : Row w g3 9 [.string X3] (0, 0))
    (rG : Row w G 63 [.slice (some ⟨g0, 0, none⟩) 1 1, .slice (some ⟨g1, 0, none⟩) 1 1, .slice (some ⟨g2, 0, none⟩) 1 1, .slice (some ⟨g3, 0, none⟩) 1 1] (0, 0))
    (hge : w9.heap.size ≤ g0 ∧ w9.heap.size ≤ g1 ∧ w9.heap.size ≤ g2 ∧ w9.heap.size ≤ g3 ∧ w9.heap.size ≤ G) (hne : g0 ≠ g1 ∧ g0 ≠ g2 ∧ g0 ≠ g3 ∧ g1 ≠ g2 ∧ g1 ≠ g3 ∧ g2 ≠ g3) :
    Seen w9 G (fun b => .slice (some ⟨if b = 0 then g0 else if b = 1 then g1 else if b = 2 then g2 else g3, 0, none⟩) 1 1) (seenOf d) w := by
  refine ⟨rG, hge.2.2.2.2, fun b hb => ?_, fun b _ => ?_, fun a b ha hb hab => ?_⟩
  · rw [seenOf_clean hp hd]
    rcases (show b = 0 ∨ b = 1 ∨ b = 2 ∨ b = 3 by omega) with rfl | rfl | rfl | rfl
    · rw [h0]; exact one_owns r0 hge.1
    · rw [h1]; exact one_owns r1 hge.2.1
    · rw [h2]; exact one_owns r2 hge.2.2.1
    · rw [h3]; exact one_owns r3 hge.2.2.2.1
  · rw [seenOf_clean hp hd]; simp
  · intro e
    have e2 : (if a = 0 then g0 else if a = 1 then g1 else if a = 2 then g2 else g3) = (if b = 0 then g0 else if b = 1 then g1 else if b = 2 then g2 else g3) := by
      injection e
    obtain ⟨n1, n2, n3, n4, n5, n6⟩ := hne
    rcases (show a = 0 ∨ a = 1 ∨ a = 2 ∨ a = 3 by omega) with rfl | rfl | rfl | rfl <;> rcases (show b = 0 ∨ b = 1 ∨ b = 2 ∨ b = 3 by omega) with rfl | rfl | rfl | rfl <;> simp at e2 <;> first | exact hab rfl | omega

theorem Seen.cellGrown {W w w' : World} {G : Nat} {v : Nat → Value} {S : Nat → List ByteArray} (h : Seen W G v S w) {b : Nat} (hb : b < 4) (hg : w.grownBy w' (v b).ownBlock) : w'.cell? ⟨G, b, none⟩ = some (v b) := by
  have hGn : (v b).ownBlock ≠ some G := fun hk => by
    obtain ⟨cs, hr⟩ := h.block hb hk
    exact h.row.ne_ hr (by decide) rfl
  exact (World.cell?_of_block (hg.block G h.row.lt (fun e => hGn e.symm))).trans (h.cellG hb)
theorem Seen.below_far {W w : World} {G : Nat} {v : Nat → Value} {S : Nat → List ByteArray} (h : Seen W G v S w) {b k : Nat} (hb : b < 4) (hk : k < W.heap.size) : ¬ (k = G ∨ (v b).ownBlock = some k) := by
  have h1 := h.new
  rintro (e | e)
  · omega
  · have := ((h.own b hb).lt k e).1
    omega
theorem One.pushed {W W9 w w' : World} {A0 nb ns k G b : Nat} {d : DV} {v : Nat → Value} {S : Nat → List ByteArray} (h : One W A0 nb ns k d w) (hv : Seen W9 G v S w) (h9 : W.heap.size ≤ W9.heap.size) (hb : b < 4)
    (ho : Only (fun k => k = G ∨ (v b).ownBlock = some k) w w') : One W A0 nb ns k d w' :=
  { h with since := ⟨h.since.dev.only ho (fun x hx hF => by
      rcases hF with e | e
      · subst e
        exact h.since.dev.notMine hv.row (by decide) (by decide) (by decide) hx
      · obtain ⟨cs, hr⟩ := hv.block hb e
        exact h.since.dev.notMine hr (by decide) (by decide) (by decide) hx),
    h.since.below.trans (ho.upTo h.since.below.size fun x hx => hv.below_far hb (by omega)), h.since.new⟩ }
/-- A row of texts that grows is none of the device's. -/
theorem since_grown {W w w' : World} {d : DV} {v : Value} {n : Nat} {l : List ByteArray} (h : Since W d w) (hown : w.ownsRow W.heap.size 9 1 v n (strs l)) (hg : w.grownBy w' v.ownBlock) : Since W d w' := by
  have ho : Only (fun k => v.ownBlock = some k) w w' := ⟨hg.os, hg.tape, hg.output, hg.size, fun k hk hn => hg.block k hk (fun e => hn e.symm)⟩
  refine ⟨h.dev.only ho fun k hk hk2 => ?_, h.below.trans (ho.upTo h.below.size fun k hk hk2 => ?_), h.new⟩
  · rcases hown.2 with ⟨e, _⟩ | ⟨g, cap, cur, e, _, hr, _⟩
    · rw [e] at hk2; cases hk2
    · rw [e] at hk2
      injection hk2 with hk2
      subst hk2
      exact h.dev.notMine (show Row w g 9 cur.toList (0, 0) from hr) (by decide) (by decide) (by decide) hk
  · have := (hown.lt k hk2).1
    omega

set_option maxRecDepth 100000 in
set_option maxHeartbeats 8000000 in
theorem sectors_any (LA : Option Addr) (lc : Nat) (l : List ActV) (MA : Option Addr) (mc : Nat) (m : List ActV) (KA : Option Addr) (kn kc : Nat) (keep : List Nat) (w : World) (hl : Acts w LA l) (hln : l.length ≤ 9223372036854775807) (hm : Acts w MA m) (hmn : m.length ≤ 9223372036854775807) (hk : Old w KA kn keep) :
    Calls Try.prog 5 #[.slice LA l.length lc, .slice MA m.length mc, .slice KA kn kc] w fun e w' => e = .returned (.bool true) ∧ Below w.heap.size w w' := by
  have HL := Lib.hid hl
  have HM := Lib.hid hm
  have HK := Lib.hid hk
  have hkb := hk.big
  clear hl hm hk
  by_cases hg1 : 20 < l.length
  · have g0 : (20 : Int) < l.length := by omega
    go_enter Try.func5, Try.ntmps5
    go_wp2_with fail
    refine (head_any w).mono ?_
    rintro e w1 ⟨rfl, hb⟩
    have HB := Lib.hid hb
    clear hb
    go_wp2
    go_ret
    exact ⟨rfl, HB.out⟩
  have g1 : (l.length : Int) ≤ 20 := by omega
  by_cases hg2 : 20 < m.length
  · have g0 : (20 : Int) < m.length := by omega
    go_enter Try.func5, Try.ntmps5
    go_wp2_with fail
    refine (head_any w).mono ?_
    rintro e w1 ⟨rfl, hb⟩
    have HB := Lib.hid hb
    clear hb
    go_wp2
    go_ret
    exact ⟨rfl, HB.out⟩
  have g2 : (m.length : Int) ≤ 20 := by omega
  by_cases hg3 : 60 < kn
  · have g0 : (60 : Int) < kn := by omega
    go_enter Try.func5, Try.ntmps5
    go_wp2_with fail
    refine (head_any w).mono ?_
    rintro e w1 ⟨rfl, hb⟩
    have HB := Lib.hid hb
    clear hb
    go_wp2
    go_ret
    exact ⟨rfl, HB.out⟩
  have g3 : (kn : Int) ≤ 60 := by omega
  clear hg1 hg2 hg3
  go_enter Try.func5, Try.ntmps5
  go_wp2_with fail
  refine (new_good 4 3 w (by omega) (by omega)).mono ?_
  intro e w1 hnew
  obtain ⟨d, rfl, hs, e1, e2, e3, e4, e5⟩ := since_new hnew
  obtain ⟨A0, hptr⟩ : ∃ A0, d.ptr = .pointer (some ⟨A0, 0, none⟩) := ⟨d.A, rfl⟩
  have HO0 := Lib.hid (show One w A0 4 3 0 d w1 from ⟨hs, hptr, e1, e2, by rw [e5]; simp⟩)
  rw [hptr]
  clear hnew hs e1 e2 e3 e4 e5 hptr
  go_wp2_with fail
  go_loopw [9] (fun i wr => ∃ k : Nat, k ≤ l.length ∧ i = .int .i64 k ∧ ∃ d, Hid (One w A0 4 3 k d wr)) (fun i _ => l.length - (intOf i).toNat)
  case atStart => exact ⟨0, by omega, rfl, d, HO0⟩
  case round =>
    clear HO0
    clear d
    obtain ⟨k, hk, rfl, d, HO⟩ := hrel
    by_cases hlt : k < l.length
    · obtain ⟨g, off, rfl, -⟩ := HL.out.at_ k hlt
      obtain ⟨x, hx⟩ : ∃ x, l[k] = x := ⟨_, rfl⟩
      have HCE := Lib.hid (fun (wx : World) (hb : Below w.heap.size w wx) => HL.out.at_addr hb hlt hx)
      obtain ⟨c0, c1, c2, c3, c4⟩ := HCE.out wr.drew HO.out.since.below.drew
      have HTX := Lib.hid (show ∀ wx, Below wr.heap.size wr wx → Calls Try.prog 27 #[.agg #[.int .u8 (x.what : Int), .int .i64 x.B, .int .i64 x.N, .int .u8 (x.c : Int), .slice x.A x.n x.cap]] wx fun e w' => e = .returned (.string (textOf x.N x.c)) ∧ Below wr.heap.size wr w' from
        fun wx hb => (text_any x.what x.B x.N x.c x.A x.n x.cap wx).mono fun e w' hh => ⟨hh.1, hb.trans (hh.2.mono hb.size)⟩)
      have HWR := Lib.hid (show ∀ wx, Below wr.heap.size wr wx → Calls Try.prog 26 #[.pointer (some ⟨A0, 0, none⟩), .int .i64 x.B, .string (textOf x.N x.c)] wx fun e w' => ∃ (m : Int) (d' : DV), e = .returned (.int .i64 m) ∧ Hid (One w A0 4 3 (k + 1) d' w') from
        fun wx hb => by
          have hc := write_moved (HO.out.since.keeps hb) x.B (textOf x.N x.c) (by have := HO.out.pend; omega)
          rw [HO.out.ptr] at hc
          exact hc.mono fun e w' ⟨m, d', he, hm⟩ => ⟨m, d', he, Lib.hid ((HO.out.keeps hb).moved hm.out)⟩)
      have HCF := Lib.hid (show ∀ wx, Below wr.heap.size wr wx → _ from fun wx hb => HCE.out wx (HO.out.since.below.trans (hb.mono HO.out.since.below.size)))
      have hkl : (k : Int) < l.length := by omega
      have hk0 : Below wr.heap.size wr wr.drew := (Below.refl _ wr).drew
      generalize textOf x.N x.c = s at *
      clear hx
      go_wp2_with fail
      go_region_law (first
        | (refine step_calls rfl 27 #[.tmp 69] _ (by rfl) #[.agg #[.int .u8 (x.what : Int), .int .i64 x.B, .int .i64 x.N, .int .u8 (x.c : Int), .slice x.A x.n x.cap]] (by simp [Act.eval]) enters_text (HTX.out _ (by assumption)) ?_; rintro e wa ⟨rfl, hka⟩; obtain ⟨z0, z1, z2, z3, z4⟩ := HCF.out wa hka; refine ⟨_, rfl, ?_⟩)
        | (refine step_calls rfl 26 #[.tmp 60, .tmp 65, .tmp 70] _ (by rfl) #[.pointer (some ⟨A0, 0, none⟩), .int .i64 x.B, .string s] (by simp [Act.eval]) enters_write (HWR.out _ hka) ?_; rintro e wb ⟨mm, d', rfl, hm⟩; refine ⟨_, rfl, ?_⟩))
      all_goals
        go_wp2
        go_roundw
        case rel => exact ⟨k + 1, by omega, by go_num, d', hm⟩
        case measure => simp [intOf]; omega
    · obtain rfl : k = l.length := by omega
      have HSY := Lib.hid (sync_moved HO.out.since)
      rw [HO.out.ptr] at HSY
      go_wp2_with fail
      refine HSY.out.mono ?_
      rintro e w2 ⟨rfl, hm2⟩
      obtain ⟨d1, hd1⟩ : ∃ d1, d.synced = d1 := ⟨_, rfl⟩
      rw [hd1] at hm2
      have HO1 := Lib.hid (HO.out.moved hm2.out)
      have HD1 := Lib.hid (show d1.pend = [] ∧ d1.dur = d1.vis by rw [← hd1]; exact ⟨rfl, rfl⟩)
      clear hm2 hd1 HSY HO
      clear d
      go_wp2_with fail
      have HOW0 := Lib.hid (show w2.ownsRow w.heap.size 9 1 (.slice none 0 0) (firsts d1 0).length (strs (firsts d1 0)) from World.ownsRow_nil _ _ _ _)
      go_loopw [10, 11, 12, 13] (fun v i _ _ wx => ∃ j : Nat, j ≤ 4 ∧ i = .int .i64 j ∧ ∃ (A : Option Addr) (n c : Nat), v = .slice A n c ∧ Hid (Since w d1 wx) ∧ Hid (wx.ownsRow w.heap.size 9 1 (.slice A n c) (firsts d1 j).length (strs (firsts d1 j)))) (fun _ i _ _ _ => 4 - (intOf i).toNat)
      case atStart => exact ⟨0, by omega, rfl, none, 0, 0, rfl, Lib.hid HO1.out.since, HOW0⟩
      case round =>
        clear HOW0
        obtain ⟨j, hj, rfl, A, n, c, rfl, HS, HOW⟩ := hrel
        by_cases hlt : j < 4
        · have hnb := HO1.out.nb
          have HRD := Lib.hid (read_since HS.out (j : Int))
          rw [HO1.out.ptr, chk_in d1 j (by omega), read_block d1 j (by omega)] at HRD
          have hbs : (d1.block j).size = 192 := by rw [block_size HS.out.dev j (by omega)]; show d1.ns * 64 = _; rw [HO1.out.ns]
          have HFS := Lib.hid (firsts_succ d1 j)
          have HFL := Lib.hid (firsts_length d1 j)
          have HFL2 := Lib.hid (firsts_length d1 (j + 1))
          clear hnb
          go_wp2_with fail
          refine HRD.out.mono ?_
          rintro e w3 ⟨rfl, n3, rfl⟩
          have HS3 := Lib.hid (HS.out.drewN n3)
          have HOW3 := Lib.hid (show ((wr.drewN n3).alloc (.cells #[.string (d1.block j)] 9)).ownsRow w.heap.size 9 1 (.slice A n c) (firsts d1 j).length (strs (firsts d1 j)) from ((ownsRow_only HOW.out ((Only.refl (fun _ => False) wr).drewN n3) fun _ _ hf => hf)).alloc _)
          have HCN := Lib.hid (show ((wr.drewN n3).alloc (.cells #[.string (d1.block j)] 9)).cell? ⟨(wr.drewN n3).heap.size, 0, none⟩ = some (.string (d1.block j)) from (Row.new (wr.drewN n3) 9 [.string (d1.block j)] (0, 0)).cell 0)
          have HS4 := Lib.hid (HS3.out.alloc (.cells #[.string (d1.block j)] 9))
          have HBB := Lib.hid (HS4.out.below.size)
          clear HRD HOW HS
          generalize d1.block j = X at *
          generalize wr.drewN n3 = w3 at *
          go_wp2_with (at_builtin; refine wpList_str rfl (.tmp 92) (.tmp 94) rfl w.heap.size (.slice A n c) (firsts d1 j) rfl HOW3.out ⟨w3.heap.size, 0, none⟩ 1 X rfl HCN.out (by have := HFL.out; omega) HBB.out ?_)
          intro g c2 w5 hown hgr hblk
          have HOW5 := Lib.hid (show w5.ownsRow w.heap.size 9 1 (.slice (some ⟨g, 0, none⟩) ((firsts d1 j).length + 1) c2) (firsts d1 (j + 1)).length (strs (firsts d1 (j + 1))) from by
            rw [HFL2.out, ← HFS.out]
            rw [HFL.out] at hown ⊢
            exact hown)
          have HS5 := Lib.hid (since_grown HS4.out HOW3.out hgr)
          clear hown hgr hblk
          go_wp2
          go_roundw
          case rel => exact ⟨j + 1, by omega, by go_num, _, _, _, rfl, HS5, HOW5⟩
          case measure => simp [intOf]; omega
        · obtain rfl : j = 4 := by omega
          obtain ⟨gs, cs, row, hv, -, hgs, hrow, hcell⟩ := owns_row HOW.out (by rw [firsts_length]; omega)
          have hcell4 : ∀ i, i < 4 → row[i]? = some (.string (d1.block i)) := fun i hi => by rw [hcell i (by rw [firsts_length]; exact hi), firsts_get]
          rw [firsts_length] at hv
          simp only [Value.slice.injEq] at hv
          obtain ⟨rfl, rfl, rfl⟩ := hv
          have s0 : wr.cell? ⟨gs, 0, none⟩ = some (.string (d1.block 0)) := by rw [hrow.cell]; exact hcell4 0 (by omega)
          have s1 : wr.cell? ⟨gs, 1, none⟩ = some (.string (d1.block 1)) := by rw [hrow.cell]; exact hcell4 1 (by omega)
          have s2 : wr.cell? ⟨gs, 2, none⟩ = some (.string (d1.block 2)) := by rw [hrow.cell]; exact hcell4 2 (by omega)
          have s3 : wr.cell? ⟨gs, 3, none⟩ = some (.string (d1.block 3)) := by rw [hrow.cell]; exact hcell4 3 (by omega)
          have hgl := hrow.lt
          obtain ⟨o9, hmk, hcv⟩ := zeros_made 192 (by omega) 192 rfl
          have hz := rep_size 0 192
          have hb9 : Below wr.heap.size wr (wr.alloc o9) := (Below.refl _ _).alloc (Nat.le_refl _) _
          have t0 := (hb9.cell (p := ⟨gs, 0, none⟩) hgl).trans s0
          have t1 := (hb9.cell (p := ⟨gs, 1, none⟩) hgl).trans s1
          have t2 := (hb9.cell (p := ⟨gs, 2, none⟩) hgl).trans s2
          have t3 := (hb9.cell (p := ⟨gs, 3, none⟩) hgl).trans s3
          have hgl9 : gs < (wr.alloc o9).heap.size := Nat.lt_of_lt_of_le hgl hb9.size
          have HS9 := Lib.hid (HS.out.keeps hb9)
          have HRS := Lib.hid (hrow.below hb9 hgl)
          have HC4 := Lib.hid hcell4
          clear s0 s1 s2 s3 hrow hcell4 hcell hgl hb9 HOW HS
          go_wp2_with fail
          clear hmk hcv
          generalize wr.alloc o9 = w9 at *
          obtain ⟨X0, hX0⟩ : ∃ X, d1.block 0 = X := ⟨_, rfl⟩
          obtain ⟨X1, hX1⟩ : ∃ X, d1.block 1 = X := ⟨_, rfl⟩
          obtain ⟨X2, hX2⟩ : ∃ X, d1.block 2 = X := ⟨_, rfl⟩
          obtain ⟨X3, hX3⟩ : ∃ X, d1.block 3 = X := ⟨_, rfl⟩
          rw [hX0] at t0
          rw [hX1] at t1
          rw [hX2] at t2
          rw [hX3] at t3
          have HX0 := Lib.hid hX0
          have HX1 := Lib.hid hX1
          have HX2 := Lib.hid hX2
          have HX3 := Lib.hid hX3
          clear hX0 hX1 hX2 hX3
          have hk0 : Below w9.heap.size w9 w9.drew := (Below.refl _ w9).drew
          refine wp_region_noPanic ?_
          refine wp_region_held_drew (S := fun wx => Below w9.heap.size w9 wx) (by kernel_rfl) hk0 (fun _ => ?_)
          refine four_built _ w9 gs c X0 X1 X2 X3 (by rfl) (by simp) hgl9 t0 t1 t2 t3 ?_ hk0 (fun _ _ _ _ _ h => h)
          intro g0 g1 g2 g3 G w10 hb10 r0 r1 r2 r3 rG hge hne
          refine NoPanic.normal ?_
          have HSE := Lib.hid (seen_start (d := d1) HD1.out.1 HD1.out.2 HX0.out HX1.out HX2.out HX3.out r0 r1 r2 r3 rG hge hne)
          have HOS := Lib.hid (show One w A0 4 3 0 d1 w10 from ⟨HS9.out.keeps hb10, HO1.out.ptr, HO1.out.nb, HO1.out.ns, by rw [HD1.out.1]; simp⟩)
          have HRG := Lib.hid (HRS.out.below hb10 hgl9)
          have HLT9 := Lib.hid hgl9
          clear r0 r1 r2 r3 rG hge hne hb10 t0 t1 t2 t3 hgl9 hk0 HX0 HX1 HX2 HX3
          unfold fb
          go_wp2_with fail
          go_loopw [16, 17] (fun i _ wx => ∃ k : Nat, k ≤ m.length ∧ i = .int .i64 k ∧ ∃ (d : DV) (v : Nat → Value), Hid (One w A0 4 3 k d wx) ∧ Hid (d.dur = d1.dur) ∧ Hid (Seen w9 G v (seenOf d) wx) ∧ Hid (Row wx gs 9 row (0, 0))) (fun i _ _ => m.length - (intOf i).toNat)
          case atStart => exact ⟨0, by omega, rfl, d1, _, HOS, Lib.hid rfl, HSE, HRG⟩
          case round =>
            clear HOS HSE HRG HRS
            obtain ⟨k, hk, rfl, d, v, HO, HDU, HV, HRG⟩ := hrel
            by_cases hlt : k < m.length
            · skip
              obtain ⟨g, off, rfl, -⟩ := HM.out.at_ k hlt
              obtain ⟨x, hx⟩ : ∃ x, m[k] = x := ⟨_, rfl⟩
              have HCE := Lib.hid (fun (wx : World) (hb : Below w.heap.size w wx) => HM.out.at_addr hb hlt hx)
              have HLO := Lib.hid (HM.out.at_addr_lt hlt)
              clear hx
              obtain ⟨what, B, N, cc, KA', kn', kc', keep'⟩ := x
              obtain ⟨c0, c1, c2, c3, c4⟩ := HCE.out wr HO.out.since.below
              try simp only at c0 c1 c2 c3 c4
              have hkl : (k : Int) < m.length := by omega
              go_wp2_with fail
              refine (text_any what B N cc KA' kn' kc' wr).mono ?_
              rintro e w4 ⟨rfl, hb4⟩
              have HSS := Lib.hid (show (textOf N cc).size ≤ 300 by rw [textOf_size]; exact many_le N)
              generalize textOf N cc = s at *
              have HO4 := Lib.hid (HO.out.keeps hb4)
              have HV4 := Lib.hid (HV.out.keeps hb4)
              have HRG4 := Lib.hid (HRG.out.below hb4 HRG.out.lt)
              clear c0 c1 c2 c3 c4 hb4
              obtain ⟨-, d1', -, -, -⟩ := HCE.out w4 HO4.out.since.below
              try simp only at d1'
              by_cases hw : 0 ≤ B ∧ B < d.nb ∧ s.size ≤ d.sz
              · obtain ⟨b, rfl⟩ : ∃ b : Nat, B = b := ⟨B.toNat, by omega⟩
                have HKW := Lib.hid (write_since HO4.out.since b s (by omega) hw.2.2 (by have := HO4.out.pend; omega))
                rw [HO4.out.ptr] at HKW
                have b4 : (b : Int) < 4 := by have := HO4.out.nb; omega
                have s192 : (s.size : Int) ≤ 192 := by have h1 := hw.2.2; have h2 : d.sz = d.ns * 64 := rfl; have := HO4.out.ns; omega
                have HW := Lib.hid hw
                clear hw
                go_wp2_with fail
                refine HKW.out.mono ?_
                rintro e w5 ⟨p, rfl, h5, ho5⟩
                have HO5 := Lib.hid (show One w A0 4 3 (k + 1) (d.wrote b s p) w5 from ⟨h5, HO4.out.ptr, HO4.out.nb, HO4.out.ns, by show (d.pend ++ [(b, s)]).length ≤ _; have := HO4.out.pend; simp; omega⟩)
                have HV5 := Lib.hid (HV4.out.dev HO4.out.since.dev ho5)
                have HRG5 := Lib.hid (HRG4.out.only ho5 (HO4.out.since.dev.notMine HRG4.out (by decide) (by decide) (by decide)))
                have HSQ := Lib.hid (seen_wrote HO4.out.since.dev (show d.sz = 192 by show d.ns * 64 = _; rw [HO4.out.ns]) b s p HW.out.2.2)
                obtain ⟨-, x1, -, -, -⟩ := HCE.out w5 h5.below
                try simp only at x1
                clear h5 ho5 HKW d1' HV4 HRG4 HSS
                go_wp2_with fail
                have hsz5 : s.size ≤ 192 := by omega
                have hb4' : b < 4 := by omega
                obtain ⟨X, hX⟩ : ∃ X, s ++ (rep 0 192).extract s.size 192 = X := ⟨_, rfl⟩
                rw [hX] at HSQ
                have hW2 : Below w5.heap.size w5 (w5.alloc (.cells #[.string X] 9)).drew := ((Below.refl _ w5).alloc (Nat.le_refl _) _).drew
                have HV6 := Lib.hid (HV5.out.keeps hW2)
                have HO6 := Lib.hid (HO5.out.keeps hW2)
                have HRG6 := Lib.hid (HRG5.out.below hW2 HRG5.out.lt)
                have HCN := Lib.hid (show (w5.alloc (.cells #[.string X] 9)).cell? ⟨w5.heap.size, 0, none⟩ = some (.string X) from (Row.new w5 9 [.string X] (0, 0)).cell 0)
                have y0 : w5.cell? ⟨g, off + k * 5 + 1, none⟩ = some (.int .i64 (b : Int)) := x1
                have y1 : (w5.alloc (.cells #[.string X] 9)).cell? ⟨g, off + k * 5 + 1, none⟩ = some (.int .i64 (b : Int)) := (hW2.cell (p := ⟨g, off + k * 5 + 1, none⟩) (World.block_lt_of_cell? w5 _ x1)).trans x1
                have z0 : w5.cell? ⟨G, b, none⟩ = some (v b) := HV5.out.cellG hb4'
                have z1 : (w5.alloc (.cells #[.string X] 9)).cell? ⟨G, b, none⟩ = some (v b) := HV6.out.cellG hb4'
                have HSZ6 := Lib.hid (show w9.heap.size ≤ (w5.alloc (.cells #[.string X] 9)).drew.heap.size from Nat.le_trans (Nat.le_trans HV5.out.new (Nat.le_of_lt HV5.out.row.lt)) hW2.size)
                clear hW2
                have HLG := Lib.hid (show g < w9.heap.size from Nat.lt_of_lt_of_le HLO.out HS9.out.below.size)
                have HY := Lib.hid (fun (w6 : World) (hg : (w5.alloc (.cells #[.string X] 9)).drew.grownBy w6 (v b).ownBlock) => show w6.cell? ⟨g, off + k * 5 + 1, none⟩ = some (.int .i64 (b : Int)) from
                  (World.cell?_of_block (hg.block g (World.block_lt_of_cell? _ _ y1) (fun e => by have := ((HV6.out.own b hb4').lt g e.symm).1; have := HLG.out; omega))).trans y1)
                have HSL := Lib.hid (show (seenOf d b).length ≤ 1000000 from by have := HO4.out.pend; have := seenOf_le d b; omega)
                refine wp_region_noPanic ?_
                refine wp_region_sch (fun wx => wx.cell? ⟨g, off + k * 5 + 1, none⟩ = some (.int .i64 (b : Int)) ∧ wx.cell? ⟨G, b, none⟩ = some (v b)) (fun i => [20, 21, 23].contains i)
                  (.takes [0, 1, 2, 3, 4, 5, 6, 7, 8, 9, 10, 11, 12, 13, 14, 15, 16, 17, 18, 19] (.run 20 (.run 21 (.take 22 (.run 23 .done))))) (by kernel_rfl) (fun _ _ _ _ _ h => h) (by kernel_rfl) ?_
                have hHeld : w5.drew.cell? ⟨g, off + k * 5 + 1, none⟩ = some (.int .i64 (b : Int)) ∧ w5.drew.cell? ⟨G, b, none⟩ = some (v b) := ⟨y0, z0⟩
                iterate 20 (
                  refine sch_takes_cons ?_
                  refine sch_take (v := ?_) rfl (by assumption) (by rfl) ?_ ?_
                  rotate_left
                  (focus (intro wy hSy; (try dsimp only at hSy); go_simp; (try with_reducible rfl)))
                  simp only [Act.put, List.setIfInBounds_toArray, List.set_cons_zero, List.set_cons_succ])
                refine sch_takes_nil ?_
                clear hHeld
                refine sch_run rfl (fun K hK => ?_)
                go_simp
                refine hK.out _ _ (fun _ => ⟨y1, z1⟩) ?_
                clear hK K
                refine sch_run rfl (fun K hK => ?_)
                refine step_str rfl (.tmp 167) (.tmp 174) (by rfl) w9.heap.size (v b) (seenOf d b) (by rfl) (HV6.out.own b hb4') ⟨w5.heap.size, 0, none⟩ 1 X (by rfl) HCN.out HSL.out HSZ6.out ?_
                intro ag c3 w6 hown hgr hblk
                obtain ⟨⟨u3, hu3⟩, hf3, hps, hpo⟩ := HV6.out.push hb4' hown hgr hblk
                have hHeld : w6.cell? ⟨g, off + k * 5 + 1, none⟩ = some (.int .i64 (b : Int)) ∧ w6.cell? ⟨G, b, none⟩ = some (v b) := ⟨HY.out w6 hgr, HV6.out.cellGrown hb4' hgr⟩
                refine hK.out _ _ (fun _ => hHeld) ?_
                have HPS := Lib.hid hps
                have HPO := Lib.hid hpo
                clear hK K hown hgr hblk hps hpo
                refine sch_take (v := ?_) rfl (by assumption) (by rfl) ?_ ?_
                rotate_left
                (focus (intro wy hSy; (try dsimp only at hSy); go_simp; (try with_reducible rfl)))
                simp only [Act.put, List.setIfInBounds_toArray, List.set_cons_zero, List.set_cons_succ]
                clear hHeld
                refine sch_last rfl (by kernel_rfl) (fun K hK => ?_)
                go_simp
                refine hK.out _ _ ?_
                clear hK K
                refine sch_done ?_
                refine NoPanic.normal ?_
                go_wp2
                go_roundw
                case rel => exact ⟨k + 1, by omega, by go_num, d.wrote b s p, _, Lib.hid (HO6.out.pushed HV6.out (HS9.out.below.size) hb4' HPO.out), Lib.hid HDU.out, Lib.hid (by rw [HSQ.out]; exact HPS.out), Lib.hid (HRG6.out.only HPO.out (HV6.out.below_far hb4' HLT9.out))⟩
                case measure => simp [intOf]; omega
              · obtain ⟨mm, hm, hcw⟩ := write_answer HO4.out.since.dev B s hw
                have HCW := Lib.hid hcw
                rw [HO4.out.ptr] at HCW
                have hm0 : (mm == 0) = false := by simpa using hm
                clear hw hcw hm
                go_wp2_with fail
                refine HCW.out.mono ?_
                rintro e w5 ⟨rfl, rfl⟩
                go_wp2
                go_roundw
                case rel => exact ⟨k + 1, by omega, by go_num, d, v, Lib.hid ⟨HO4.out.since, HO4.out.ptr, HO4.out.nb, HO4.out.ns, by have := HO4.out.pend; omega⟩, HDU, HV4, HRG4⟩
                case measure => simp [intOf]; omega
            · obtain rfl : k = m.length := by omega
              have HCR := Lib.hid (HK.out.crash HO.out.since kc)
              rw [HO.out.ptr] at HCR
              have HIN := Lib.hid HO.out.since.dev
              have HDV := Lib.hid (show d.dur = d1.vis from HDU.out.trans HD1.out.2)
              go_wp2_with fail
              refine HCR.out.mono ?_
              rintro e w6 ⟨rfl, h6, ho6⟩
              have HV6 := Lib.hid (HV.out.dev HIN.out ho6)
              have HRG6 := Lib.hid (HRG.out.only ho6 (HIN.out.notMine HRG.out (by decide) (by decide) (by decide)))
              obtain ⟨d2, hd2⟩ : ∃ d2, d.crashed keep = d2 := ⟨_, rfl⟩
              rw [hd2] at h6
              have HO6 := Lib.hid (show One w A0 4 3 0 d2 w6 from ⟨h6, by rw [← hd2]; exact HO.out.ptr, by rw [← hd2]; exact HO.out.nb, by rw [← hd2]; exact HO.out.ns, by rw [← hd2]; exact Nat.zero_le _⟩)
              have HFA := Lib.hid (fun (b i : Nat) (hb : b < 4) (hi : i < 3) => show foundIn (seenOf d b) (d2.block b) i (seenOf d b).length = true from by
                rw [← hd2]; exact foundIn_all HIN.out keep (by rw [HO.out.nb]; exact hb) (by rw [HO.out.ns]; exact hi))
              have HOS := Lib.hid (fun (b : Nat) (h1 : (seenOf d b).length = 1) => show d2.block b = d1.block b from by
                rw [← hd2, one_seen HIN.out keep h1, HDV.out]
                show _ = (⟨(seg d1.vis (b * (d1.ns * 64)) (d1.ns * 64)).toArray⟩ : ByteArray)
                rw [HO1.out.ns]
                show (⟨(seg d1.vis (b * (d.ns * 64)) (d.ns * 64)).toArray⟩ : ByteArray) = _
                rw [HO.out.ns])
              have HSS := Lib.hid (fun (b : Nat) (hb : b < 4) => show ∀ x ∈ seenOf d b, x.size = 192 from fun x hx => by
                rw [seen_size HIN.out (by rw [HO.out.nb]; exact hb) x hx]; show d.ns * 64 = _; rw [HO.out.ns])
              have HSL := Lib.hid (fun (b : Nat) => show (seenOf d b).length ≤ 1000000 from by have := seenOf_le d b; have := HO.out.pend; omega)
              have HD2 := Lib.hid (show d2.pend = [] ∧ d2.dur = d2.vis from by rw [← hd2]; exact ⟨rfl, rfl⟩)
              clear h6 ho6 HCR HIN HDV HDU HV HRG HO hd2
              generalize seenOf d = SO at *
              clear d
              go_wp2_with fail
              go_loopw [18, 19, 20, 21, 22, 23] (fun i _ _ _ _ _ wx => ∃ b : Nat, b ≤ 4 ∧ i = .int .i64 b ∧ Hid (One w A0 4 3 0 d2 wx) ∧ Hid (Seen w9 G v SO wx) ∧ Hid (Row wx gs 9 row (0, 0))) (fun i _ _ _ _ _ _ => 4 - (intOf i).toNat)
              case atStart => exact ⟨0, by omega, rfl, HO6, HV6, HRG6⟩
              case round =>
                clear HO6 HV6 HRG6
                obtain ⟨b, hb, rfl, HO, HV, HRG⟩ := hrel
                by_cases hlt : b < 4
                · skip
                  have HRD := Lib.hid (read_since HO.out.since (b : Int))
                  rw [HO.out.ptr, chk_in d2 b (by rw [HO.out.nb]; exact hlt), read_block d2 b (by rw [HO.out.nb]; exact hlt)] at HRD
                  have hbs : (d2.block b).size = 192 := by rw [block_size HO.out.since.dev b (by rw [HO.out.nb]; exact hlt)]; show d2.ns * 64 = _; rw [HO.out.ns]
                  go_wp2_with fail
                  refine HRD.out.mono ?_
                  rintro e w7 ⟨rfl, n7, rfl⟩
                  have HO7 := Lib.hid (HO.out.keeps (w' := wr.drewN n7) ⟨rfl, rfl, rfl, Nat.le_refl _, fun _ _ => rfl⟩)
                  have HV7 := Lib.hid (HV.out.keeps (w' := wr.drewN n7) ⟨rfl, rfl, rfl, Nat.le_refl _, fun _ _ => rfl⟩)
                  have HRG7 := Lib.hid (HRG.out.drewN n7)
                  have HFB := Lib.hid (fun i => HFA.out b i hlt)
                  have HOB := Lib.hid (HOS.out b)
                  clear HRD HO HV HRG
                  generalize d2.block b = t at *
                  generalize wr.drewN n7 = w7 at *
                  have HVB := Lib.hid (owns_row (HV7.out.own b hlt) (HV7.out.pos b hlt))
                  have HCG := Lib.hid (show ∀ n, (w7.drewN n).cell? ⟨G, b, none⟩ = some (v b) from fun n => HV7.out.cellG hlt)
                  have HSB := Lib.hid (HSS.out b hlt)
                  have HLB := Lib.hid (HSL.out b)
                  obtain ⟨gb, cb, cs, hvb, -, -, hrb, hcs⟩ := HVB.out
                  rw [hvb] at HCG
                  have HCB := Lib.hid (show ∀ n (j : Nat) (h : j < (SO b).length), (w7.drewN n).cell? ⟨gb, j, none⟩ = some (.string (SO b)[j]) from fun n j h => (hrb.cell j).trans (hcs j h))
                  clear hvb hrb hcs HVB
                  generalize SO b = l0 at *
                  go_wp2_with fail
                  go_loopw [21, 22, 23] (fun i _ _ wx => ∃ k : Nat, k ≤ 3 ∧ i = .int .i64 k ∧ ∃ n, wx = w7.drewN n) (fun i _ _ _ => 3 - (intOf i).toNat)
                  case atStart => exact ⟨0, by omega, rfl, 0, rfl⟩
                  case round =>
                    obtain ⟨i, hi, rfl, n8, rfl⟩ := hrel
                    by_cases hi3 : i < 3
                    · go_wp2_with fail
                      go_loopw [22, 23] (fun f kk wx => ∃ k : Nat, k ≤ l0.length ∧ kk = .int .i64 k ∧ f = .bool (foundIn l0 t i k) ∧ ∃ n, wx = w7.drewN n) (fun _ kk _ => l0.length - (intOf kk).toNat)
                      case atStart => exact ⟨0, by omega, rfl, by rw [foundIn_zero], n8, rfl⟩
                      case round =>
                        obtain ⟨k, hk, rfl, rfl, n9, rfl⟩ := hrel
                        have hcg := HCG.out n9
                        by_cases hk3 : k < l0.length
                        · have HFS := Lib.hid (foundIn_succ l0 t i k hk3)
                          have hxs := HSB.out l0[k] (List.getElem_mem _)
                          have hcb := HCB.out n9 k hk3
                          obtain ⟨x, hx⟩ : ∃ x, l0[k] = x := ⟨_, rfl⟩
                          rw [hx] at HFS hxs hcb
                          clear hx
                          have hk4 : (k : Int) < l0.length := by omega
                          have hll : (l0.length : Int) ≤ 1000000 := by have := HLB.out; omega
                          have hw1 : IntKind.i64.wrap (64 * (i : Int)) = 64 * (i : Int) := by rw [IntKind.wrap_i64]; omega
                          have hw2 : IntKind.i64.wrap (64 * (i : Int) + 64) = 64 * (i : Int) + 64 := by rw [IntKind.wrap_i64]; omega
                          have hw3 : (0 : Int) ≤ 64 * (i : Int) := by omega
                          have hw4 : (0 : Int) ≤ 64 * (i : Int) + 64 := by omega
                          have hw5 : 64 * (i : Int) + 64 ≤ 192 := by omega
                          have hw6 : 64 * (i : Int) ≤ 64 * (i : Int) + 64 := by omega
                          have hw7 : (64 * (i : Int)).toNat = 64 * i := by omega
                          have hw8 : (64 * (i : Int) + 64).toNat = 64 * i + 64 := by omega
                          generalize foundIn l0 t i k = f0 at *
                          go_wp2_with fail
                          refine wp_region_noPanic ?_
                          refine wp_region_sch (fun wx => wx.cell? ⟨G, b, none⟩ = some (.slice (some ⟨gb, 0, none⟩) l0.length cb) ∧ wx.cell? ⟨gb, k, none⟩ = some (.string x)) (fun _ => false)
                            (.takes [0, 1, 2, 3, 4, 5, 6, 7, 8, 9, 10, 11, 12, 13, 14, 15, 16, 17, 18, 19, 20, 21, 22, 23, 24] .done) (by kernel_rfl) (fun _ _ _ _ _ h => h) (by kernel_rfl) ?_
                          have hHeld : (w7.drewN n9).drew.cell? ⟨G, b, none⟩ = some (.slice (some ⟨gb, 0, none⟩) l0.length cb) ∧ (w7.drewN n9).drew.cell? ⟨gb, k, none⟩ = some (.string x) := ⟨hcg, hcb⟩
                          cases f0
                          all_goals
                            iterate 25 (
                              refine sch_takes_cons ?_
                              first
                                | (refine sch_take (v := ?_) rfl (by assumption) (by rfl) ?_ ?_; rotate_left; (focus (intro wy hSy; (try dsimp only at hSy); go_simp; (try with_reducible rfl))))
                                | (refine sch_pass rfl (by assumption) (by rfl) ?_)
                              simp only [Act.put, List.setIfInBounds_toArray, List.set_cons_zero, List.set_cons_succ])
                            refine sch_takes_nil (sch_done (NoPanic.normal ?_))
                            clear hHeld
                            go_wp2
                            go_roundw
                            case rel => exact ⟨k + 1, by omega, by go_num, by rw [HFS.out]; simp, n9 + 1, rfl⟩
                            case measure => simp [intOf]; omega
                        · obtain rfl : k = l0.length := by omega
                          have hall := HFB.out i hi3
                          rw [hall]
                          go_wp2
                          go_roundw
                          case rel => exact ⟨i + 1, by omega, by go_num, n9, rfl⟩
                          case measure => simp [intOf]; omega
                    · obtain rfl : i = 3 := by omega
                      have hcg := HCG.out n8
                      have hgc : row[b]? = some (.string (d1.block b)) := HC4.out b hlt
                      have hgs : (w7.drewN n8).cell? ⟨gs, b, none⟩ = some (.string (d1.block b)) := (HRG7.out.cell b).trans hgc
                      have hll : (l0.length : Int) ≤ 1000000 := by have := HLB.out; omega
                      have hb4 : (b : Int) < 4 := by omega
                      have hd8 : Below w7.heap.size w7 (w7.drewN n8) := ⟨rfl, rfl, rfl, Nat.le_refl _, fun _ _ => rfl⟩
                      have HO8 := Lib.hid (HO7.out.keeps hd8)
                      have HV8 := Lib.hid (HV7.out.keeps hd8)
                      have HRG8 := Lib.hid (HRG7.out.drewN n8)
                      clear hd8
                      by_cases h1 : l0.length = 1
                      · have ht := HOB.out h1
                        rw [← ht] at hgs
                        have h1' : (l0.length : Int) = 1 := by omega
                        clear ht
                        go_wp2
                        go_roundw
                        case rel => exact ⟨b + 1, by omega, by go_num, HO8, HV8, HRG8⟩
                        case measure => simp [intOf]; omega
                      · have h1' : ¬ (l0.length : Int) = 1 := by omega
                        go_wp2
                        go_roundw
                        case rel => exact ⟨b + 1, by omega, by go_num, HO8, HV8, HRG8⟩
                        case measure => simp [intOf]; omega
                · skip
                  obtain rfl : b = 4 := by omega
                  clear HFA HOS HSS HSL HC4
                  have HCP := Lib.hid (copy_any d2 wr HO.out.since.dev (by have := HO.out.pend; omega))
                  rw [HO.out.ptr] at HCP
                  go_wp2_with fail
                  refine HCP.out.mono ?_
                  rintro e w2 ⟨c, rfl, hcin, hcb, hcm, hc1, hc2, hc3, hc4, hc5⟩
                  obtain ⟨C0, hcp⟩ : ∃ C0, c.ptr = .pointer (some ⟨C0, 0, none⟩) := ⟨c.A, rfl⟩
                  have hsz := HO.out.since.below.size
                  have HT2 := Lib.hid (show Two w d2 c w2 from ⟨HO.out.since.keeps hcb, ⟨hcin, HO.out.since.below.trans (hcb.mono hsz), fun k hk => Nat.le_trans hsz (hcm k hk)⟩, fun k hk hk2 => by
                    have h1 := HO.out.since.dev.mineLt k hk
                    have h2 := hcm k hk2
                    omega⟩)
                  have HCP2 := Lib.hid (show c.ptr = .pointer (some ⟨C0, 0, none⟩) ∧ c.nb = 4 from ⟨hcp, hc1.trans HO.out.nb⟩)
                  obtain ⟨d3, hd3⟩ : ∃ d3, d2.crashed keep = d3 := ⟨_, rfl⟩
                  have HP3 := Lib.hid (show d3.ptr = .pointer (some ⟨A0, 0, none⟩) ∧ d3.nb = 4 ∧ d3.pend.length = 0 from by rw [← hd3]; exact ⟨HO.out.ptr, HO.out.nb, rfl⟩)
                  have HEQ := Lib.hid (show ∀ b, d3.block b = c.block b from fun b => by
                    rw [← hd3, crashed_clean d2 keep HD2.out.1 b, HD2.out.2, ← hc3]
                    show (⟨(seg c.vis (b * (d2.ns * 64)) (d2.ns * 64)).toArray⟩ : ByteArray) = _
                    rw [← hc2]; rfl)
                  have HCR := Lib.hid (crash_moved HK.out HT2.out.sd kc)
                  rw [HO.out.ptr, hd3] at HCR
                  rw [hcp]
                  clear hcin hcb hcm hc1 hc2 hc3 hc4 hc5 hcp hsz HCP HO HV HRG hd3 HD2
                  go_wp2_with fail
                  refine HCR.out.mono ?_
                  rintro e w3 ⟨rfl, hm3⟩
                  have HT3 := Lib.hid (HT2.out.left hm3.out)
                  clear hm3 HT2 HCR
                  go_wp2_with fail
                  go_loopw [25, 26, 27, 28, 29] (fun i _ _ _ _ wx => ∃ b : Nat, b ≤ 4 ∧ i = .int .i64 b ∧ Hid (Two w d3 c wx)) (fun i _ _ _ _ _ => 4 - (intOf i).toNat)
                  case atStart => exact ⟨0, by omega, rfl, HT3⟩
                  case round =>
                    clear HT3
                    obtain ⟨b, hb, rfl, HT⟩ := hrel
                    by_cases hlt : b < 4
                    · have HR1 := Lib.hid (read_since HT.out.sd (b : Int))
                      have HR2 := Lib.hid (fun n => read_since (HT.out.drewN n).sc (b : Int))
                      rw [HP3.out.1, chk_in d3 b (by rw [HP3.out.2.1]; exact hlt), read_block d3 b (by rw [HP3.out.2.1]; exact hlt), HEQ.out b] at HR1
                      rw [HCP2.out.1, chk_in c b (by rw [HCP2.out.2]; exact hlt), read_block c b (by rw [HCP2.out.2]; exact hlt)] at HR2
                      generalize c.block b = t at *
                      have hb4 : (b : Int) < 4 := by omega
                      go_wp2_with fail
                      refine HR1.out.mono ?_
                      rintro e w4 ⟨rfl, n4, rfl⟩
                      go_wp2_with fail
                      refine (HR2.out n4).mono ?_
                      rintro e w5 ⟨rfl, n5, rfl⟩
                      have HT5 := Lib.hid (HT.out.drewN (n4 + n5))
                      clear HR1 HR2 HT
                      go_wp2
                      go_roundw
                      case rel => exact ⟨b + 1, by omega, by go_num, HT5⟩
                      case measure => simp [intOf]; omega
                    · obtain rfl : b = 4 := by omega
                      have HPD := Lib.hid (pending_any d3 wr HT.out.sd.dev.toTop)
                      rw [HP3.out.1, HP3.out.2.2] at HPD
                      go_wp2_with fail
                      refine HPD.out.mono ?_
                      rintro e w4 ⟨rfl, rfl⟩
                      go_wp2_with fail
                      refine (head_any _).mono ?_
                      rintro e w5 ⟨rfl, hb5⟩
                      have HB5 := Lib.hid (HT.out.sd.below.trans (hb5.mono HT.out.sd.below.size))
                      clear hb5
                      go_wp2
                      go_ret
                      exact ⟨rfl, HB5.out⟩

end Go.Proofs.Ytghmfodoojfadaa
