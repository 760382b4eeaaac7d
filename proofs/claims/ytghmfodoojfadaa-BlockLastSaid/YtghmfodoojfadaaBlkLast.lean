/-
  BlockLast: the walk.
-/
import Derived.Test.YtghmfodoojfadaaBlkAct
namespace Go.Proofs.Ytghmfodoojfadaa
open Go.RowKit

/-- What each of the first blocks reads. -/
def wants (d : DV) : List Value := (List.range 4).map fun b => .string (d.block b)
theorem wants_get (d : DV) (b : Nat) (h : b < 4) : (wants d)[b]? = some (.string (d.block b)) := by
  unfold wants
  rw [List.getElem?_map, List.getElem?_range h]
  rfl
theorem wants_wrote {d : DV} {w : World} (h : d.In w) {b : Nat} (hb : b < d.nb) (h4 : d.nb = 4) (s : ByteArray) (hs : s.size ≤ d.sz) (p : Value) : wants (d.wrote b s p) = (wants d).set b (.string (s ++ (rep 0 d.sz).extract s.size d.sz)) := by
  apply List.ext_getElem?
  intro i
  rw [List.getElem?_set]
  have hl : (wants d).length = 4 := by simp [wants]
  by_cases hi : i < 4
  · rw [wants_get _ _ hi, block_wrote h hb]
    by_cases e : b = i
    · subst e
      rw [if_pos rfl, if_pos rfl, if_pos (by omega), pad_text _ _ hs]
    · rw [if_neg (fun x => e x.symm), if_neg e, wants_get _ _ hi]
  · rw [List.getElem?_eq_none (by simp [wants]; omega)]
    split
    · rw [if_neg (by omega)]
    · rw [List.getElem?_eq_none (by omega)]

/-- What is known ahead of each round. -/
structure Took (W : World) (A0 G k : Nat) (d : DV) (w : World) : Prop where
  since : Since W d w
  ptr : d.ptr = .pointer (some ⟨A0, 0, none⟩)
  nb : d.nb = 4
  ns : d.ns = 3
  pend : d.pend.length ≤ k
  want : Row w G 9 (wants d) (0, 0)
  new : W.heap.size ≤ G

theorem Took.keeps {W w w' : World} {A0 G k : Nat} {d : DV} (h : Took W A0 G k d w) (hb : Below w.heap.size w w') : Took W A0 G k d w' :=
  { h with since := h.since.keeps hb, want := h.want.below hb h.want.lt }
theorem Took.more {W w : World} {A0 G k : Nat} {d : DV} (h : Took W A0 G k d w) : Took W A0 G (k + 1) d w := { h with pend := by have := h.pend; omega }
theorem Since.set {W w : World} {d : DV} (h : Since W d w) {G : Nat} (hG : W.heap.size ≤ G) (hm : ¬ d.mine G) (i : Nat) (u : Value) : Since W d (w.setCell ⟨G, i, none⟩ u) :=
  have ho : Only (· = G) w (w.setCell ⟨G, i, none⟩ u) := Only.setCell (F := (· = G)) (p := ⟨G, i, none⟩) (Only.refl _ w) rfl u
  ⟨h.dev.only ho fun _ hk e => hm (e ▸ hk), h.below.setCell hG u, h.new⟩
/-- Behind a write that was taken; and behind what is wanted then. -/
theorem Took.wrote {W w w' : World} {A0 G k b : Nat} {d : DV} {s : ByteArray} {p : Value} (h : Took W A0 G k d w) (hb : b < d.nb) (hs : s.size ≤ d.sz) (h5 : Since W (d.wrote b s p) w') (ho : Only d.mine w w') :
    (∃ u, w'.cell? ⟨G, b, none⟩ = some u) ∧ w'.frozen? ⟨G, b, none⟩ = false ∧ Took W A0 G (k + 1) (d.wrote b s p) (w'.setCell ⟨G, b, none⟩ (.string (s ++ (rep 0 192).extract s.size 192))).drew := by
  have hG : ¬ d.mine G := h.since.dev.notMine h.want (by decide) (by decide) (by decide)
  have hw : Row w' G 9 (wants d) (0, 0) := h.want.only ho hG
  have hsz : d.sz = 192 := by show d.ns * 64 = _; rw [h.ns]
  have h4 := h.nb
  refine ⟨⟨_, by rw [hw.cell]; exact wants_get d b (by omega)⟩, hw.loose b, ?_⟩
  refine ⟨(h5.set h.new ?_ b _).drew, h.ptr, h.nb, h.ns, ?_, ?_, h.new⟩
  · exact h5.dev.notMine hw (by decide) (by decide) (by decide)
  · show (d.pend ++ [(b, s)]).length ≤ k + 1
    have := h.pend
    simp; omega
  · rw [wants_wrote h.since.dev hb h.nb s hs p, hsz]
    exact (hw.put b _).drew

theorem block_zero {d : DV} (hs : d.ns = 3) (hv : d.vis = List.replicate (4 * (3 * 64)) 0) (b : Nat) (hb : b < 4) : d.block b = rep 0 192 := by
  unfold DV.block rep
  congr 2
  show seg d.vis (b * (d.ns * 64)) (d.ns * 64) = _
  rw [hv, hs]
  unfold seg
  rw [List.drop_replicate, List.take_replicate]
  congr 1
  omega
theorem took_new {W w : World} {d : DV} {A0 : Nat} (h : Since W d w) (hp : d.ptr = .pointer (some ⟨A0, 0, none⟩)) (hn : d.nb = 4) (hs : d.ns = 3) (hv : d.vis = List.replicate (4 * (3 * 64)) 0) (he : d.pend = []) :
    Took W A0 w.heap.size 0 d (w.alloc (.cells #[.string (rep 0 192), .string (rep 0 192), .string (rep 0 192), .string (rep 0 192)] 9)) := by
  refine ⟨h.alloc _, hp, hn, hs, by rw [he]; simp, ?_, h.below.size⟩
  have e : wants d = [.string (rep 0 192), .string (rep 0 192), .string (rep 0 192), .string (rep 0 192)] := by
    show [Value.string (d.block 0), .string (d.block 1), .string (d.block 2), .string (d.block 3)] = _
    rw [block_zero hs hv 0 (by omega), block_zero hs hv 1 (by omega), block_zero hs hv 2 (by omega), block_zero hs hv 3 (by omega)]
  rw [e]
  exact Row.new w 9 [.string (rep 0 192), .string (rep 0 192), .string (rep 0 192), .string (rep 0 192)] (0, 0)

set_option maxRecDepth 100000 in
set_option maxHeartbeats 4000000 in
theorem last_any (LA : Option Addr) (lc : Nat) (l : List ActV) (KA : Option Addr) (kn kc : Nat) (keep : List Nat) (w : World) (hl : Acts w LA l) (hln : l.length ≤ 9223372036854775807) (hk : Old w KA kn keep) :
    Calls Try.prog 8 #[.slice LA l.length lc, .slice KA kn kc] w fun e w' => e = .returned (.bool true) ∧ Below w.heap.size w w' := by
  have HL := Lib.hid hl
  have HK := Lib.hid hk
  have hkb := hk.big
  clear hl hk
  by_cases hg1 : 30 < l.length
  · have g0 : (30 : Int) < l.length := by omega
    go_enter Try.func8, Try.ntmps8
    go_wp2_with fail
    refine (head_any w).mono ?_
    rintro e w1 ⟨rfl, hb⟩
    have HB := Lib.hid hb
    clear hb
    go_wp2
    go_ret
    exact ⟨rfl, HB.out⟩
  have g1 : (l.length : Int) ≤ 30 := by omega
  by_cases hg2 : 60 < kn
  · have g0 : (60 : Int) < kn := by omega
    go_enter Try.func8, Try.ntmps8
    go_wp2_with fail
    refine (head_any w).mono ?_
    rintro e w1 ⟨rfl, hb⟩
    have HB := Lib.hid hb
    clear hb
    go_wp2
    go_ret
    exact ⟨rfl, HB.out⟩
  have g2 : (kn : Int) ≤ 60 := by omega
  clear hg1 hg2
  go_enter Try.func8, Try.ntmps8
  go_wp2_with fail
  refine (new_good 4 3 w (by omega) (by omega)).mono ?_
  intro e w1 hnew
  obtain ⟨d, rfl, hs, e1, e2, e3, e4, e5⟩ := since_new hnew
  obtain ⟨A0, hptr⟩ : ∃ A0, d.ptr = .pointer (some ⟨A0, 0, none⟩) := ⟨d.A, rfl⟩
  have HS := Lib.hid hs
  have HE := Lib.hid (show d.nb = 4 ∧ d.ns = 3 ∧ d.vis = List.replicate (4 * (3 * 64)) 0 ∧ d.pend = [] from ⟨e1, e2, e3, e5⟩)
  have HPT := Lib.hid hptr
  rw [hptr]
  clear hnew hs e1 e2 e3 e4 e5 hptr
  obtain ⟨o9, hmk, hcv⟩ := zeros_made 192 (by omega) 192 rfl
  have hz := rep_size 0 192
  go_wp2_with fail
  clear hmk hcv
  have hsz : (w1.alloc o9).heap.size = w1.heap.size + 1 := by simp
  have HS1 := Lib.hid (HS.out.alloc o9)
  generalize w1.alloc o9 = w2 at *
  obtain ⟨G, hG⟩ : ∃ G, G = w2.heap.size := ⟨_, rfl⟩
  have HT0 := Lib.hid (took_new (A0 := A0) HS1.out HPT.out HE.out.1 HE.out.2.1 HE.out.2.2.1 HE.out.2.2.2)
  rw [← hsz, ← hG]
  rw [← hG] at HT0
  clear hsz hG
  generalize w2.alloc (.cells #[.string (rep 0 192), .string (rep 0 192), .string (rep 0 192), .string (rep 0 192)] 9) = w3 at *
  go_loopw [9, 10] (fun i _ wr => ∃ k : Nat, k ≤ l.length ∧ i = .int .i64 k ∧ ∃ d, Hid (Took w A0 G k d wr)) (fun i _ _ => l.length - (intOf i).toNat)
  case atStart => exact ⟨0, Nat.zero_le _, rfl, d, HT0⟩
  case round =>
    clear HT0 HS1 HPT HE HS
    clear d
    obtain ⟨k, hk, rfl, d, HT⟩ := hrel
    by_cases hlt : k < l.length
    · obtain ⟨g, off, rfl, c0, c1, c2, c3, c4⟩ := HL.out.cells HT.out.since.below hlt
      have HCE := Lib.hid (fun (wx : World) (hb : Below w.heap.size w wx) => HL.out.cells hb hlt)
      have HOK := Lib.hid (HL.out.ok l[k] (List.getElem_mem _))
      obtain ⟨⟨what, B, N, c, KA', kn', kc', keep'⟩, hx⟩ : ∃ x, l[k] = x := ⟨_, rfl⟩
      rw [hx] at c0 c1 c2 c3 c4 HCE HOK
      simp only at c0 c1 c2 c3 c4
      clear hx
      have hkl : (k : Int) < l.length := by omega
      go_wp2_with fail
      refine (text_any what B N c KA' kn' kc' wr).mono ?_
      rintro e w4 ⟨rfl, hb4⟩
      have HSS := Lib.hid (show (textOf N c).size ≤ 300 by rw [textOf_size]; exact many_le N)
      generalize textOf N c = s at *
      have HT4 := Lib.hid (HT.out.keeps hb4)
      obtain ⟨g', off', hA', -, d1, -, -, -⟩ := HCE.out w4 HT4.out.since.below
      simp only [Option.some.injEq, Addr.mk.injEq, and_true] at hA'
      obtain ⟨rfl, rfl⟩ := hA'
      clear hb4 c0 c1 c2 c3 c4 HT
      by_cases hw : 0 ≤ B ∧ B < d.nb ∧ s.size ≤ d.sz
      · obtain ⟨b, rfl⟩ : ∃ b : Nat, B = b := ⟨B.toNat, by omega⟩
        have HKW := Lib.hid (write_since HT4.out.since b s (by omega) hw.2.2 (by have := HT4.out.pend; omega))
        rw [HT4.out.ptr] at HKW
        have b4 : (b : Int) < 4 := by have := HT4.out.nb; omega
        have s192 : (s.size : Int) ≤ 192 := by have h1 := hw.2.2; have h2 : d.sz = d.ns * 64 := rfl; have := HT4.out.ns; omega
        have HW := Lib.hid hw
        clear hw
        go_wp2_with fail
        refine HKW.out.mono ?_
        rintro e w5 ⟨p, rfl, h5, ho5⟩
        have HT5 := Lib.hid (HT4.out.wrote (by have := HW.out; omega) HW.out.2.2 h5 ho5)
        obtain ⟨g', off', hA', -, x1, -, -, -⟩ := HCE.out w5 h5.below
        simp only [Option.some.injEq, Addr.mk.injEq, and_true] at hA'
        obtain ⟨rfl, rfl⟩ := hA'
        clear h5 ho5 HKW d1
        go_wp2_with fail
        obtain ⟨⟨u0, hu0⟩, hfree, htook⟩ := HT5.out
        have HTK := Lib.hid htook
        clear htook HT5
        go_region
        all_goals
          go_wp2_with fail
          go_roundw
          case rel => exact ⟨k + 1, by omega, by go_num, _, HTK⟩
          case measure => simp [intOf]; omega
      · obtain ⟨m, hm, hcw⟩ := write_answer HT4.out.since.dev B s hw
        have HCW := Lib.hid hcw
        rw [HT4.out.ptr] at HCW
        have hm0 : (m == 0) = false := by simpa using hm
        clear hw hcw hm
        go_wp2_with fail
        refine HCW.out.mono ?_
        rintro e w5 ⟨rfl, rfl⟩
        go_wp2
        go_roundw
        case rel => exact ⟨k + 1, by omega, by go_num, d, Lib.hid HT4.out.more⟩
        case measure => simp [intOf]; omega
    · obtain rfl : k = l.length := by omega
      have HSY := Lib.hid (sync_since HT.out.since)
      rw [HT.out.ptr] at HSY
      go_wp2_with fail
      refine HSY.out.mono ?_
      rintro e w5 ⟨rfl, h5, ho5⟩
      have HS5 := Lib.hid h5
      have HW5 := Lib.hid (HT.out.want.only ho5 (HT.out.since.dev.notMine HT.out.want (by decide) (by decide) (by decide)))
      have HCR := Lib.hid (HK.out.crash h5 kc)
      rw [show d.synced.ptr = .pointer (some ⟨A0, 0, none⟩) from HT.out.ptr] at HCR
      clear h5 ho5 HSY
      go_wp2_with fail
      refine HCR.out.mono ?_
      rintro e w6 ⟨rfl, h6, ho6⟩
      have HW6 := Lib.hid (HW5.out.only ho6 (HS5.out.dev.notMine HW5.out (by decide) (by decide) (by decide)))
      obtain ⟨d2, hd2⟩ : ∃ d2, d.synced.crashed keep = d2 := ⟨_, rfl⟩
      rw [hd2] at h6
      have HS6 := Lib.hid h6
      have HP6 := Lib.hid (show d2.ptr = .pointer (some ⟨A0, 0, none⟩) by rw [← hd2]; exact HT.out.ptr)
      have HN6 := Lib.hid (show d2.nb = 4 by rw [← hd2]; exact HT.out.nb)
      have HB6 := Lib.hid (show ∀ b, d2.block b = d.block b from fun b => by rw [← hd2]; exact crashed_clean d.synced keep rfl b)
      clear h6 ho6 hd2 HCR HW5 HS5
      go_wp2_with fail
      go_loopw [11, 12, 13] (fun i _ _ wr => ∃ k : Nat, k ≤ 4 ∧ i = .int .i64 k ∧ Hid (Since w d2 wr) ∧ Hid (Row wr G 9 (wants d) (0, 0))) (fun i _ _ _ => 4 - (intOf i).toNat)
      case atStart => exact ⟨0, by omega, rfl, HS6, HW6⟩
      case round =>
        clear HS6 HW6
        obtain ⟨j, hj, rfl, HS, HW⟩ := hrel
        by_cases hlt : j < 4
        · have HRD := Lib.hid (read_since HS.out (j : Int))
          rw [HP6.out, chk_in d2 j (by rw [HN6.out]; omega), read_block d2 j (by rw [HN6.out]; omega), HB6.out j] at HRD
          have hc : ∀ n, (wr.drewN n).cell? ⟨G, j, none⟩ = some (.string (d.block j)) := fun n => by
            show wr.cell? ⟨G, j, none⟩ = _
            rw [HW.out.cell]; exact wants_get d j hlt
          go_wp2_with fail
          refine HRD.out.mono ?_
          rintro e w7 ⟨rfl, n, rfl⟩
          have hcn := hc n
          have HS7 := Lib.hid (HS.out.drewN n)
          have HW7 := Lib.hid (HW.out.drewN n)
          clear hc HRD
          generalize d.block j = X at *
          go_wp2
          go_roundw
          case rel => exact ⟨j + 1, by omega, by go_num, HS7, HW7⟩
          case measure => simp [intOf]; omega
        · obtain rfl : j = 4 := by omega
          go_wp2_with fail
          refine (head_any wr).mono ?_
          rintro e w9 ⟨rfl, hb⟩
          have HB := Lib.hid (HS.out.below.trans (hb.mono HS.out.below.size))
          clear hb
          go_wp2
          go_ret
          exact ⟨rfl, HB.out⟩

end Go.Proofs.Ytghmfodoojfadaa
