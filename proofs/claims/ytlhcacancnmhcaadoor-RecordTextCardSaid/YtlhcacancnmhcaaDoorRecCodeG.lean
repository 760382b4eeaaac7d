/-
  The walk over package record, part G: Scan.
-/
import Derived.Test.YtlhcacancnmhcaaDoorRecCodeF
import Derived.WalkMore
namespace Go.Proofs.YtlhcacancnmhcaaDoor
open Go.RowKit

theorem Tryd.infoRec : (Tryd.prog.info? 36).map (fun i => (i.zero, i.size, i.bytes)) = some (some (.agg #[.int .u8 0, .string ⟨#[]⟩]), 2, 24) := by kernel_rfl

/-- All records' cells, one behind the other. -/
def recs (l : List Rec) : List Value := l.flatMap recC
theorem recs_length (l : List Rec) : (recs l).length = l.length * 2 := by
  induction l with
  | nil => rfl
  | cons r l ih => unfold recs at ih ⊢; rw [List.flatMap_cons, List.length_append, ih, List.length_cons]; show 2 + l.length * 2 = _; omega
theorem recs_snoc (l : List Rec) (r : Rec) : recs (l ++ [r]) = recs l ++ recC r := by simp [recs]
theorem recs_at : ∀ (l : List Rec) (i : Nat) (h : i < l.length), (recs l)[i * 2]? = some (.int .u8 (l[i].k.toNat : Int)) ∧ (recs l)[i * 2 + 1]? = some (.string (tb l[i].d))
  | [], _, h => absurd h (Nat.not_lt_zero _)
  | r :: l, 0, _ => ⟨rfl, rfl⟩
  | r :: l, i + 1, h => by
    have := recs_at l i (by simpa using h)
    unfold recs at this ⊢
    rw [List.flatMap_cons, List.getElem?_append_right (by show 2 ≤ _; omega), List.getElem?_append_right (by show 2 ≤ _; omega)]
    show (List.flatMap recC l)[(i + 1) * 2 - 2]? = _ ∧ (List.flatMap recC l)[(i + 1) * 2 + 1 - 2]? = _
    rw [show (i + 1) * 2 - 2 = i * 2 by omega, show (i + 1) * 2 + 1 - 2 = i * 2 + 1 by omega]
    exact this
theorem recC_one (r : Rec) : ∀ u ∈ recC r, u.oneCell' = true := by
  intro u hu
  simp only [recC, List.mem_cons, List.not_mem_nil, or_false] at hu
  rcases hu with rfl | rfl <;> rfl

/-- A row of records of the call's own that grows, nil at first. -/
def GrR (w : World) (l : List Rec) (v : Value) (wr : World) : Prop := wr.ownsRow w.heap.size 36 2 v l.length (recs l) ∧ Below w.heap.size w wr
theorem GrR.nil {w wr : World} (h : Below w.heap.size w wr) : GrR w [] (.slice none 0 0) wr := ⟨World.ownsRow_nil _ _ _ _, h⟩
section
variable {w wr w1 w2 : World} {l : List Rec} {r : Rec} {v v' : Value}
theorem GrR.keeps (h : GrR w l v wr) (hb : Below wr.heap.size wr w1) : GrR w l v w1 := by
  refine ⟨⟨h.1.1, ?_⟩, h.2.trans (hb.mono h.2.size)⟩
  rcases h.1.2 with h0 | ⟨k, cap, cur, rfl, h1, hk, rest⟩
  · exact .inl h0
  · exact .inr ⟨k, cap, cur, rfl, h1, Row.below (cs := cur.toList) hk hb (Row.lt (cs := cur.toList) hk), rest⟩
theorem GrR.alloc (h : GrR w l v wr) (o : Obj) : GrR w l v (wr.alloc o) := h.keeps ((Below.refl _ _).alloc (Nat.le_refl _) _)
theorem GrR.drewN (h : GrR w l v wr) (n : Nat) : GrR w l v (wr.drewN n) := h.keeps (below_draw (Below.refl _ _) n)
theorem GrR.more (h : GrR w l v w1) (ho : w2.ownsRow w.heap.size 36 2 v' (l.length + 1) (recs l ++ recC r)) (hg : w1.grownBy w2 v.ownBlock) : GrR w (l ++ [r]) v' w2 := by
  refine ⟨by rw [recs_snoc, List.length_append]; exact ho, Below.grown h.2 hg h.2.size (fun g hg2 => (h.1.lt g hg2).1)⟩
theorem GrR.reads (h : GrR w l v w1) : ∃ A c, v = .slice A l.length c ∧ l.length ≤ c ∧ (A = none → c = 0) ∧ Recs w1 A l := by
  rcases h.1.2 with ⟨rfl, h0⟩ | ⟨k, cap, cur, rfl, h1, hk, hc, _, _, ht⟩
  · have : l = [] := List.eq_nil_of_length_eq_zero h0
    subst this
    exact ⟨none, 0, rfl, Nat.le_refl _, fun _ => rfl, Recs.nil⟩
  · have hrow : Row w1 k 36 cur.toList (0, 0) := hk
    refine ⟨some ⟨k, 0, none⟩, cap, rfl, hc, fun e => (by cases e), ⟨fun i hi => ⟨k, 0, rfl, hrow.lt, ?_, ?_⟩⟩⟩
    · rw [hrow.cell, Nat.zero_add, ← (recs_at l i hi).1, ← ht, List.getElem?_take, if_pos (by omega)]
    · rw [hrow.cell, Nat.zero_add, ← (recs_at l i hi).2, ← ht, List.getElem?_take, if_pos (by omega)]
end

theorem GrR.recs {w w1 : World} {l : List Rec} {A : Option Addr} {c : Nat} (h : GrR w l (.slice A l.length c) w1) : Recs w1 A l := by
  obtain ⟨A', c', hv, _, _, hr⟩ := h.reads
  injection hv with hA
  exact hA ▸ hr

/-- What a scan gives back, in memory of its own. -/
def ScanN (w : World) (l : List Rec) (n x : Nat) (e : Ending) (w' : World) : Prop :=
  ∃ A c, e = .returned (.tuple #[.slice A l.length c, .int .i64 (n : Int), .int .u8 (x : Int)]) ∧ l.length ≤ c ∧ (A = none → c = 0) ∧ Recs w' A l ∧ Below w.heap.size w w' ∧ ∀ ad, A = some ad → w.heap.size ≤ ad.block
theorem GrR.fresh {w w1 : World} {l : List Rec} {A : Option Addr} {n c : Nat} (h : GrR w l (.slice A n c) w1) : ∀ ad, A = some ad → w.heap.size ≤ ad.block := by
  intro ad ha
  subst ha
  exact (h.1.lt ad.block rfl).1

theorem new_rec (w : World) (t : TypeId) (r : Rec) : ∀ j u, (recC r)[j]? = some u → (w.alloc (.cells (recC r).toArray t)).cell? ((⟨w.heap.size, 0, none⟩ : Addr).add j) = some u := by
  intro j u hu
  have hr : Row (w.alloc (.cells (recC r).toArray t)) w.heap.size t (recC r) (0, 0) := Row.new w t (recC r) (0, 0)
  rw [Addr.add_lit, hr.cell, Nat.zero_add, hu]

/-- One more onto them, at the operation. -/
theorem wpList_rec {ops : Array Oper} {rest : List Oper} {o : Oper} {a : Act} {Q : Exit → Act → World → Prop} {w w1 : World} {l : List Rec} (r : Rec) {v : Value} (hgd : o.guard = none) (s x : Operand)
    (ho : o.op = .call { callee := .builtin .append, args := #[s, x], argTypes := #[22, 22] }) (hs : a.eval s = v) (hg : GrR w l v w1) (ad : Addr) (c : Nat) (hx : a.eval x = .slice (some ad) 1 c) (hr : ∀ j u, (recC r)[j]? = some u → w1.cell? (ad.add j) = some u)
    (hle : l.length ≤ 1000000) (h : ∀ v' w2, GrR w (l ++ [r]) v' w2 → wpList Tryd.prog ops Q rest (a.put o.dst v') w2) : wpList Tryd.prog ops Q (o :: rest) a w1 := by
  obtain ⟨i0, hi0, hz0, hz1, hz2⟩ := info_parts Tryd.infoRec
  exact wpList_append_own_at w1 hgd s x 22 ho w.heap.size 36 i0 _ 2 24 Tryd.underlying22 hi0 hz0 hz1 hz2 rfl (by decide) v l.length (recs l) hs hg.1 ad 1 c (recC r) hx rfl hr (recC_one r) (by unfold maxLen; omega) (by omega) hg.2.size
    (fun v' w2 h1 h2 _ _ => h v' w2 (hg.more h1 h2))

theorem look_pos {b : List UInt8} {r : Rec} (h : lookR b = .told r) : 13 + r.d.length ≤ b.length := (look_rec h).1

set_option maxRecDepth 100000 in
set_option maxHeartbeats 2000000 in
theorem scan_new (b : List UInt8) (w : World) (hT : Tab w) (hmax : b.length ≤ 1000000) : Calls Tryd.prog 12 #[.string (tb b)] w (ScanN w (scan b).1 (scan b).2.1 (scan b).2.2) := by
  have HT := Lib.hid hT
  have HMX := Lib.hid hmax
  have HR := Lib.hid (fun wx (h : Below w.heap.size w wx) k => read_any (b.drop k) wx (hT.keeps h) (by rw [List.length_drop]; omega))
  have HX := Lib.hid (fun k => show (tb b).extract k b.length = tb (b.drop k) by rw [tb_cut, List.take_length])
  have hsz : (tb b).size = b.length := tb_size _
  have HEND := Lib.hid (show ∀ (A : Option Addr) (l : List Rec) (c n x : Nat) (w' : World), scan b = (l, n, x) → l.length ≤ c → (A = none → c = 0) → Recs w' A l → Below w.heap.size w w' → (∀ ad, A = some ad → w.heap.size ≤ ad.block) → ScanN w (scan b).1 (scan b).2.1 (scan b).2.2 (.returned (.tuple #[.slice A l.length c, .int .i64 (n : Int), .int .u8 (x : Int)])) w' from
    fun A l c n x w' h1 h2 h3 h4 h5 h6 => by rw [h1]; exact ⟨A, c, rfl, h2, h3, h4, h5, h6⟩)
  generalize ScanN w (scan b).1 (scan b).2.1 (scan b).2.2 = Q at *
  clear hT
  go_enter Tryd.func12, Tryd.ntmps12
  go_wp2_with fail
  go_step3
  go_wp2_with fail
  go_step3
  go_wp2_with fail
  go_loopw [5, 6, 7] (fun v st i wr => ∃ (l : List Rec) (k : Nat) (u : Value), k ≤ b.length ∧ st = .int .u8 0 ∧ u = v ∧ i = .int .i64 k ∧ l.length ≤ k ∧ scan b = (l ++ (scan (b.drop k)).1, k + (scan (b.drop k)).2.1, (scan (b.drop k)).2.2) ∧ GrR w l u wr) (fun _ _ i _ => b.length - (intOf i).toNat)
  case atStart => exact ⟨[], 0, _, by omega, rfl, rfl, rfl, by simp, by simp, GrR.nil (Below.refl _ _)⟩
  case round =>
    obtain ⟨l, k, v, hk, rfl, rfl, rfl, hlk, hsc, hg⟩ := hrel
    have HG := Lib.hid hg
    have HSC := Lib.hid hsc
    have HRK := Lib.hid (HR.out wr hg.2 k)
    have hXk := HX.out k
    have hkI : (k : Int) ≤ (b.length : Int) := by omega
    have HLD := Lib.hid (List.length_drop (i := k) (l := b))
    unfold ReadV at HRK
    generalize hx : b.drop k = x at *
    have HX2 := Lib.hid hx
    clear hx hg hsc
    obtain ⟨A, c, rfl, hc, hA, hrd⟩ := HG.out.reads
    have HC := Lib.hid (And.intro hc hA)
    clear hc hA hrd
    cases hlook : lookR x with
    | whole =>
      rw [hlook] at HRK
      have HS := Lib.hid (show scan b = (l, k, 0) by rw [HSC.out, scan_of_whole hlook]; simp)
      simp only [lkRec, lkN, lkF, recV] at HRK
      clear hlook HSC
      go_wp2_with fail
      refine HRK.out.mono ?_
      rintro e w1 ⟨rfl, hb1⟩
      have HG1 := Lib.hid ((HG.out.keeps hb1).alloc (.cells #[.int .u8 0, .string (tb [])] 36))
      clear hb1 HRK HG
      go_wp2
      rw [Exit.noGoto_ret]
      refine bodyPost_ret (v := .tuple #[.slice A l.length c, .int .i64 (k : Int), .int .u8 0]) (by simp [results, Tryd.results12, go_sem]) rfl ?_
      exact HEND.out _ _ _ _ _ _ HS.out HC.out.1 HC.out.2 HG1.out.recs HG1.out.2 HG1.out.fresh
    | torn =>
      rw [hlook] at HRK
      have HS := Lib.hid (show scan b = (l, k, 1) by rw [HSC.out, scan_of_torn hlook]; simp)
      simp only [lkRec, lkN, lkF, recV] at HRK
      clear hlook HSC
      go_wp2_with fail
      refine HRK.out.mono ?_
      rintro e w1 ⟨rfl, hb1⟩
      have HG1 := Lib.hid ((HG.out.keeps hb1).alloc (.cells #[.int .u8 0, .string (tb [])] 36))
      clear hb1 HRK HG
      go_wp2
      rw [Exit.noGoto_ret]
      refine bodyPost_ret (v := .tuple #[.slice A l.length c, .int .i64 (k : Int), .int .u8 1]) (by simp [results, Tryd.results12, go_sem]) rfl ?_
      exact HEND.out _ _ _ _ _ _ HS.out HC.out.1 HC.out.2 HG1.out.recs HG1.out.2 HG1.out.fresh
    | bad =>
      rw [hlook] at HRK
      have HS := Lib.hid (show scan b = (l, k, 2) by rw [HSC.out, scan_of_bad hlook]; simp)
      simp only [lkRec, lkN, lkF, recV] at HRK
      clear hlook HSC
      go_wp2_with fail
      refine HRK.out.mono ?_
      rintro e w1 ⟨rfl, hb1⟩
      have HG1 := Lib.hid ((HG.out.keeps hb1).alloc (.cells #[.int .u8 0, .string (tb [])] 36))
      clear hb1 HRK HG
      go_wp2
      rw [Exit.noGoto_ret]
      refine bodyPost_ret (v := .tuple #[.slice A l.length c, .int .i64 (k : Int), .int .u8 2]) (by simp [results, Tryd.results12, go_sem]) rfl ?_
      exact HEND.out _ _ _ _ _ _ HS.out HC.out.1 HC.out.2 HG1.out.recs HG1.out.2 HG1.out.fresh
    | told r =>
      rw [hlook] at HRK
      have HP := Lib.hid (look_pos hlook)
      have hpos := HP.out
      have HS := Lib.hid (show scan b = ((l ++ [r]) ++ (scan (b.drop (k + (13 + r.d.length)))).1, (k + (13 + r.d.length)) + (scan (b.drop (k + (13 + r.d.length)))).2.1, (scan (b.drop (k + (13 + r.d.length)))).2.2) by
        rw [HSC.out, scan_of_rec hlook, ← HX2.out, List.drop_drop]
        simp only [List.append_assoc, List.singleton_append, Prod.mk.injEq, true_and, and_true]
        omega)
      simp only [lkRec, lkN, lkF, recV] at HRK
      obtain ⟨d, hd⟩ : ∃ d, 13 + r.d.length = d := ⟨_, rfl⟩
      rw [hd] at HRK HS hpos
      have hd13 : 13 ≤ d := by omega
      obtain ⟨k2, hk2⟩ : ∃ k2, k + d = k2 := ⟨_, rfl⟩
      have hkd : (k : Int) + (d : Int) = (k2 : Int) := by omega
      have hw2 : IntKind.i64.wrap (k2 : Int) = (k2 : Int) := IntWalk.i64_in _ (by have := HLD.out; have := HMX.out; omega)
      rw [hk2] at HS
      clear hlook HSC hd
      go_wp2_with fail
      refine HRK.out.mono ?_
      rintro e w1 ⟨rfl, hb1⟩
      have HG1 := Lib.hid (HG.out.keeps hb1)
      obtain ⟨o1, ho1⟩ : ∃ o1, w1.alloc (.cells #[.int .u8 (r.k.toNat : Int), .string (tb r.d)] 36) = o1 := ⟨_, rfl⟩
      have HG2 := Lib.hid (show GrR w l (.slice A l.length c) o1 from ho1 ▸ HG1.out.alloc _)
      have hrow : Row o1 w1.heap.size 36 (recC r) (0, 0) := ho1 ▸ Row.new w1 36 (recC r) (0, 0)
      have c0 : o1.cell? ⟨w1.heap.size, 0, none⟩ = some (.int .u8 (r.k.toNat : Int)) := by rw [hrow.cell]; rfl
      have c1 : o1.cell? ⟨w1.heap.size, 1, none⟩ = some (.string (tb r.d)) := by rw [hrow.cell]; rfl
      have HG3 := Lib.hid (HG2.out.alloc (.cells (recC r).toArray 36))
      have HN := Lib.hid (new_rec o1 36 r)
      have hll : l.length ≤ 1000000 := by have := HMX.out; omega
      clear hb1 HRK HG hrow
      go_wp2_with (at_builtin; refine wpList_rec r rfl (.tmp 22) (.tmp 24) rfl rfl HG3.out ⟨o1.heap.size, 0, none⟩ 1 rfl HN.out hll ?_)
      intro v5 w5 hg5
      have HG5 := Lib.hid hg5
      clear hg5 HG1 HG2 HG3 HN c0 c1
      go_wp2
      go_roundw
      case rel => exact ⟨l ++ [r], k2, _, by have := HLD.out; omega, rfl, rfl, by go_num, by simp; omega, HS.out, HG5.out⟩
      case measure => have := HLD.out; simp [intOf]; omega
theorem scan_any (b : List UInt8) (w : World) (hT : Tab w) (hmax : b.length ≤ 1000000) : Calls Tryd.prog 12 #[.string (tb b)] w (ScanV w (scan b).1 (scan b).2.1 (scan b).2.2) :=
  (scan_new b w hT hmax).mono fun _ _ ⟨A, c, h1, h2, h3, h4, h5, _⟩ => ⟨A, c, h1, h2, h3, h4, h5⟩
end Go.Proofs.YtlhcacancnmhcaaDoor
