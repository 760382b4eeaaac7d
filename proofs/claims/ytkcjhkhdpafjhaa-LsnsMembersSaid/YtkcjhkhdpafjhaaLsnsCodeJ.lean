/-
  The walk over package lsns: Join, over a contract of slices.Sort where both sets have one low number.
-/
import Derived.Test.YtkcjhkhdpafjhaaLsnsCodeC
import Derived.Test.YtkcjhkhdpafjhaaLsnsLaw
namespace Go.Proofs.Ytkcjhkhdpafjhaa
open Go.RowKit

theorem asc_nodup : ∀ {lo : Nat} {l : List Nat}, asc lo l = true → l.Nodup
  | _, [], _ => List.nodup_nil
  | lo, x :: l, h => by
    rw [asc_cons] at h
    refine List.nodup_cons.2 ⟨fun hx => ?_, asc_nodup h.2⟩
    have := asc_mem h.2 x hx
    omega
theorem sorted_asc : ∀ {lo : Nat} {l : List Nat}, l.Pairwise (· ≤ ·) → l.Nodup → (∀ x ∈ l, lo < x) → asc lo l = true
  | _, [], _, _, _ => rfl
  | lo, x :: l, h, hn, hm => by
    rw [List.pairwise_cons] at h
    rw [List.nodup_cons] at hn
    rw [asc_cons]
    refine ⟨hm x (by simp), sorted_asc h.2 hn.2 fun y hy => ?_⟩
    have := h.1 y hy
    have : x ≠ y := fun e => hn.1 (e ▸ hy)
    omega
/-- What is missing in a, of b. -/
def lacks (low : Nat) (a b : List Nat) : List Nat := b.filter fun y => !(decide (y ≤ low) || a.contains y)
theorem lacks_perm {low : Nat} {a b : List Nat} (ha : asc low a = true) (hb : asc low b = true) : (lacks low a b ++ a).Perm (joinL a b) := by
  have hj := asc_joinL ha (asc_mem hb)
  have hmem : ∀ x, x ∈ lacks low a b ↔ x ∈ b ∧ x ∉ a := fun x => by
    unfold lacks
    rw [List.mem_filter, Bool.not_eq_true', Bool.or_eq_false_iff, decide_eq_false_iff_not]
    constructor
    · rintro ⟨h1, _, h2⟩
      exact ⟨h1, fun k => by rw [List.contains_iff_mem.2 k] at h2; cases h2⟩
    · rintro ⟨h1, h2⟩
      have := asc_mem hb x h1
      exact ⟨h1, by omega, by rw [Bool.eq_false_iff, ne_eq, List.contains_iff_mem]; exact h2⟩
  refine (List.perm_ext_iff_of_nodup ?_ (asc_nodup hj)).2 fun x => ?_
  · refine List.nodup_append.2 ⟨(asc_nodup hb).filter _, asc_nodup ha, fun x hx y hy e => ?_⟩
    subst e
    exact ((hmem x).1 hx).2 hy
  · rw [List.mem_append, hmem, mem_joinL]
    constructor
    · rintro (h | h)
      · exact .inr h.1
      · exact .inl h
    · rintro (h | h)
      · exact .inr h
      · by_cases k : x ∈ a
        · exact .inr k
        · exact .inl ⟨h, k⟩
theorem sorted_join {low : Nat} {a b l : List Nat} (ha : asc low a = true) (hb : asc low b = true) (hp : l.Perm (lacks low a b ++ a)) (hs : l.Pairwise (· ≤ ·)) : l = joinL a b := by
  have hj := asc_joinL ha (asc_mem hb)
  have h := hp.trans (lacks_perm ha hb)
  exact asc_ext (sorted_asc hs (h.nodup_iff.2 (asc_nodup hj)) fun x hx => asc_mem hj x (h.mem_iff.1 hx)) hj fun x => h.mem_iff

/-- What slices.Sort is held to, of numbers in memory of the call's own. -/
def SortC : Prop := ∀ (w w1 : World) (l : List Nat) (v : Value), Made w l v w1 → l.length ≤ 1000 →
  Calls Try.prog 39 #[v] w1 fun r w' => r = .returned (.tuple #[]) ∧ ∃ l', l'.Perm l ∧ l'.Pairwise (· ≤ ·) ∧ Made w l' v w' ∧ w1.grownBy w' v.ownBlock

/-- In the midst of Join: its sets lie in the first two blocks, its result's cells in the third. -/
structure MidJ (w : World) (low : Nat) (A : Option Addr) (n c : Nat) (low2 : Nat) (A2 : Option Addr) (n2 c2 : Nat) (u1 u2 : Value) (l : List Nat) (v : Value) (wr : World) : Prop where
  made : Made w l v wr
  arg : LiesS wr w.heap.size low A n c
  arg2 : LiesS wr (w.heap.size + 1) low2 A2 n2 c2
  res : Row wr (w.heap.size + 2) 25 [u1, u2] (0, 0)

section
variable {w wr w' : World} {low low2 : Nat} {A A2 : Option Addr} {n c n2 c2 : Nat} {u1 u2 v v' : Value} {l l' : List Nat} {m : Nat}
theorem MidJ.c0 (h : MidJ w low A n c low2 A2 n2 c2 u1 u2 l v wr) : wr.cell? ⟨w.heap.size, 0, none⟩ = some (.int .u64 (low : Int)) := h.arg.c0
theorem MidJ.c1 (h : MidJ w low A n c low2 A2 n2 c2 u1 u2 l v wr) : wr.cell? ⟨w.heap.size, 1, none⟩ = some (.slice A n c) := h.arg.c1
theorem MidJ.d0 (h : MidJ w low A n c low2 A2 n2 c2 u1 u2 l v wr) : wr.cell? ⟨w.heap.size + 1, 0, none⟩ = some (.int .u64 (low2 : Int)) := h.arg2.c0
theorem MidJ.d1 (h : MidJ w low A n c low2 A2 n2 c2 u1 u2 l v wr) : wr.cell? ⟨w.heap.size + 1, 1, none⟩ = some (.slice A2 n2 c2) := h.arg2.c1
theorem MidJ.r0 (h : MidJ w low A n c low2 A2 n2 c2 u1 u2 l v wr) : wr.cell? ⟨w.heap.size + 2, 0, none⟩ = some u1 := by rw [h.res.cell]; rfl
theorem MidJ.r1 (h : MidJ w low A n c low2 A2 n2 c2 u1 u2 l v wr) : wr.cell? ⟨w.heap.size + 2, 1, none⟩ = some u2 := by rw [h.res.cell]; rfl
theorem MidJ.f0 (h : MidJ w low A n c low2 A2 n2 c2 u1 u2 l v wr) : wr.frozen? ⟨w.heap.size + 2, 0, none⟩ = false := h.res.loose 0
theorem MidJ.f1 (h : MidJ w low A n c low2 A2 n2 c2 u1 u2 l v wr) : wr.frozen? ⟨w.heap.size + 2, 1, none⟩ = false := h.res.loose 1
theorem MidJ.keeps (h : MidJ w low A n c low2 A2 n2 c2 u1 u2 l v wr) (hb : Below wr.heap.size wr w') : MidJ w low A n c low2 A2 n2 c2 u1 u2 l v w' :=
  ⟨h.made.keep hb, h.arg.keeps hb, h.arg2.keeps hb, Row.below h.res hb h.res.lt⟩
theorem MidJ.start (w : World) (low : Nat) (A : Option Addr) (n c : Nat) (low2 : Nat) (A2 : Option Addr) (n2 c2 : Nat) (u1 u2 : Value) : MidJ w low A n c low2 A2 n2 c2 u1 u2 [] (.slice none 0 0) (((w.alloc (.cells #[.int .u64 (low : Int), .slice A n c] 25)).alloc (.cells #[.int .u64 (low2 : Int), .slice A2 n2 c2] 25)).alloc (.cells #[u1, u2] 25)) := by
  refine ⟨Made.nil _ _ (((below_new w _).alloc (by rw [size_new]; omega) _).alloc (by rw [size_new, size_new]; omega) _), (Row.alloc (Row.alloc (LiesS.new w low A n c) _) _), ?_, ?_⟩
  · have := Row.alloc (LiesS.new (w.alloc (.cells #[.int .u64 (low : Int), .slice A n c] 25)) low2 A2 n2 c2) (.cells #[u1, u2] 25)
    rw [size_new] at this
    exact this
  · have := Row.new ((w.alloc (.cells #[.int .u64 (low : Int), .slice A n c] 25)).alloc (.cells #[.int .u64 (low2 : Int), .slice A2 n2 c2] 25)) 25 [u1, u2] (0, 0)
    rw [size_new, size_new] at this
    exact this
theorem MidJ.gets {w1 w2 : World} (h : MidJ w low A n c low2 A2 n2 c2 u1 u2 [] (.slice none 0 0) w1) (hm : Made w1 l v w2) : MidJ w low A n c low2 A2 n2 c2 u1 u2 l v w2 :=
  ⟨hm.from h.made.2, h.arg.keeps hm.2, h.arg2.keeps hm.2, Row.below h.res hm.2 h.res.lt⟩
theorem MidJ.more (h : MidJ w low A n c low2 A2 n2 c2 u1 u2 l v wr) (hm : l'.length = m) (h1 : w'.ownsRow w.heap.size 22 1 v' (l.length + m) (nv l ++ nv l')) (hg : wr.grownBy w' v.ownBlock) : MidJ w low A n c low2 A2 n2 c2 u1 u2 (l ++ l') v' w' :=
  ⟨h.made.more hm h1 hg, Row.grown h.arg hg (own_ne h.made.1 h.arg (by decide)), Row.grown h.arg2 hg (own_ne h.made.1 h.arg2 (by decide)), Row.grown h.res hg (own_ne h.made.1 h.res (by decide))⟩
theorem MidJ.turned (h : MidJ w low A n c low2 A2 n2 c2 u1 u2 l v wr) (hm : Made w l' v w') (hg : wr.grownBy w' v.ownBlock) : MidJ w low A n c low2 A2 n2 c2 u1 u2 l' v w' :=
  ⟨hm, Row.grown h.arg hg (own_ne h.made.1 h.arg (by decide)), Row.grown h.arg2 hg (own_ne h.made.1 h.arg2 (by decide)), Row.grown h.res hg (own_ne h.made.1 h.res (by decide))⟩
end

set_option maxRecDepth 100000 in
set_option maxHeartbeats 1000000 in
/-- The closure of Join. -/
theorem lacks_asks (x : LV) (b : Nat) (l : List Nat) (w : World) (h : LiesS w b x.low x.A x.n x.c) (hi : x.In w) (hR : x.s.right = true) : Asks 38 #[.pointer (some ⟨b, 0, none⟩)] (fun y => !(decide (y ≤ x.low) || x.l.contains y)) l w := by
  intro y _ wx hk
  have HL := Lib.hid (h.keep hk)
  have HC := Lib.hid (contains_any x y wx (hi.keeps hk) hR)
  clear h hk hi
  show Calls Try.prog 38 #[.int .u64 (y : Int), .pointer (some ⟨b, 0, none⟩)] wx fun e w' => e = .returned (.bool (!(decide (y ≤ x.low) || x.l.contains y))) ∧ Keep wx w'
  obtain ⟨q, hq⟩ : ∃ q, (decide (y ≤ x.low) || x.l.contains y) = q := ⟨_, rfl⟩
  rw [hq] at HC ⊢
  clear hq
  have c0 := HL.out.c0
  have c1 := HL.out.c1
  go_enter Try.func38, Try.ntmps38
  go_wp2_with fail
  refine HC.out.mono ?_
  rintro e w1 ⟨rfl, hb1⟩
  have HB := Lib.hid (show Keep wx w1 from hb1)
  clear hb1 c0 c1
  go_wp2
  go_ret
  exact ⟨rfl, HB.out⟩

set_option maxRecDepth 100000 in
set_option maxHeartbeats 8000000 in
theorem join_from (x y : LV) (w : World) (h : x.In w) (h2 : y.In w) (hn : x.n ≤ 1100) (hn2 : y.n ≤ 1100) (HS0 : Hid (x.low ≠ y.low ∨ SortC)) :
    Calls Try.prog 25 #[.agg #[.int .u64 (x.low : Int), .slice x.A x.n x.c], .agg #[.int .u64 (y.low : Int), .slice y.A y.n y.c]] w (Told w ((x.s.joinS y.s).orZ (x.s.joinE y.s)) (x.s.joinE y.s)) := by
  obtain ⟨i0, hi0, hz0, hz1, hz2⟩ := Try.info64
  have HX := Lib.hid (fun w (h : x.In w) => right_any x w h (by omega))
  have HY := Lib.hid (fun w (h : y.In w) => right_any y w h (by omega))
  have HK := Lib.hid (fun b l w h hi hR => lacks_asks x b l w h hi hR)
  have HIX := Lib.hid (((h.alloc (.cells #[.int .u64 (x.low : Int), .slice x.A x.n x.c] 25)).alloc (.cells #[.int .u64 (y.low : Int), .slice y.A y.n y.c] 25)).alloc (.cells #[.int .u64 0, .slice none 0 0] 25))
  have HIY := Lib.hid (((h2.alloc (.cells #[.int .u64 (x.low : Int), .slice x.A x.n x.c] 25)).alloc (.cells #[.int .u64 (y.low : Int), .slice y.A y.n y.c] 25)).alloc (.cells #[.int .u64 0, .slice none 0 0] 25))
  have HE := Lib.hid (show x.s.joinE y.s = if x.s.right && y.s.right then (if x.low = y.low then (if (joinL x.l y.l).length ≤ 1000 then 0 else 6) else 9) else 40 from rfl)
  have HZ := Lib.hid (show (x.s.joinS y.s).orZ (x.s.joinE y.s) = if x.s.joinE y.s = 0 then ⟨x.low, joinL x.l y.l⟩ else LS.zero from rfl)
  have HRX := Lib.hid (LS.right_iff x.s).1
  have HRY := Lib.hid (LS.right_iff y.s).1
  obtain ⟨Z, hZ⟩ : ∃ Z, (x.s.joinS y.s).orZ (x.s.joinE y.s) = Z := ⟨_, rfl⟩
  obtain ⟨E, hE⟩ : ∃ E, x.s.joinE y.s = E := ⟨_, rfl⟩
  rw [hZ] at HZ ⊢
  rw [hE] at HE HZ ⊢
  clear hZ hE
  obtain ⟨b, hb⟩ : ∃ b, x.s.right = b := ⟨_, rfl⟩
  obtain ⟨b2, hb2⟩ : ∃ b, y.s.right = b := ⟨_, rfl⟩
  rw [hb] at HX HE HK HRX
  rw [hb2] at HY HE HRY
  clear hb hb2
  obtain ⟨low, A, n, c, l⟩ := x
  obtain ⟨low2, A2, n2, c2, l2⟩ := y
  obtain ⟨hl, hc, hnil, HR⟩ := h.parts
  obtain ⟨hl2, hc2, hnil2, HR2⟩ := h2.parts
  clear h h2
  simp only [LV.s] at hn hn2 HIX HIY HX HY HZ HE HK HS0 HRX HRY ⊢
  subst hl
  subst hl2
  have HNIL := Lib.hid hnil
  have HM := Lib.hid (MidJ.start w low A l.length c low2 A2 l2.length c2 (.int .u64 0) (.slice none 0 0))
  clear hnil hc hnil2 hc2
  go_enter Try.func25, Try.ntmps25
  go_wp2_with fail
  refine (HX.out _ HIX.out).mono ?_
  rintro e w1 ⟨rfl, hb1⟩
  have HM1 := Lib.hid (HM.out.keeps hb1)
  have HIX1 := Lib.hid (HIX.out.keeps hb1)
  have HIY1 := Lib.hid (HIY.out.keeps hb1)
  clear hb1 HM HIX HIY HX
  cases b
  · have r0 := HM1.out.r0
    have r1 := HM1.out.r1
    have f0 := HM1.out.f0
    have f1 := HM1.out.f1
    go_wp2
    obtain ⟨hr, ht⟩ := told_zero HM1.out.res (by omega) HM1.out.made.2 40
    have k0 := hr.cell 0
    have k1 := hr.cell 1
    simp at k0 k1
    have e1 : E = 40 := HE.out
    have e2 : Z = LS.zero := by have := HZ.out; rw [e1] at this; exact this
    refine bodyPost_ret (v := .tuple #[.agg #[.int .u64 0, .slice none 0 0], .int .i64 40]) ?_ rfl (by rw [e1, e2]; exact ht)
    simp [results, Try.results25, go_sem, k0, k1]
  · have d0 := HM1.out.d0
    have d1 := HM1.out.d1
    go_wp2_with fail
    refine (HY.out _ HIY1.out).mono ?_
    rintro e w2 ⟨rfl, hb2⟩
    have HM2 := Lib.hid (HM1.out.keeps hb2)
    have HIX2 := Lib.hid (HIX1.out.keeps hb2)
    have HIY2 := Lib.hid (HIY1.out.keeps hb2)
    clear hb2 HM1 HIX1 HIY1 HY d0 d1
    cases b2
    · have r0 := HM2.out.r0
      have r1 := HM2.out.r1
      have f0 := HM2.out.f0
      have f1 := HM2.out.f1
      go_wp2
      obtain ⟨hr, ht⟩ := told_zero HM2.out.res (by omega) HM2.out.made.2 40
      have k0 := hr.cell 0
      have k1 := hr.cell 1
      simp at k0 k1
      have e1 : E = 40 := HE.out
      have e2 : Z = LS.zero := by have := HZ.out; rw [e1] at this; exact this
      refine bodyPost_ret (v := .tuple #[.agg #[.int .u64 0, .slice none 0 0], .int .i64 40]) ?_ rfl (by rw [e1, e2]; exact ht)
      simp [results, Try.results25, go_sem, k0, k1]
    · have HE1 := Lib.hid (show E = if low = low2 then (if (joinL l l2).length ≤ 1000 then 0 else 6) else 9 from HE.out)
      have hrx := HRX.out (by trivial)
      have hry := HRY.out (by trivial)
      have HAX := Lib.hid hrx.2
      have HAY := Lib.hid hry.2
      have hl1 : l.length ≤ 1000 := hrx.1
      have hl2 : l2.length ≤ 1000 := hry.1
      clear HE hrx hry HRX HRY
      have c0 := HM2.out.c0
      have d0 := HM2.out.d0
      by_cases elow : low = low2
      · subst elow
        have hSort : SortC := by
          rcases HS0.out with k | k
          · exact absurd rfl k
          · exact k
        have HSORT := Lib.hid hSort
        clear hSort HS0
        have d1 := HM2.out.d1
        have kK := Lib.hid (keep_join w.heap.size l2.length c2 A2 l2 (fun y => !(decide (y ≤ low) || l.contains y)) w2 (Lib.hid HIY2.out.reads) rfl hn2 (Lib.hid (HK.out w.heap.size l2 w2 HM2.out.arg HIX2.out (by trivial))))
        go_wp2_with fail
        refine kK.out.mono ?_
        rintro e w3 ⟨v3, rfl, hm3⟩
        have HKEY := Lib.hid (show E = if (joinL l l2).length ≤ 1000 then 0 else 6 by have := HE1.out; simpa using this)
        have HLEN := Lib.hid ((lacks_perm HAX.out HAY.out).length_eq)
        have hM3 := HM2.out.gets (show Made w2 (lacks low l l2) v3 w3 from hm3)
        have HIX3 := Lib.hid (HIX2.out.keeps hm3.2)
        have HJ := Lib.hid (fun l' hp hs => sorted_join (l := l') HAX.out HAY.out hp hs)
        clear hm3 HM2 HIX2 HIY2 kK HK c0 d0 d1 HE1
        rw [List.length_append] at HLEN
        have hkl : (lacks low l l2).length ≤ 1000 := Nat.le_trans (List.length_filter_le _ _) hl2
        obtain ⟨K, hK⟩ : ∃ K, lacks low l l2 = K := ⟨_, rfl⟩
        rw [hK] at hM3 HLEN HJ hkl
        clear hK
        obtain ⟨A3, c3, hv, _⟩ := hM3.made.own
        subst hv
        have HM3 := Lib.hid hM3
        clear hM3
        have c1 := HM3.out.c1
        by_cases hfull : l.length + K.length ≤ 1000
        · have hf2 : ¬ (1000 < (l.length : Int) + (K.length : Int)) := by omega
          have HFL := Lib.hid (show K.length + l.length ≤ 100000 by omega)
          have HSZ3 := Lib.hid HM3.out.made.2.size
          go_wp2_with (at_builtin; refine wpList_own_nums rfl (.tmp 35) (.tmp 37) 23 rfl w.heap.size 22 i0 Try.underlying23 hi0 hz0 hz1 hz2 (.slice A3 K.length c3) K.length _ rfl HM3.out.made.1 A l l.length c rfl rfl HIX3.out.reads HNIL.out HFL.out HSZ3.out ?_)
          intro v4 w4 hown hgr
          have HM4 := Lib.hid (HM3.out.more rfl hown hgr)
          clear hown hgr c1
          go_wp2_with fail
          refine (HSORT.out w w4 (K ++ l) v4 HM4.out.made (by rw [List.length_append]; omega)).mono ?_
          rintro e w5 ⟨rfl, l', hp, hs, hm5, hg5⟩
          have hl' := HJ.out l' hp hs
          subst hl'
          have HM5 := Lib.hid (HM4.out.turned hm5 hg5)
          clear hp hs hm5 hg5 HM4 HJ
          have r0 := HM5.out.r0
          have r1 := HM5.out.r1
          have f0 := HM5.out.f0
          have f1 := HM5.out.f1
          have c0 := HM5.out.c0
          obtain ⟨A5, c5, hv, _⟩ := HM5.out.made.own
          subst hv
          have e1 : E = 0 := by have := HKEY.out; rwa [if_pos (by have := HLEN.out; omega)] at this
          subst e1
          have hz := HZ.out
          rw [if_pos rfl] at hz
          subst hz
          clear HZ HKEY HLEN
          obtain ⟨J, hJ⟩ : ∃ J, joinL l l2 = J := ⟨_, rfl⟩
          have HJJ := Lib.hid hJ
          rw [hJ] at HM5 ⊢
          clear hJ
          go_wp2
          obtain ⟨hr, hm⟩ := HM5.out.made.laid HM5.out.res (by omega) (.int .u64 (low : Int)) (.slice A5 J.length c5)
          have y0 := hr.cell 0
          have y1 := hr.cell 1
          simp at y0 y1
          refine bodyPost_ret (v := .tuple #[.agg #[.int .u64 (low : Int), .slice A5 J.length c5], .int .i64 0]) ?_ rfl ?_
          · simp [results, Try.results25, go_sem, y0, y1]
          · exact ⟨_, rfl, by show Made w (joinL l l2) _ _; rw [HJJ.out]; exact hm⟩
        · have hf2 : 1000 < (l.length : Int) + (K.length : Int) := by omega
          have r0 := HM3.out.r0
          have r1 := HM3.out.r1
          have f0 := HM3.out.f0
          have f1 := HM3.out.f1
          go_wp2
          obtain ⟨hr, ht⟩ := told_zero HM3.out.res (by omega) HM3.out.made.2 6
          have k0 := hr.cell 0
          have k1 := hr.cell 1
          simp at k0 k1
          have e1 : E = 6 := by have := HKEY.out; rwa [if_neg (by have := HLEN.out; omega)] at this
          have e2 : Z = LS.zero := by have := HZ.out; rw [e1] at this; exact this
          refine bodyPost_ret (v := .tuple #[.agg #[.int .u64 0, .slice none 0 0], .int .i64 6]) ?_ rfl (by rw [e1, e2]; exact ht)
          simp [results, Try.results25, go_sem, k0, k1]
      · have e2 : ¬ ((low : Int) = (low2 : Int)) := by omega
        have r0 := HM2.out.r0
        have r1 := HM2.out.r1
        have f0 := HM2.out.f0
        have f1 := HM2.out.f1
        have HEL := Lib.hid elow
        clear elow
        go_wp2
        obtain ⟨hr, ht⟩ := told_zero HM2.out.res (by omega) HM2.out.made.2 9
        have k0 := hr.cell 0
        have k1 := hr.cell 1
        simp at k0 k1
        have e1 : E = 9 := by have := HE1.out; rwa [if_neg HEL.out] at this
        have e2 : Z = LS.zero := by have := HZ.out; rw [e1] at this; exact this
        refine bodyPost_ret (v := .tuple #[.agg #[.int .u64 0, .slice none 0 0], .int .i64 9]) ?_ rfl (by rw [e1, e2]; exact ht)
        simp [results, Try.results25, go_sem, k0, k1]

end Go.Proofs.Ytkcjhkhdpafjhaa
