/-
  The walks over package lsns: keep, Raise.
-/
import Derived.Test.YtkcjhkhdpafjhaaLsnsCodeB
namespace Go.Proofs.Ytkcjhkhdpafjhaa
open Go.RowKit

theorem Made.keep {w wr w' : World} {l : List Nat} {v : Value} (h : Made w l v wr) (hb : Keep wr w') : Made w l v w' := by
  refine ⟨⟨h.1.1, ?_⟩, h.2.trans (Below.mono hb h.2.size)⟩
  rcases h.1.2 with ⟨rfl, h0⟩ | ⟨g, cap, cur, rfl, h1, hg, rest⟩
  · exact .inl ⟨rfl, h0⟩
  · exact .inr ⟨g, cap, cur, rfl, h1, Row.below (cs := cur.toList) hg hb (Row.lt (cs := cur.toList) hg), rest⟩
theorem filter_step (f : Nat → Bool) (l : List Nat) (k : Nat) (h : k < l.length) : (l.take (k + 1)).filter f = (l.take k).filter f ++ (if f l[k] then [l[k]] else []) := by
  rw [List.take_succ_eq_append_getElem h, List.filter_append]
  cases hf : f l[k] <;> simp [hf]

/-- A closure that tells a plain fact of a number, and changes nothing. -/
def Asks (g : FuncId) (cb : Array Value) (f : Nat → Bool) (l : List Nat) (w : World) : Prop :=
  ∀ y ∈ l, ∀ wx, Keep w wx → Calls Try.prog g (#[.int .u64 (y : Int)] ++ cb) wx fun e w' => e = .returned (.bool (f y)) ∧ Keep wx w'

set_option maxRecDepth 100000 in
set_option maxHeartbeats 2000000 in
theorem keep_raise (b n c : Nat) (A : Option Addr) (l : List Nat) (f : Nat → Bool) (w : World) (HR : Hid (RN w A l)) (hl : l.length = n) (hn : n ≤ 1100) (HA : Hid (Asks 37 #[.pointer (some ⟨b, 0, none⟩)] f l w)) :
    Calls Try.prog 36 #[.slice A n c, .func (.func 37) #[] #[.pointer (some ⟨b, 0, none⟩)]] w fun r w' => ∃ v, r = .returned v ∧ Made w (l.filter f) v w' := by
  obtain ⟨i0, hi0, hz0, hz1, hz2⟩ := Try.info64
  subst hl
  go_enter Try.func36, Try.ntmps36
  go_wp2
  go_loopw [5, 10] (fun v i wr => ∃ k : Nat, k ≤ l.length ∧ i = .int .i64 k ∧ Made w ((l.take k).filter f) v wr) (fun _ i _ => l.length - (intOf i).toNat)
  case atStart => exact ⟨0, by omega, rfl, by simpa using Made.nil w w (Below.refl _ _)⟩
  case round =>
    obtain ⟨k, hk, rfl, hm⟩ := hrel
    have HM := Lib.hid hm
    obtain ⟨A2, c2, hv, _⟩ := hm.own
    subst hv
    clear hm
    by_cases hlt : k < l.length
    · obtain ⟨g, off, rfl, hcell⟩ := (HR.out.keeps HM.out.2).cells (by omega)
      have hk1 := hcell k hlt
      have HS := Lib.hid (filter_step f l k hlt)
      have HC := Lib.hid (HA.out l[k] (List.getElem_mem _) wr HM.out.2)
      have HF := Lib.hid (show ((l.take k).filter f).length ≤ k from Nat.le_trans (List.length_filter_le _ _) (List.length_take_le _ _))
      obtain ⟨y, hy⟩ : ∃ y, l[k] = y := ⟨_, rfl⟩
      rw [hy] at hk1 HS HC
      clear hcell hy
      obtain ⟨F, hFF⟩ : ∃ F, (l.take k).filter f = F := ⟨_, rfl⟩
      rw [hFF] at HM HS HF ⊢
      clear hFF
      obtain ⟨q, hq⟩ : ∃ q, f y = q := ⟨_, rfl⟩
      rw [hq] at HC HS
      clear hq
      go_wp2_with fail
      refine HC.out.mono ?_
      rintro e w1 ⟨rfl, hk2⟩
      have HM1 := Lib.hid (HM.out.keep hk2)
      clear hk2 hk1
      cases q
      · go_wp2
        go_roundw
        case rel => exact ⟨k + 1, by omega, by go_num, by rw [HS.out]; simpa using HM1.out⟩
        case measure => simp [intOf]; omega
      · have HB := Lib.hid (HM1.out.keepRow (.cells #[.int .u64 (y : Int)] 22))
        have HSZ := Lib.hid HB.out.2.size
        have HFL := Lib.hid (show F.length + 1 ≤ 100000 by have := HF.out; omega)
        go_wp2_with (at_builtin; refine wpList_own_nums rfl (.tmp 17) (.tmp 19) 23 rfl w.heap.size 22 i0 Try.underlying23 hi0 hz0 hz1 hz2 (.slice A2 F.length c2) F.length _ rfl HB.out.1 _ [y] 1 1 rfl rfl (rn_one w1 y) (fun e => by cases e) HFL.out HSZ.out ?_)
        intro v3 w3 hown hgr
        have HM3 := Lib.hid (HB.out.more (l' := [y]) (m := 1) rfl hown hgr)
        clear hown hgr
        go_wp2
        go_roundw
        case rel => exact ⟨k + 1, by omega, by go_num, by rw [HS.out]; simpa using HM3.out⟩
        case measure => simp [intOf]; omega
    · obtain rfl : k = l.length := by omega
      have HM2 := Lib.hid (show Made w (l.filter f) (.slice A2 ((l.take l.length).filter f).length c2) wr by have := HM.out; rwa [List.take_length] at this ⊢)
      obtain ⟨q, hq⟩ : ∃ q, ((l.take l.length).filter f).length = q := ⟨_, rfl⟩
      rw [hq] at HM2 ⊢
      clear HM hq
      go_wp2
      go_ret
      exact ⟨_, rfl, HM2.out⟩

set_option maxRecDepth 100000 in
set_option maxHeartbeats 2000000 in
theorem keep_join (b n c : Nat) (A : Option Addr) (l : List Nat) (f : Nat → Bool) (w : World) (HR : Hid (RN w A l)) (hl : l.length = n) (hn : n ≤ 1100) (HA : Hid (Asks 38 #[.pointer (some ⟨b, 0, none⟩)] f l w)) :
    Calls Try.prog 36 #[.slice A n c, .func (.func 38) #[] #[.pointer (some ⟨b, 0, none⟩)]] w fun r w' => ∃ v, r = .returned v ∧ Made w (l.filter f) v w' := by
  obtain ⟨i0, hi0, hz0, hz1, hz2⟩ := Try.info64
  subst hl
  go_enter Try.func36, Try.ntmps36
  go_wp2
  go_loopw [5, 10] (fun v i wr => ∃ k : Nat, k ≤ l.length ∧ i = .int .i64 k ∧ Made w ((l.take k).filter f) v wr) (fun _ i _ => l.length - (intOf i).toNat)
  case atStart => exact ⟨0, by omega, rfl, by simpa using Made.nil w w (Below.refl _ _)⟩
  case round =>
    obtain ⟨k, hk, rfl, hm⟩ := hrel
    have HM := Lib.hid hm
    obtain ⟨A2, c2, hv, _⟩ := hm.own
    subst hv
    clear hm
    by_cases hlt : k < l.length
    · obtain ⟨g, off, rfl, hcell⟩ := (HR.out.keeps HM.out.2).cells (by omega)
      have hk1 := hcell k hlt
      have HS := Lib.hid (filter_step f l k hlt)
      have HC := Lib.hid (HA.out l[k] (List.getElem_mem _) wr HM.out.2)
      have HF := Lib.hid (show ((l.take k).filter f).length ≤ k from Nat.le_trans (List.length_filter_le _ _) (List.length_take_le _ _))
      obtain ⟨y, hy⟩ : ∃ y, l[k] = y := ⟨_, rfl⟩
      rw [hy] at hk1 HS HC
      clear hcell hy
      obtain ⟨F, hFF⟩ : ∃ F, (l.take k).filter f = F := ⟨_, rfl⟩
      rw [hFF] at HM HS HF ⊢
      clear hFF
      obtain ⟨q, hq⟩ : ∃ q, f y = q := ⟨_, rfl⟩
      rw [hq] at HC HS
      clear hq
      go_wp2_with fail
      refine HC.out.mono ?_
      rintro e w1 ⟨rfl, hk2⟩
      have HM1 := Lib.hid (HM.out.keep hk2)
      clear hk2 hk1
      cases q
      · go_wp2
        go_roundw
        case rel => exact ⟨k + 1, by omega, by go_num, by rw [HS.out]; simpa using HM1.out⟩
        case measure => simp [intOf]; omega
      · have HB := Lib.hid (HM1.out.keepRow (.cells #[.int .u64 (y : Int)] 22))
        have HSZ := Lib.hid HB.out.2.size
        have HFL := Lib.hid (show F.length + 1 ≤ 100000 by have := HF.out; omega)
        go_wp2_with (at_builtin; refine wpList_own_nums rfl (.tmp 17) (.tmp 19) 23 rfl w.heap.size 22 i0 Try.underlying23 hi0 hz0 hz1 hz2 (.slice A2 F.length c2) F.length _ rfl HB.out.1 _ [y] 1 1 rfl rfl (rn_one w1 y) (fun e => by cases e) HFL.out HSZ.out ?_)
        intro v3 w3 hown hgr
        have HM3 := Lib.hid (HB.out.more (l' := [y]) (m := 1) rfl hown hgr)
        clear hown hgr
        go_wp2
        go_roundw
        case rel => exact ⟨k + 1, by omega, by go_num, by rw [HS.out]; simpa using HM3.out⟩
        case measure => simp [intOf]; omega
    · obtain rfl : k = l.length := by omega
      have HM2 := Lib.hid (show Made w (l.filter f) (.slice A2 ((l.take l.length).filter f).length c2) wr by have := HM.out; rwa [List.take_length] at this ⊢)
      obtain ⟨q, hq⟩ : ∃ q, ((l.take l.length).filter f).length = q := ⟨_, rfl⟩
      rw [hq] at HM2 ⊢
      clear HM hq
      go_wp2
      go_ret
      exact ⟨_, rfl, HM2.out⟩

/-- In the midst of Raise: its set lies in the first block, the low number in the second, its result's cells in the third. -/
structure MidR (w : World) (low : Nat) (A : Option Addr) (n c : Nat) (M : Nat) (u1 u2 : Value) (l : List Nat) (v : Value) (wr : World) : Prop where
  made : Made w l v wr
  arg : LiesS wr w.heap.size low A n c
  var : Row wr (w.heap.size + 1) 22 [.int .u64 (M : Int)] (0, 0)
  res : Row wr (w.heap.size + 2) 25 [u1, u2] (0, 0)

section
variable {w wr w' : World} {low M : Nat} {A : Option Addr} {n c : Nat} {u1 u2 v : Value} {l : List Nat}
theorem MidR.c0 (h : MidR w low A n c M u1 u2 l v wr) : wr.cell? ⟨w.heap.size, 0, none⟩ = some (.int .u64 (low : Int)) := h.arg.c0
theorem MidR.c1 (h : MidR w low A n c M u1 u2 l v wr) : wr.cell? ⟨w.heap.size, 1, none⟩ = some (.slice A n c) := h.arg.c1
theorem MidR.m0 (h : MidR w low A n c M u1 u2 l v wr) : wr.cell? ⟨w.heap.size + 1, 0, none⟩ = some (.int .u64 (M : Int)) := by rw [h.var.cell]; rfl
theorem MidR.mf (h : MidR w low A n c M u1 u2 l v wr) : wr.frozen? ⟨w.heap.size + 1, 0, none⟩ = false := h.var.loose 0
theorem MidR.r0 (h : MidR w low A n c M u1 u2 l v wr) : wr.cell? ⟨w.heap.size + 2, 0, none⟩ = some u1 := by rw [h.res.cell]; rfl
theorem MidR.r1 (h : MidR w low A n c M u1 u2 l v wr) : wr.cell? ⟨w.heap.size + 2, 1, none⟩ = some u2 := by rw [h.res.cell]; rfl
theorem MidR.f0 (h : MidR w low A n c M u1 u2 l v wr) : wr.frozen? ⟨w.heap.size + 2, 0, none⟩ = false := h.res.loose 0
theorem MidR.f1 (h : MidR w low A n c M u1 u2 l v wr) : wr.frozen? ⟨w.heap.size + 2, 1, none⟩ = false := h.res.loose 1
theorem MidR.keeps (h : MidR w low A n c M u1 u2 [] (.slice none 0 0) wr) (hb : Below wr.heap.size wr w') : MidR w low A n c M u1 u2 [] (.slice none 0 0) w' :=
  ⟨Made.nil _ _ (h.made.2.trans (hb.mono h.made.2.size)), h.arg.keeps hb, Row.below h.var hb h.var.lt, Row.below h.res hb h.res.lt⟩
theorem MidR.start (w : World) (low : Nat) (A : Option Addr) (n c : Nat) (M : Nat) (u1 u2 : Value) : MidR w low A n c M u1 u2 [] (.slice none 0 0) (((w.alloc (.cells #[.int .u64 (low : Int), .slice A n c] 25)).alloc (.cells #[.int .u64 (M : Int)] 22)).alloc (.cells #[u1, u2] 25)) := by
  refine ⟨Made.nil _ _ (((below_new w _).alloc (by rw [size_new]; omega) _).alloc (by rw [size_new, size_new]; omega) _), (Row.alloc (Row.alloc (LiesS.new w low A n c) _) _), ?_, ?_⟩
  · have := (Row.new (w.alloc (.cells #[.int .u64 (low : Int), .slice A n c] 25)) 22 [.int .u64 (M : Int)] (0, 0)).alloc (.cells #[u1, u2] 25)
    rw [size_new] at this
    exact this
  · have := Row.new ((w.alloc (.cells #[.int .u64 (low : Int), .slice A n c] 25)).alloc (.cells #[.int .u64 (M : Int)] 22)) 25 [u1, u2] (0, 0)
    rw [size_new, size_new] at this
    exact this
theorem MidR.set (h : MidR w low A n c M u1 u2 [] (.slice none 0 0) wr) (M' : Nat) : MidR w low A n c M' u1 u2 [] (.slice none 0 0) (wr.setCell ⟨w.heap.size + 1, 0, none⟩ (.int .u64 (M' : Int))) :=
  ⟨Made.nil _ _ (h.made.2.setCell (by show w.heap.size ≤ w.heap.size + 1; omega) _), Row.far h.arg (by show w.heap.size ≠ w.heap.size + 1; omega) _, h.var.put 0 _, Row.far h.res (by show w.heap.size + 2 ≠ w.heap.size + 1; omega) _⟩
theorem MidR.gets {w1 w2 : World} (h : MidR w low A n c M u1 u2 [] (.slice none 0 0) w1) (hm : Made w1 l v w2) : MidR w low A n c M u1 u2 l v w2 :=
  ⟨hm.from h.made.2, h.arg.keeps hm.2, Row.below h.var hm.2 h.var.lt, Row.below h.res hm.2 h.res.lt⟩
end

set_option maxRecDepth 100000 in
set_option maxHeartbeats 1000000 in
/-- The closure of Raise. -/
theorem above_asks (b M : Nat) (l : List Nat) (w : World) (h : w.cell? ⟨b, 0, none⟩ = some (.int .u64 (M : Int))) : Asks 37 #[.pointer (some ⟨b, 0, none⟩)] (fun y => decide (M < y)) l w := by
  intro y _ wx hk
  have hc : wx.cell? ⟨b, 0, none⟩ = some (.int .u64 (M : Int)) := (Below.cell (p := ⟨b, 0, none⟩) hk (World.block_lt_of_cell? _ _ h)).trans h
  clear hk h
  show Calls Try.prog 37 #[.int .u64 (y : Int), .pointer (some ⟨b, 0, none⟩)] wx fun e w' => e = .returned (.bool (decide (M < y))) ∧ Keep wx w'
  go_enter Try.func37, Try.ntmps37
  go_wp2
  go_ret
  exact ⟨rfl, Keep.refl wx⟩

set_option maxRecDepth 100000 in
set_option maxHeartbeats 4000000 in
theorem raise_any (x : LV) (m : Nat) (w : World) (h : x.In w) (hn : x.n ≤ 1100) :
    Calls Try.prog 23 #[x.v, .int .u64 (m : Int)] w (Told w ((x.s.raiseS m).orZ x.s.raiseE) x.s.raiseE) := by
  have HX := Lib.hid (fun w (h : x.In w) => right_any x w h (by omega))
  have HI := Lib.hid (((h.alloc (.cells #[.int .u64 (x.low : Int), .slice x.A x.n x.c] 25)).alloc (.cells #[.int .u64 (m : Int)] 22)).alloc (.cells #[.int .u64 0, .slice none 0 0] 25))
  have HE := Lib.hid (show x.s.raiseE = if x.s.right then 0 else 40 from rfl)
  have HZ := Lib.hid (show (x.s.raiseS m).orZ x.s.raiseE = if x.s.raiseE = 0 then ⟨max x.low m, x.l.filter (fun y => decide (max x.low m < y))⟩ else LS.zero from rfl)
  obtain ⟨Z, hZ⟩ : ∃ Z, (x.s.raiseS m).orZ x.s.raiseE = Z := ⟨_, rfl⟩
  obtain ⟨E, hE⟩ : ∃ E, x.s.raiseE = E := ⟨_, rfl⟩
  rw [hZ] at HZ ⊢
  rw [hE] at HE HZ ⊢
  clear hZ hE
  obtain ⟨b, hb⟩ : ∃ b, x.s.right = b := ⟨_, rfl⟩
  rw [hb] at HX HE
  clear hb
  obtain ⟨low, A, n, c, l⟩ := x
  obtain ⟨hl, hc, hnil, HR⟩ := h.parts
  clear h
  simp only [LV.v] at hn HI HX HZ ⊢
  subst hl
  have HM := Lib.hid (MidR.start w low A l.length c m (.int .u64 0) (.slice none 0 0))
  clear hnil hc
  go_enter Try.func23, Try.ntmps23
  go_wp2_with fail
  refine (HX.out _ HI.out).mono ?_
  rintro e w1 ⟨rfl, hb1⟩
  have HM1 := Lib.hid (HM.out.keeps hb1)
  have HI1 := Lib.hid (HI.out.keeps hb1)
  clear hb1 HM HI HX
  cases b
  · have r0 := HM1.out.r0
    have r1 := HM1.out.r1
    have f0 := HM1.out.f0
    have f1 := HM1.out.f1
    go_wp2
    obtain ⟨hr, ht⟩ := told_zero HM1.out.res (by omega) HM1.out.made.2 40
    have k0 := hr.cell 0
    have k1 := hr.cell 1
    simp at k0 k1
    have e1 : E = 40 := HE.out
    have e2 : Z = LS.zero := by have := HZ.out; rw [e1] at this; exact this
    refine bodyPost_ret (v := .tuple #[.agg #[.int .u64 0, .slice none 0 0], .int .i64 40]) ?_ rfl (by rw [e1, e2]; exact ht)
    simp [results, Try.results23, go_sem, k0, k1]
  · have e1 : E = 0 := HE.out
    subst e1
    have hz := HZ.out
    rw [if_pos rfl] at hz
    have c0 := HM1.out.c0
    have m0 := HM1.out.m0
    have mf := HM1.out.mf
    by_cases hml : m < low
    · have HMX := Lib.hid (show max low m = low by omega)
      rw [HMX.out] at hz
      subst hz
      have HM2 := Lib.hid (HM1.out.set low)
      clear HM1 HI1 HMX
      go_wp2_with fail
      clear c0 m0 mf
      obtain ⟨W2, hW2⟩ : ∃ W2, w1.setCell ⟨w.heap.size + 1, 0, none⟩ (.int .u64 (low : Int)) = W2 := ⟨_, rfl⟩
      rw [hW2] at HM2 ⊢
      clear hW2
      have hk0 : Keep W2 W2.drew := (Below.refl _ _).drew
      have hk1 : Keep W2 W2 := Below.refl _ _
      have HR2 := Lib.hid (HR.out.keeps HM2.out.made.2)
      have HC := Lib.hid (show ∀ wx, Keep W2 wx → wx.cell? ⟨w.heap.size + 1, 0, none⟩ = some (.int .u64 (low : Int)) ∧ wx.cell? ⟨w.heap.size, 1, none⟩ = some (.slice A l.length c) from fun wx hk =>
        ⟨(HM2.out.keeps hk).m0, (HM2.out.keeps hk).c1⟩)
      have kC := Lib.hid (show ∀ wx, Keep W2 wx → Calls Try.prog 36 #[.slice A l.length c, .func (.func 37) #[] #[.pointer (some ⟨w.heap.size + 1, 0, none⟩)]] wx fun r w' => ∃ A2 k2 c2, r = .returned (.slice A2 k2 c2) ∧ Keep W2 w' ∧ w'.cell? ⟨w.heap.size + 1, 0, none⟩ = some (.int .u64 (low : Int)) ∧ w'.cell? ⟨w.heap.size, 1, none⟩ = some (.slice A l.length c) ∧ w'.cell? ⟨w.heap.size + 2, 0, none⟩ = some (.int .u64 0) ∧ w'.cell? ⟨w.heap.size + 2, 1, none⟩ = some (.slice none 0 0) ∧ w'.frozen? ⟨w.heap.size + 2, 0, none⟩ = false ∧ w'.frozen? ⟨w.heap.size + 2, 1, none⟩ = false ∧ Hid (MidR w low A l.length c low (.int .u64 0) (.slice none 0 0) (l.filter (fun y => decide (low < y))) (.slice A2 k2 c2) w') from
        fun wx hk => (keep_raise (w.heap.size + 1) l.length c A l (fun y => decide (low < y)) wx (Lib.hid (HR2.out.keeps hk)) rfl (by omega) (Lib.hid (above_asks _ low l wx (HC.out wx hk).1))).mono fun r w' ⟨v, h1, hm⟩ => by
          have hM := (HM2.out.keeps hk).gets hm
          obtain ⟨A2, c2, hv, _⟩ := hM.made.own
          subst hv
          exact ⟨A2, _, c2, h1, hk.then hm.2, hM.m0, hM.c1, hM.r0, hM.r1, hM.f0, hM.f1, Lib.hid hM⟩)
      have ne1 : ¬ (w.heap.size = w.heap.size + 1 + 1) := by omega
      have ne2 : ¬ (w.heap.size + 1 + 1 = w.heap.size) := by omega
      go_region_held3 (fun wx => wx.cell? ⟨w.heap.size + 1, 0, none⟩ = some (.int .u64 (low : Int)) ∧ wx.cell? ⟨w.heap.size, 1, none⟩ = some (.slice A l.length c)) (first | exact HC.out _ (by assumption) | go_keep)
        ((go_at_call 36; refine (kC.out _ (by assumption)).mono ?_; rintro e wa ⟨A2, k2, c2, rfl, hka, x0, x1, z0, z1, f0, f1, HMa⟩))
      all_goals
        go_wp2
        obtain ⟨hr, hm⟩ := HMa.out.made.laid HMa.out.res (by omega) (.int .u64 (low : Int)) (.slice A2 k2 c2)
        have y0 := hr.cell 0
        have y1 := hr.cell 1
        simp at y0 y1
        refine bodyPost_ret (v := .tuple #[.agg #[.int .u64 (low : Int), .slice A2 k2 c2], .int .i64 0]) ?_ rfl ?_
        · simp [results, Try.results23, go_sem, y0, y1]
        · exact ⟨_, rfl, hm⟩
    · have HMX := Lib.hid (show max low m = m by omega)
      rw [HMX.out] at hz
      subst hz
      have HM2 := Lib.hid (HM1.out.set m)
      clear HM1 HI1 HMX
      go_wp2_with fail
      clear c0 m0 mf
      obtain ⟨W2, hW2⟩ : ∃ W2, w1.setCell ⟨w.heap.size + 1, 0, none⟩ (.int .u64 (m : Int)) = W2 := ⟨_, rfl⟩
      rw [hW2] at HM2 ⊢
      clear hW2
      have hk0 : Keep W2 W2.drew := (Below.refl _ _).drew
      have hk1 : Keep W2 W2 := Below.refl _ _
      have HR2 := Lib.hid (HR.out.keeps HM2.out.made.2)
      have HC := Lib.hid (show ∀ wx, Keep W2 wx → wx.cell? ⟨w.heap.size + 1, 0, none⟩ = some (.int .u64 (m : Int)) ∧ wx.cell? ⟨w.heap.size, 1, none⟩ = some (.slice A l.length c) from fun wx hk =>
        ⟨(HM2.out.keeps hk).m0, (HM2.out.keeps hk).c1⟩)
      have kC := Lib.hid (show ∀ wx, Keep W2 wx → Calls Try.prog 36 #[.slice A l.length c, .func (.func 37) #[] #[.pointer (some ⟨w.heap.size + 1, 0, none⟩)]] wx fun r w' => ∃ A2 k2 c2, r = .returned (.slice A2 k2 c2) ∧ Keep W2 w' ∧ w'.cell? ⟨w.heap.size + 1, 0, none⟩ = some (.int .u64 (m : Int)) ∧ w'.cell? ⟨w.heap.size, 1, none⟩ = some (.slice A l.length c) ∧ w'.cell? ⟨w.heap.size + 2, 0, none⟩ = some (.int .u64 0) ∧ w'.cell? ⟨w.heap.size + 2, 1, none⟩ = some (.slice none 0 0) ∧ w'.frozen? ⟨w.heap.size + 2, 0, none⟩ = false ∧ w'.frozen? ⟨w.heap.size + 2, 1, none⟩ = false ∧ Hid (MidR w low A l.length c m (.int .u64 0) (.slice none 0 0) (l.filter (fun y => decide (m < y))) (.slice A2 k2 c2) w') from
        fun wx hk => (keep_raise (w.heap.size + 1) l.length c A l (fun y => decide (m < y)) wx (Lib.hid (HR2.out.keeps hk)) rfl (by omega) (Lib.hid (above_asks _ m l wx (HC.out wx hk).1))).mono fun r w' ⟨v, h1, hm⟩ => by
          have hM := (HM2.out.keeps hk).gets hm
          obtain ⟨A2, c2, hv, _⟩ := hM.made.own
          subst hv
          exact ⟨A2, _, c2, h1, hk.then hm.2, hM.m0, hM.c1, hM.r0, hM.r1, hM.f0, hM.f1, Lib.hid hM⟩)
      have ne1 : ¬ (w.heap.size = w.heap.size + 1 + 1) := by omega
      have ne2 : ¬ (w.heap.size + 1 + 1 = w.heap.size) := by omega
      go_region_held3 (fun wx => wx.cell? ⟨w.heap.size + 1, 0, none⟩ = some (.int .u64 (m : Int)) ∧ wx.cell? ⟨w.heap.size, 1, none⟩ = some (.slice A l.length c)) (first | exact HC.out _ (by assumption) | go_keep)
        ((go_at_call 36; refine (kC.out _ (by assumption)).mono ?_; rintro e wa ⟨A2, k2, c2, rfl, hka, x0, x1, z0, z1, f0, f1, HMa⟩))
      all_goals
        go_wp2
        obtain ⟨hr, hm⟩ := HMa.out.made.laid HMa.out.res (by omega) (.int .u64 (m : Int)) (.slice A2 k2 c2)
        have y0 := hr.cell 0
        have y1 := hr.cell 1
        simp at y0 y1
        refine bodyPost_ret (v := .tuple #[.agg #[.int .u64 (m : Int), .slice A2 k2 c2], .int .i64 0]) ?_ rfl ?_
        · simp [results, Try.results23, go_sem, y0, y1]
        · exact ⟨_, rfl, hm⟩

end Go.Proofs.Ytkcjhkhdpafjhaa
