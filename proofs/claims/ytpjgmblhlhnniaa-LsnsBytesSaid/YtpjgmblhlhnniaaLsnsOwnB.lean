/-
  Append onto bytes of the call's own, of bytes that lie anywhere; the document's Put.
-/
import Derived.Test.YtpjgmblhlhnniaaLsnsNum
import Derived.Test.YtpjgmblhlhnniaaLsnsCodeP
import Derived.Test.YtpjgmblhlhnniaaLsnsGetMath
namespace Go.Proofs.Ytpjgmblhlhnniaa
open Go.RowKit

section
variable {P : Program} {w : World}

/-- Append onto a row of the call's own, nil or not, of any bytes, nil ones too. -/
theorem run_own_bytes {T : TypeId} (t ty : TypeId) (base : Nat) (e : TypeId) (i : TypeInfo) (ht : P.underlying t = some (.slice e)) (hi : P.info? e = some i) (hz : i.zero = some (.int .u8 0))
    (hsize : i.size = 1) (hby : i.bytes = 1) (v : Value) (n : Nat) (xs : List Value) (hown : w.ownsRow base e 1 v n xs)
    (A : Option Addr) (l : List UInt8) (m c : Nat) (hm : l.length = m) (hr : Reads T w A l) (hA : A = none → c = 0) (h63 : n + m ≤ 100000) (hbase : base ≤ w.heap.size) :
    ∃ v' w', (Builtin.append_ #[t, t] ty #[v, .slice A m c]).run P w = .ok v' w' ∧ w'.ownsRow base e 1 v' (n + m) (xs ++ byt l) ∧ w.grownBy w' v.ownBlock := by
  subst hm
  cases A with
  | none =>
    obtain rfl : l = [] := by
      rcases Nat.eq_zero_or_pos l.length with h0 | h0
      · exact List.eq_nil_of_length_eq_zero h0
      · obtain ⟨g, off, cs, m, hA, _⟩ := hr h0
        cases hA
    obtain rfl := hA rfl
    have hrun := run_append_owned_none (P := P) (w := w) base t ty e i 1 ht hi v n xs hown
    exact ⟨v, w, hrun, by simpa [byt] using hown, only_refl w _⟩
  | some ad =>
    obtain ⟨v', w', hrun, h2, h3, _, _⟩ := run_append_own_at (P := P) (w := w) base t ty e i (.int .u8 0) 1 1 ht hi hz hsize hby rfl (by decide) v n xs hown ad l.length c (byt l) (by rw [byt_length, Nat.mul_one]) (reads_news hr) (byt_one l) (by unfold maxLen; omega) (by omega) hbase
    exact ⟨v', w', hrun, h2, h3⟩

theorem wpList_own_bytes {T : TypeId} {ops : Array Oper} {rest : List Oper} {o : Oper} {a : Act} {Q : Exit → Act → World → Prop} (hgd : o.guard = none) (s x : Operand) (t : TypeId)
    (ho : o.op = .call { callee := .builtin .append, args := #[s, x], argTypes := #[t, t] })
    (base : Nat) (e : TypeId) (i : TypeInfo) (ht : P.underlying t = some (.slice e)) (hi : P.info? e = some i) (hz : i.zero = some (.int .u8 0))
    (hsize : i.size = 1) (hby : i.bytes = 1) (v : Value) (n : Nat) (xs : List Value) (hs : a.eval s = v) (hown : w.ownsRow base e 1 v n xs)
    (A : Option Addr) (l : List UInt8) (m c : Nat) (hx : a.eval x = .slice A m c) (hm : l.length = m) (hr : Reads T w A l) (hA : A = none → c = 0) (h63 : n + m ≤ 100000) (hbase : base ≤ w.heap.size)
    (h : ∀ v' w', w'.ownsRow base e 1 v' (n + m) (xs ++ byt l) → w.grownBy w' v.ownBlock → wpList P ops Q rest (a.put o.dst v') w') : wpList P ops Q (o :: rest) a w := by
  refine wpList_plain hgd fun K hK => ?_
  obtain ⟨v', w', hr, h2, h3⟩ := run_own_bytes (P := P) (w := w) t o.type base e i ht hi hz hsize hby v n xs hown A l m c hm hr hA h63 hbase
  unfold Oper.wp execOp
  simp only [ho, resolve, invoke, builtin, Sem.run_bind, Sem.run_pure, Result.andThen_ok, List.map_toArray, List.map_cons, List.map_nil, hs, hx, hr]
  exact hK _ _ (h v' w' h2 h3)

theorem step_own_bytes {T : TypeId} {ops : Array Oper} {o : Oper} {a : Act} {K : Act → World → Prop} {Q : Exit → Act → World → Prop} {E : Prop} (hgd : o.guard = none) (s x : Operand) (t : TypeId)
    (ho : o.op = .call { callee := .builtin .append, args := #[s, x], argTypes := #[t, t] })
    (base : Nat) (e : TypeId) (i : TypeInfo) (ht : P.underlying t = some (.slice e)) (hi : P.info? e = some i) (hz : i.zero = some (.int .u8 0))
    (hsize : i.size = 1) (hby : i.bytes = 1) (v : Value) (n : Nat) (xs : List Value) (hs : a.eval s = v) (hown : w.ownsRow base e 1 v n xs)
    (A : Option Addr) (l : List UInt8) (m c : Nat) (hx : a.eval x = .slice A m c) (hm : l.length = m) (hr : Reads T w A l) (hA : A = none → c = 0) (h63 : n + m ≤ 100000) (hbase : base ≤ w.heap.size)
    (h : ∀ v' w', w'.ownsRow base e 1 v' (n + m) (xs ++ byt l) → w.grownBy w' v.ownBlock → K (a.put o.dst v') w') :
    if Region.wanted o (yielded ops a.tmps) = true then Oper.wp P o a w K Q else E := by
  have hw : Region.wanted o (yielded ops a.tmps) = true := by simp [Region.wanted, hgd]
  rw [if_pos hw]
  obtain ⟨v', w', hr, h2, h3⟩ := run_own_bytes (P := P) (w := w) t o.type base e i ht hi hz hsize hby v n xs hown A l m c hm hr hA h63 hbase
  unfold Oper.wp execOp
  simp only [ho, resolve, invoke, builtin, Sem.run_bind, Sem.run_pure, Result.andThen_ok, List.map_toArray, List.map_cons, List.map_nil, hs, hx, hr]
  exact h v' w' h2 h3
end

/-- Bytes in memory of the call's own; nothing that was there ahead of it has turned. -/
def MadeB (w : World) (l : List UInt8) (v : Value) (wr : World) : Prop := wr.ownsRow w.heap.size 5 1 v l.length (byt l) ∧ Below w.heap.size w wr

section
variable {w wr w' : World} {l l' : List UInt8} {v v' : Value} {m : Nat}
theorem MadeB.nil (w wr : World) (h : Below w.heap.size w wr) : MadeB w [] (.slice none 0 0) wr := ⟨⟨by simp [byt], .inl ⟨rfl, rfl⟩⟩, h⟩
theorem MadeB.own (h : MadeB w l v wr) : ∃ A c, v = .slice A l.length c ∧ l.length ≤ c ∧ (A = none → c = 0) ∧ Reads 5 wr A l := by
  obtain ⟨⟨hl, h0 | ⟨g, cap, cur, rfl, hb, hg, hc, _, _, ht⟩⟩, _⟩ := h
  · obtain ⟨rfl, h0⟩ := h0
    obtain rfl := List.eq_nil_of_length_eq_zero h0
    exact ⟨none, 0, rfl, Nat.le_refl _, fun _ => rfl, Reads.nil⟩
  · rw [Nat.mul_one] at ht
    exact ⟨some ⟨g, 0, none⟩, cap, rfl, hc, (fun e => by cases e), fun _ => ⟨g, 0, cur.toList, (0, 0), rfl, hg, fun j hj => by rw [Nat.zero_add, ← ht, List.getElem?_take, if_pos (by omega)]⟩⟩
theorem MadeB.keep (h : MadeB w l v wr) (hb : Below wr.heap.size wr w') : MadeB w l v w' := ⟨ownsRow_far h.1 hb (Nat.le_refl _), h.2.trans (hb.mono h.2.size)⟩
theorem MadeB.alloc (h : MadeB w l v wr) (o : Obj) : MadeB w l v (wr.alloc o) := h.keep (below_new wr o)
theorem MadeB.more (h : MadeB w l v wr) (hm : l'.length = m) (h1 : w'.ownsRow w.heap.size 5 1 v' (l.length + m) (byt l ++ byt l')) (hg : wr.grownBy w' v.ownBlock) : MadeB w (l ++ l') v' w' := by
  subst hm
  refine ⟨by rw [List.length_append, byt_append]; exact h1, h.2.grown hg h.2.size (fun k hk => ?_)⟩
  rcases h.1.2 with ⟨rfl, _⟩ | ⟨g, cap, cur, rfl, hb, _⟩
  · cases hk
  · obtain rfl : g = k := by simpa [Value.ownBlock] using hk
    exact hb
end

theorem putL_length (low : Nat) (l : List Nat) (k : Nat) (h : k ≤ l.length) : (putL low l k).length = 10 + 8 * k := by
  unfold putL
  rw [List.length_append, List.length_append, be_length, be_length, flat_length, List.length_take, Nat.min_eq_left h]

theorem enters_number : Enters Try.prog 43 := enters_of Try.func43 (by kernel_rfl) rfl

/-- A number's bytes, told as a row of their own. -/
theorem number_made (v n : Nat) (w wx : World) (hk : Keep w wx) (hn : n ≤ 8) (hv : v < 18446744073709551616) :
    Calls Try.prog 43 #[.int .u64 (v : Int), .int .i64 (n : Int)] wx fun e w' => ∃ g : Nat, e = .returned (.slice (some ⟨g, 0, none⟩) n n) ∧ Keep w w' ∧ Row w' g 5 (byt (be v n)) (0, 0) ∧ w.heap.size ≤ g ∧ (∀ (g' : Nat) (L : List Value), Row wx g' 5 L (0, 0) → Row w' g' 5 L (0, 0)) :=
  (rnumber_any v n wx hn hv).mono fun _ _ ⟨h1, h2, h3⟩ => ⟨wx.heap.size, h1, hk.then h2, h3, Below.size hk, fun _ _ hr => hr.below h2 hr.lt⟩

theorem row_own {w : World} {g n v base : Nat} (h : Row w g 5 (byt (be v n)) (0, 0)) (hb : base ≤ g) (hn : n ≤ 8) : w.ownsRow base 5 1 (.slice (some ⟨g, 0, none⟩) n n) n (byt (be v n)) :=
  ⟨by rw [byt_length, be_length, Nat.mul_one], .inr ⟨g, n, (byt (be v n)).toArray, rfl, hb, h, Nat.le_refl _, by unfold maxLen; omega, by rw [List.size_toArray, byt_length, be_length, Nat.mul_one], by rw [List.take_of_length_le]; rw [byt_length, be_length, Nat.mul_one]; exact Nat.le_refl _⟩⟩
theorem row_told {w : World} {g n v : Nat} (h : Row w g 5 (byt (be v n)) (0, 0)) : Reads 5 w (some ⟨g, 0, none⟩) (be v n) :=
  fun _ => ⟨g, 0, byt (be v n), (0, 0), rfl, h, fun j _ => by rw [Nat.zero_add]⟩

set_option maxRecDepth 100000 in
set_option maxHeartbeats 4000000 in
theorem rput_any (x : LV) (w : World) (h : x.In w) (hn : x.n ≤ 1100) : Calls Try.prog 28 #[.agg #[.int .u64 (x.low : Int), .slice x.A x.n x.c]] w (GotB w x.s.putB x.s.putE) := by
  obtain ⟨i0, hi0, hz0, hz1, hz2⟩ := info_parts Try.info_u8
  have HX := Lib.hid (fun w (h : x.In w) => rright_any x w h (by omega))
  have HI := Lib.hid (h.alloc (.cells #[.int .u64 (x.low : Int), .slice x.A x.n x.c] 25))
  have HE := Lib.hid (show x.s.putE = if x.s.right then 0 else 40 from rfl)
  have HZ := Lib.hid (show x.s.putB = if x.s.right then x.s.bytes else [] from rfl)
  have HRI := Lib.hid (LS.right_iff x.s).1
  have HFI := Lib.hid h.ins
  have HLO := Lib.hid h.low
  obtain ⟨Z, hZ⟩ : ∃ Z, x.s.putB = Z := ⟨_, rfl⟩
  obtain ⟨E, hE⟩ : ∃ E, x.s.putE = E := ⟨_, rfl⟩
  rw [hZ] at HZ ⊢
  rw [hE] at HE ⊢
  clear hZ hE
  obtain ⟨b, hb⟩ : ∃ b, x.s.right = b := ⟨_, rfl⟩
  rw [hb] at HX HE HZ HRI
  clear hb
  obtain ⟨low, A, n, c, l⟩ := x
  obtain ⟨hl, hc, hnil, HR⟩ := h.parts
  clear h hc hnil HR
  simp only [LV.v, LV.s] at hn HI HX HZ HRI HFI HLO ⊢
  subst hl
  have HN := Lib.hid (below_new w (.cells #[.int .u64 (low : Int), .slice A l.length c] 25))
  have HL := Lib.hid (LiesS.new w low A l.length c)
  go_enter Try.func28, Try.ntmps28
  go_wp2_with fail
  refine (HX.out _ HI.out).mono ?_
  rintro e w1 ⟨rfl, hb1⟩
  have HL1 := Lib.hid (HL.out.keeps hb1)
  have HI1 := Lib.hid (HI.out.keeps hb1)
  have HN1 := Lib.hid (HN.out.trans (hb1.mono HN.out.size))
  clear hb1 HI HX HL HN
  cases b
  · have e1 : E = 40 := HE.out
    have e2 : Z = [] := HZ.out
    subst e1
    subst e2
    clear HE HZ
    go_wp2
    go_ret2
    exact ⟨none, 0, rfl, Nat.le_refl _, fun _ => rfl, Reads.nil, HN1.out⟩
  · have hri := HRI.out (by trivial)
    have hlen : l.length ≤ 1000 := hri.1
    clear hri HRI
    have e1 : E = 0 := HE.out
    have e2 : Z = LS.bytes ⟨low, l⟩ := HZ.out
    subst e1
    subst e2
    clear HE HZ
    go_wp2_with fail
    have hk0 : Keep w1 w1.drew := (Below.refl _ w1).drew
    have hk1 : Keep w1 w1 := Below.refl _ w1
    have c0 := HL1.out.c0
    have c1 := HL1.out.c1
    have HC := Lib.hid (show ∀ wx, Keep w1 wx → wx.cell? ⟨w.heap.size, 0, none⟩ = some (.int .u64 (low : Int)) ∧ wx.cell? ⟨w.heap.size, 1, none⟩ = some (.slice A l.length c) from fun wx hk => ⟨(HL1.out.keep hk).c0, (HL1.out.keep hk).c1⟩)
    have k8 := Lib.hid (fun wx (hk : Keep w1 wx) => show Calls Try.prog 43 #[.int .u64 (low : Int), .int .i64 8] wx fun e w' => ∃ g : Nat, e = .returned (.slice (some ⟨g, 0, none⟩) 8 8) ∧ Keep w1 w' ∧ Row w' g 5 (byt (be low 8)) (0, 0) ∧ w1.heap.size ≤ g ∧ (∀ (g' : Nat) (L : List Value), Row wx g' 5 L (0, 0) → Row w' g' 5 L (0, 0)) from number_made low 8 w1 wx hk (by omega) HLO.out)
    have k2 := Lib.hid (fun wx (hk : Keep w1 wx) => show Calls Try.prog 43 #[.int .u64 (l.length : Int), .int .i64 2] wx fun e w' => ∃ g : Nat, e = .returned (.slice (some ⟨g, 0, none⟩) 2 2) ∧ Keep w1 w' ∧ Row w' g 5 (byt (be l.length 2)) (0, 0) ∧ w1.heap.size ≤ g ∧ (∀ (g' : Nat) (L : List Value), Row wx g' 5 L (0, 0) → Row w' g' 5 L (0, 0)) from number_made l.length 2 w1 wx hk (by omega) (by omega))
    have HG := Lib.hid (fun (wb w3 : World) (ga : Nat) (v : Value) (hk : Keep w1 wb) (hga : w1.heap.size ≤ ga) (hown : w3.ownsRow w1.heap.size 5 1 v (8 + 2) (byt (be low 8) ++ byt (be l.length 2))) (hgr : wb.grownBy w3 (Value.slice (some ⟨ga, 0, none⟩) 8 8).ownBlock) =>
      show MadeB w1 (putL low l 0) v w3 from by
        have e : putL low l 0 = be low 8 ++ be l.length 2 := by simp [putL]
        refine ⟨?_, Below.grown hk hgr (Below.size hk) (fun k hk2 => ?_)⟩
        · rw [e, List.length_append, be_length, be_length, byt_append]
          exact hown
        · simp [Value.ownBlock] at hk2
          omega)
    have hwr : IntKind.u64.wrap (l.length : Int) = (l.length : Int) := IntWalk.u64_in _ (by omega)
    go_region_law (first
      | (refine step_call rfl 43 #[.tmp 10, .const (.int .i64 8)] _ (by rfl) #[.int .u64 (low : Int), .int .i64 8] (by simp [Act.eval, Act.put]) enters_number (k8.out _ (by assumption)) ?_; rintro e wa ⟨ga, rfl, hka, rowA, hga, keepA⟩; obtain ⟨a0, a1⟩ := HC.out wa hka; (try have rowB := keepA _ _ rowB); clear keepA; refine ⟨_, rfl, ?_⟩)
      | (refine step_call rfl 43 #[.tmp 15, .const (.int .i64 2)] _ (by rfl) #[.int .u64 (l.length : Int), .int .i64 2] (by simp [Act.eval, Act.put]) enters_number (k2.out _ (by assumption)) ?_; rintro e wb ⟨gb, rfl, hkb, rowB, hgb, keepB⟩; obtain ⟨b0, b1⟩ := HC.out wb hkb; (try have rowA := keepB _ _ rowA); clear keepB; refine ⟨_, rfl, ?_⟩)
      | (refine step_own_bytes (T := 5) rfl (.tmp 11) (.tmp 16) 44 (by rfl) w1.heap.size 5 i0 Try.underlying44 hi0 hz0 hz1 hz2 (.slice (some ⟨ga, 0, none⟩) 8 8) 8 _ (by rfl) (row_own rowA hga (by omega)) (some ⟨gb, 0, none⟩) (be l.length 2) 2 2 (by rfl) (be_length _ _) (row_told rowB) (fun e => by cases e) (by omega) (Below.size (by assumption : Keep w1 _)) ?_; intro v3 w3 hown hgr; have hmb := HG.out _ w3 ga v3 (by assumption) hga hown hgr; clear hown hgr))
    all_goals
      have HMB := Lib.hid hmb
      obtain ⟨A3, c3, hv, _⟩ := hmb.own
      subst hv
      have HPL := Lib.hid (show (putL low l 0).length = 10 by simp [putL, be_length])
      rw [HPL.out]
      clear hmb hwr c0 c1
      have c1 := (HL1.out.keep HMB.out.2).c1
      go_wp2_with fail
      clear c1
      go_loopw [4, 5] (fun v i wr => ∃ k : Nat, k ≤ l.length ∧ i = .int .i64 k ∧ MadeB w1 (putL low l k) v wr) (fun _ i _ => l.length - (intOf i).toNat)
      case atStart => exact ⟨0, by omega, rfl, by rw [← HPL.out]; exact HMB.out⟩
      case round =>
        obtain ⟨k, hk, rfl, hm⟩ := hrel
        have HMK := Lib.hid hm
        obtain ⟨A2, c2, hv, _⟩ := hm.own
        have HLN := Lib.hid (putL_length low l k hk)
        rw [HLN.out] at hv
        subst hv
        have c1 := (HL1.out.keep hm.2).c1
        clear hm HMB
        by_cases hlt : k < l.length
        · obtain ⟨g, off, rfl, hcell⟩ := (HI1.out.reads.keeps HMK.out.2).cells (show 0 < l.length by omega)
          have hk1 := hcell k hlt
          have HT := Lib.hid (putL_succ low l k hlt)
          have HYF := Lib.hid (HFI.out l[k] (List.getElem_mem _))
          obtain ⟨y, hy⟩ : ∃ y, l[k] = y := ⟨_, rfl⟩
          rw [hy] at hk1 HT HYF
          clear hcell hy
          have HN8 := Lib.hid (show Calls Try.prog 43 #[.int .u64 (y : Int), .int .i64 8] wr fun e w' => e = .returned (.slice (some ⟨wr.heap.size, 0, none⟩) 8 8) ∧ Below wr.heap.size wr w' ∧ Row w' wr.heap.size 5 (byt (be y 8)) (0, 0) from rnumber_any y 8 wr (by omega) HYF.out)
          go_wp2_with fail
          refine HN8.out.mono ?_
          rintro e w4 ⟨rfl, hb4, hrow4⟩
          have HM4 := Lib.hid (HMK.out.keep hb4)
          have HR4 := Lib.hid (row_told hrow4)
          have HOW := Lib.hid (show w4.ownsRow w1.heap.size 5 1 (.slice A2 (10 + 8 * k) c2) (10 + 8 * k) (byt (putL low l k)) by have := HM4.out.1; rwa [HLN.out] at this)
          have HSZ4 := Lib.hid HM4.out.2.size
          clear hb4 hrow4 hk1 c1
          go_wp2_with (at_builtin; refine wpList_own_bytes (T := 5) rfl (.tmp 25) (.tmp 31) 44 rfl w1.heap.size 5 i0 Try.underlying44 hi0 hz0 hz1 hz2 (.slice A2 (10 + 8 * k) c2) (10 + 8 * k) _ rfl HOW.out (some ⟨wr.heap.size, 0, none⟩) (be y 8) 8 8 rfl (be_length _ _) HR4.out (fun e => by cases e) (by omega) HSZ4.out ?_)
          intro v5 w5 hown hgr
          have HM5 := Lib.hid (show MadeB w1 (putL low l (k + 1)) v5 w5 by
            rw [HT.out]
            exact HM4.out.more (m := 8) (be_length _ _) (by rw [HLN.out]; exact hown) hgr)
          clear hown hgr
          go_wp2
          go_roundw
          case rel => exact ⟨k + 1, by omega, by go_num, HM5.out⟩
          case measure => simp [intOf]; omega
        · obtain rfl : k = l.length := by omega
          obtain ⟨A', c', hv, hc, hnil, hrd⟩ := HMK.out.own
          have HB := Lib.hid (HN1.out.trans (HMK.out.2.mono HN1.out.size))
          have HRD := Lib.hid hrd
          rw [HLN.out, Value.slice.injEq] at hv
          obtain ⟨rfl, _, rfl⟩ := hv
          have HCC := Lib.hid hc
          have HNIL := Lib.hid hnil
          clear hrd hc hnil
          obtain ⟨n, hn⟩ : ∃ n, 10 + 8 * l.length = n := ⟨_, rfl⟩
          rw [hn] at HLN ⊢
          clear hn HMK
          go_wp2
          go_ret2
          have e := HLN.out
          subst e
          have h1 := HCC.out
          have h2 := HRD.out
          rw [putL_all] at h1 h2 ⊢
          exact ⟨_, _, rfl, h1, HNIL.out, h2, HB.out⟩

end Go.Proofs.Ytpjgmblhlhnniaa
