/-
  slices.Reverse of numbers of the call's own; the steps of a search, each with its way back; way.
-/
import Derived.Test.YtbkhojopiimbdaaWaiGraph
namespace Go.Proofs.Ytbkhojopiimbdaa
open Go.RowKit

/-- Turned round from both ends, so far. -/
def RevAt (d0 d : Array Nat) (i : Nat) : Prop := d.size = d0.size ∧ ∀ m, m < d0.size → d[m]! = if m < i ∨ d0.size - i ≤ m then d0[d0.size - 1 - m]! else d0[m]!
theorem RevAt.start (d : Array Nat) : RevAt d d 0 := ⟨rfl, fun m hm => by rw [if_neg (by omega)]⟩
theorem RevAt.step {d0 d : Array Nat} {i j : Nat} (h : RevAt d0 d i) (hij : i < j) (hn : i + j + 1 = d0.size) : RevAt d0 (Sort.swp d i j) (i + 1) := by
  refine ⟨by rw [Sort.size_swp]; exact h.1, fun m hm => ?_⟩
  have hs := h.1
  by_cases hmi : m = i
  · subst hmi
    rw [Sort.swp_left d m j (by omega) (by omega), h.2 j (by omega), if_neg (by omega), if_pos (by omega)]
    congr 1
    omega
  · by_cases hmj : m = j
    · subst hmj
      rw [Sort.swp_right d i m (by omega), h.2 i (by omega), if_neg (by omega), if_pos (by omega)]
      congr 1
      omega
    · rw [Sort.swp_other d i j m hmi hmj, h.2 m hm]
      by_cases hc : m < i ∨ d0.size - i ≤ m
      · rw [if_pos hc, if_pos (by omega)]
      · rw [if_neg hc, if_neg (by omega)]
theorem RevAt.done {d0 d : Array Nat} {i j : Nat} (h : RevAt d0 d i) (hij : ¬ i < j) (hn : i + j + 1 = d0.size) : d.toList = d0.toList.reverse := by
  refine List.ext_getElem (by simp [h.1]) fun m h1 h2 => ?_
  have hm : m < d0.size := by simpa [h.1] using h1
  have hmd : m < d.size := by rw [h.1]; exact hm
  have := h.2 m hm
  rw [getElem!_pos d m hmd] at this
  rw [Array.getElem_toList, this]
  simp only [List.getElem_reverse, Array.getElem_toList, Array.length_toList]
  by_cases hc : m < i ∨ d0.size - i ≤ m
  · rw [if_pos hc, getElem!_pos d0 _ (by omega)]
  · rw [if_neg hc, getElem!_pos d0 m hm]
    congr 1
    omega

set_option maxRecDepth 100000 in
set_option maxHeartbeats 4000000 in
theorem rev_row (w0 : World) (g n c : Nat) (rest : List Value) (d : Array Nat) (w : World) (h : SD w0 g rest d w) (hd : d.size = n) (h0 : 0 < n) (hn : n ≤ 100000) :
    Calls Try.prog 18 #[.slice (some ⟨g, 0, none⟩) n c] w fun e w' => e = .returned (.tuple #[]) ∧ ∃ d', d'.toList = d.toList.reverse ∧ SD w0 g rest d' w' := by
  have HS := Lib.hid h
  have HR := Lib.hid (RevAt.start d)
  obtain ⟨d0, hd0⟩ : ∃ x, d = x := ⟨_, rfl⟩
  have HR := Lib.hid (show RevAt d0 d 0 from hd0 ▸ HR.out)
  rw [hd0]
  have HZ := Lib.hid (show d0.size = n from hd0 ▸ hd)
  clear h hd hd0
  obtain ⟨b1, hb1⟩ : ∃ b1, n - 1 = b1 := ⟨_, rfl⟩
  have eb : (n : Int) - 1 = (b1 : Int) := by omega
  have hb1n : b1 < n := by omega
  have hs0 : 0 + b1 + 1 = n := by omega
  clear hb1
  go_enter Try.func18, Try.ntmps18
  go_wp2
  go_loopw [2, 3] (fun s t wr => ∃ (i j : Nat) (d : Array Nat), i + j + 1 = n ∧ s = .int .i64 i ∧ t = .int .i64 j ∧ Hid (RevAt d0 d i) ∧ Hid (SD w0 g rest d wr)) (fun s _ _ => n + 1 - (intOf s).toNat)
  case atStart => exact ⟨0, b1, d, hs0, rfl, rfl, HR, HS⟩
  case round =>
    clear HR HS
    obtain ⟨i, j, d, hs, rfl, rfl, HR, HS⟩ := hrel
    have HD := Lib.hid (show d.size = n from HR.out.1.trans HZ.out)
    by_cases hij : i < j
    · obtain ⟨k, rfl⟩ : ∃ k, j = k + 1 := ⟨j - 1, by omega⟩
      have HR2 := Lib.hid (HR.out.step hij (by rw [HZ.out]; exact hs))
      obtain ⟨p, hp⟩ : ∃ p, k + 1 = p := ⟨_, rfl⟩
      have ep : ((p : Int) - 1) = (k : Int) := by omega
      rw [hp] at HR2 hij hs
      have hj : p < n := by omega
      have HG := Lib.hid (HS.out.drew.swp (i := i) (j := p) (by rw [HD.out]; omega) (by rw [HD.out]; exact hj))
      have g1 := HS.out.cell (j := i) (by rw [HD.out]; omega)
      have g2 := HS.out.cell (j := p) (by rw [HD.out]; exact hj)
      have f1 := HS.out.free i
      have f2 := HS.out.free p
      obtain ⟨x, hx⟩ : ∃ x, d[i]! = x := ⟨_, rfl⟩
      obtain ⟨y, hy⟩ : ∃ y, d[p]! = y := ⟨_, rfl⟩
      rw [hx, hy] at HG
      rw [hx] at g1
      rw [hy] at g2
      have i0 : (0 : Int) ≤ (i : Int) := by omega
      have i1 : (i : Int) < (n : Int) := by omega
      have i2 : (0 : Int) ≤ (p : Int) := by omega
      have i3 : (p : Int) < (n : Int) := by omega
      have hkn : (i + 1) + k + 1 = n := by omega
      have hkk : k < n := by omega
      have hii : i < n := by omega
      rw [hp]
      clear hx hy hp HR eb
      go_wp2_with fail
      go_region
      all_goals
        go_wp2
        go_roundw
        case rel => exact ⟨i + 1, k, _, hkn, by go_num, rfl, HR2, Lib.hid HG.out⟩
        case measure => simp [intOf]; omega
    · have hD := HR.out.done hij (by rw [HZ.out]; exact hs)
      go_wp2
      go_end0
      exact ⟨rfl, d, hD, HS.out⟩

set_option maxRecDepth 100000 in
set_option maxHeartbeats 2000000 in
theorem rev_nil (A : Option Addr) (c : Nat) (w : World) : Calls Try.prog 18 #[.slice A 0 c] w fun e w' => e = .returned (.tuple #[]) ∧ w' = w := by
  go_enter Try.func18, Try.ntmps18
  go_wp2
  go_loopw [2, 3] (fun s t wr => s = .int .i64 0 ∧ t = .int .i64 (-1) ∧ wr = w) (fun _ _ _ => 0)
  case atStart => exact ⟨rfl, rfl, rfl⟩
  case round =>
    obtain ⟨rfl, rfl, rfl⟩ := hrel
    go_wp2
    go_end0
    exact ⟨rfl, rfl⟩

theorem rev_own (w : World) (base : Nat) (v : Value) (l : List Nat) (h : w.ownsRow base 23 1 v l.length (nv l)) (hl : l.length ≤ 1000) :
    Calls Try.prog 18 #[v] w fun e w' => e = .returned (.tuple #[]) ∧ w'.ownsRow base 23 1 v l.reverse.length (nv l.reverse) ∧ w.grownBy w' v.ownBlock := by
  obtain ⟨hlen, h0 | ⟨g, cap, cur, rfl, hg, hb, hc, hm, hsz, ht⟩⟩ := h
  · obtain ⟨rfl, hl0⟩ := h0
    obtain rfl := List.eq_nil_of_length_eq_zero hl0
    refine (rev_nil none 0 w).mono fun e w' ⟨he, hw⟩ => ⟨he, ?_, ?_⟩
    · rw [hw]; exact ⟨hlen, .inl ⟨rfl, rfl⟩⟩
    · rw [hw]; exact only_refl _ _
  · by_cases hl0 : l.length = 0
    · obtain rfl := List.eq_nil_of_length_eq_zero hl0
      refine (rev_nil (some ⟨g, 0, none⟩) cap w).mono fun e w' ⟨he, hw⟩ => ⟨he, ?_, ?_⟩
      · rw [hw]; exact ⟨hlen, .inr ⟨g, cap, cur, rfl, hg, hb, hc, hm, hsz, ht⟩⟩
      · rw [hw]; exact only_refl _ _
    · rw [Nat.mul_one] at ht hsz
      obtain ⟨rest, hrest⟩ : ∃ rest, cur.toList.drop l.length = rest := ⟨_, rfl⟩
      have hcur : cur = (nv l.toArray.toList ++ rest).toArray := by
        rw [← hrest, List.toList_toArray, ← ht, List.take_append_drop]
      have hrow : Row w g 23 (nv l.toArray.toList ++ rest) (0, 0) := by
        show w.heap[g]? = _
        rw [hb, hcur]
      have hs : SD w g rest l.toArray w := ⟨hrow, only_refl _ _⟩
      refine (rev_row w g l.length cap rest l.toArray w hs (by simp) (by omega) (by omega)).mono fun e w' ⟨he, d, hd, hsd⟩ => ?_
      have hd2 : d.toList = l.reverse := by simpa using hd
      have hrw := hsd.row
      rw [hd2] at hrw
      refine ⟨he, ⟨by rw [nv_length, Nat.mul_one], .inr ⟨g, cap, _, by rw [List.length_reverse], hg, hrw, by rw [List.length_reverse]; exact hc, hm, ?_, ?_⟩⟩, hsd.grow⟩
      · have h1 : cur.size = cap := hsz
        rw [hcur] at h1
        simp only [List.size_toArray, List.length_append, nv_length, List.length_reverse] at h1 ⊢
        try simp only [List.toList_toArray] at h1
        omega
      · rw [Nat.mul_one]
        show (nv l.reverse ++ rest).take _ = _
        rw [List.take_append_of_le_length (by rw [nv_length]; exact Nat.le_refl _), List.take_of_length_le (by rw [nv_length]; exact Nat.le_refl _)]

theorem wpList_num {ops : Array Oper} {rest : List Oper} {o : Oper} {a : Act} {Q : Exit → Act → World → Prop} (w : World) (hgd : o.guard = none) (s x : Operand)
    (ho : o.op = .call { callee := .builtin .append, args := #[s, x], argTypes := #[26, 26] }) (base : Nat) (v : Value) (L : List Nat) (z g : Nat) (h : w.ownsRow base 23 1 v L.length (nv L)) (hs : a.eval s = v) (hx : a.eval x = .slice (some ⟨g, 0, none⟩) 1 1)
    (hc : w.cell? ⟨g, 0, none⟩ = some (.int .u64 (z : Int))) (hl : L.length ≤ 100000) (hb : base ≤ w.heap.size)
    (hk : ∀ v' w', w'.ownsRow base 23 1 v' (L.length + 1) (nv (L ++ [z])) → w.grownBy w' v.ownBlock → wpList Try.prog ops Q rest (a.put o.dst v') w') : wpList Try.prog ops Q (o :: rest) a w := by
  refine wpList_plain hgd fun K hK => ?_
  obtain ⟨v', w', hrn, h2, h3, _⟩ := run_num w base v L z g h hc hl hb o.type
  unfold Oper.wp execOp
  simp only [ho, resolve, invoke, builtin, Sem.run_bind, Sem.run_pure, Result.andThen_ok, List.map_toArray, List.map_cons, List.map_nil, hs, hx, hrn]
  exact hK _ _ (hk v' w' h2 h3)

/-- From a step back to the first one: the numbers of these. -/
def Chain (w : World) : Option Addr → List Nat → Prop
  | p, [] => p = none
  | p, x :: r => ∃ g p', p = some ⟨g, 0, none⟩ ∧ Row w g 44 [.int .u64 (x : Int), .pointer p'] (0, 0) ∧ Chain w p' r
theorem Chain.grown {w w' : World} {row : Option Nat} (hg : w.grownBy w' row) (hr : ∀ g T cs m, row = some g → Row w g T cs m → T ≠ 44) : ∀ {p : Option Addr} {L : List Nat}, Chain w p L → Chain w' p L
  | _, [], h => h
  | _, _ :: _, ⟨g, p', hp, hrow, h⟩ => ⟨g, p', hp, hrow.grown hg (fun e => hr g _ _ _ e.symm hrow rfl), h.grown hg hr⟩
theorem Chain.keeps {w w' : World} (hb : Below w.heap.size w w') {p : Option Addr} {L : List Nat} (h : Chain w p L) : Chain w' p L := h.grown (row := none) (only_below hb none) (fun _ _ _ _ e => by cases e)

theorem slen_own {w : World} {base : Nat} {e : TypeId} {sz n : Nat} {v : Value} {xs : List Value} (h : w.ownsRow base e sz v n xs) : slen v = n := by
  obtain ⟨A, c, rfl, _⟩ := ownsRow_lit h
  rfl
/-- A row of numbers is no step. -/
theorem own_noStep {w : World} {base : Nat} {n : Nat} {v : Value} {xs : List Value} (h : w.ownsRow base 23 1 v n xs) : ∀ g T cs m, v.ownBlock = some g → Row w g T cs m → T ≠ 44 := by
  intro g T cs m hg hr
  rcases h.2 with ⟨rfl, _⟩ | ⟨g', cap, cur, rfl, _, hg', _⟩
  · cases hg
  · injection hg with hg
    subst hg
    have e1 := hg'.symm.trans hr
    injection e1 with e1
    injection e1 with _ e1 _
    subst e1
    decide

/-- What way hands back. -/
def WayV (L : List Nat) (w : World) (e : Ending) (w' : World) : Prop :=
  ∃ v, e = .returned v ∧ w'.ownsRow w.heap.size 23 1 v L.reverse.length (nv L.reverse) ∧ Below w.heap.size w w'

set_option maxRecDepth 100000 in
set_option maxHeartbeats 4000000 in
theorem way_any (L : List Nat) (p : Option Addr) (w : World) (h : Chain w p L) (hn : L.length ≤ 1000) :
    Calls Try.prog 15 #[.pointer p] w (WayV L w) := by
  obtain ⟨POST, hPO⟩ : ∃ POST, WayV L w = POST := ⟨_, rfl⟩
  have HFIN := Lib.hid (fun v w' (h1 : w'.ownsRow w.heap.size 23 1 v L.reverse.length (nv L.reverse)) (h2 : Below w.heap.size w w') => show POST (.returned v) w' from hPO ▸ ⟨v, rfl, h1, h2⟩)
  rw [hPO]
  clear hPO
  have HC := Lib.hid h
  clear h
  go_enter Try.func15, Try.ntmps15
  go_wp2_with fail
  go_loopw [0, 3] (fun s v wr => ∃ (p : Option Addr) (done rest : List Nat), s = .pointer p ∧ slen v = done.length ∧ done ++ rest = L ∧ Hid (Chain wr p rest ∧ wr.ownsRow w.heap.size 23 1 v done.length (nv done) ∧ Below w.heap.size w wr)) (fun _ v _ => L.length + 1 - slen v)
  case atStart => exact ⟨p, [], L, rfl, rfl, rfl, Lib.hid ⟨HC.out, World.ownsRow_nil _ _ _ _, Below.refl _ _⟩⟩
  case round =>
    clear HC
    obtain ⟨p, done, rest, rfl, hsl, hdr, HH⟩ := hrel
    obtain ⟨Av, cv, hv, hcv, hcv0, _⟩ := ownsRow_lit HH.out.2.1
    subst hv
    clear hsl hcv0
    match rest, hdr, HH with
    | [], hdr, HH =>
      obtain rfl : p = none := HH.out.1
      rw [List.append_nil] at hdr
      subst hdr
      have HR := Lib.hid (rev_own wr w.heap.size _ done HH.out.2.1 hn)
      go_wp2_with fail
      refine HR.out.mono ?_
      rintro e w2 ⟨rfl, ho, hg⟩
      have HF := Lib.hid (HFIN.out _ w2 ho (Below.grown HH.out.2.2 hg HH.out.2.2.size (fun g hg => (HH.out.2.1.lt g hg).1)))
      clear ho hg HR HH HFIN
      go_wp2_with fail
      exact HF.out
    | x :: r, hdr, HH =>
      obtain ⟨hch, hrow, hbl⟩ := HH.out
      obtain ⟨g, p', rfl, hst, hch⟩ := hch
      clear HH
      have c0 : wr.cell? ⟨g, 0, none⟩ = some (.int .u64 (x : Int)) := hst.cell 0
      have hdl : done.length ≤ 1000 := by
        have := congrArg List.length hdr
        rw [List.length_append] at this
        omega
      have HO := Lib.hid (World.ownsRow.alloc hrow (.cells #[.int .u64 (x : Int)] 23))
      have HST := Lib.hid (Row.alloc hst (.cells #[.int .u64 (x : Int)] 23))
      have HCH := Lib.hid (hch.keeps (below_new wr (.cells #[.int .u64 (x : Int)] 23)))
      have HBL := Lib.hid (Below.alloc hbl hbl.size (.cells #[.int .u64 (x : Int)] 23))
      have HN := Lib.hid (show (wr.alloc (.cells #[.int .u64 (x : Int)] 23)).cell? ⟨wr.heap.size, 0, none⟩ = some (.int .u64 (x : Int)) from new_one wr _ _ 0 _ rfl)
      clear hst hrow hbl hch
      go_wp2_with (at_builtin; refine wpList_num _ rfl (.tmp 10) (.tmp 15) (by rfl) w.heap.size _ done x wr.heap.size HO.out (by rfl) (by rfl) HN.out (by omega) HBL.out.size ?_)
      intro v' w4 h5 h6
      have HNX := Lib.hid (show Chain w4 p' r ∧ w4.ownsRow w.heap.size 23 1 v' (done ++ [x]).length (nv (done ++ [x])) ∧ Below w.heap.size w w4 from
        ⟨HCH.out.grown h6 (own_noStep HO.out), by rw [List.length_append]; exact h5, Below.grown HBL.out h6 HBL.out.size (fun g hg => (HO.out.lt g hg).1)⟩)
      have c1 : w4.cell? ⟨g, 1, none⟩ = some (.pointer p') := (HST.out.grown h6 (fun e => own_noStep HO.out _ _ _ _ e.symm HST.out rfl)).cell 1
      have hsl := slen_own h5
      have hdr2 : (done ++ [x]) ++ r = L := by rw [List.append_assoc]; exact hdr
      clear h5 h6 HO HST HCH HBL HN c0 hdr
      go_wp2_with fail
      go_roundw
      case rel => exact ⟨p', done ++ [x], r, rfl, by rw [hsl]; simp, hdr2, HNX⟩
      case measure =>
        simp only [slen] at hsl ⊢
        have := congrArg List.length hdr2
        simp at this
        simp [hsl]
        omega
end Go.Proofs.Ytbkhojopiimbdaa
