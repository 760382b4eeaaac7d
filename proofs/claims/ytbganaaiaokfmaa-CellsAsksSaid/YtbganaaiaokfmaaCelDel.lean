/-
  The code's Delete: what is kept of a copy.
-/
import Derived.Test.YtbganaaiaokfmaaCelPut
namespace Go.Proofs.Ytbganaaiaokfmaa
open Go.RowKit

/-- Cells without a key's, as they lie. -/
def delB (l : List CB) (k : Txt) : List CB := l.take (belowN (cels l) k) ++ l.drop (uptoN (cels l) k)
theorem delB_cels {l : List CB} (h : Srt (cels l)) (k : Txt) : cels (delB l k) = delC (cels l) k := by
  rw [del_cut h]
  unfold delB cels
  simp [List.map_take, List.map_drop]
/-- No such key: all of them. -/
theorem delB_none {l : List CB} (h : Srt (cels l)) {k : Txt} (hn : ∀ j (hj : j < l.length), l[j].1.toList ≠ k) : delB l k = l := by
  apply cels_inj
  rw [delB_cels h]
  unfold delC
  rw [List.filter_eq_self]
  intro x hx
  obtain ⟨y, hy, rfl⟩ := List.mem_map.1 hx
  obtain ⟨j, hj, rfl⟩ := List.getElem_of_mem hy
  exact bne_iff_ne.2 (hn j hj)
/-- The key's place. -/
theorem delB_at {l : List CB} (h : Srt (cels l)) {k : Txt} {q : Nat} (hq : q < l.length) (he : l[q].1.toList = k) : delB l k = l.take q ++ l.drop (q + 1) ∧ ∀ j (hj : j < l.length), q < j → l[j].1.toList ≠ k := by
  have hq' : q < (cels l).length := by rw [cels_length]; exact hq
  obtain ⟨ub1, ub2, ub3⟩ := upto_below h k
  have h1 : q < uptoN (cels l) k := (cnt_iff (low_ble k) h hq').2 (by rw [cels_get l q hq]; show ble l[q].1.toList k = true; rw [he]; exact ble_refl k)
  have h2 : ¬ q < belowN (cels l) k := fun hlt => by
    have := (cnt_iff (low_bl k) h hq').1 hlt
    rw [cels_get l q hq] at this
    have h3 : bl l[q].1.toList k = true := this
    rw [he, bl_irrefl] at h3
    cases h3
  have e1 : belowN (cels l) k = q := by omega
  have e2 : uptoN (cels l) k = q + 1 := by omega
  refine ⟨by unfold delB; rw [e1, e2], fun j hj hlt e => ?_⟩
  have h3 : j < uptoN (cels l) k := (cnt_iff (low_ble k) h (by rw [cels_length]; exact hj)).2 (by rw [cels_get l j hj]; show ble l[j].1.toList k = true; rw [e]; exact ble_refl k)
  omega
/-- In the middle of moving down: q's place is free, the cells up to j have moved. -/
def shl (l : List CB) (q i : Nat) : List CB := (l.take q ++ (l.take (i + 1)).drop (q + 1)) ++ l.drop i
theorem shl_pre {l : List CB} {q i : Nat} (h1 : q ≤ i) (h2 : i + 1 ≤ l.length) : (l.take q ++ (l.take (i + 1)).drop (q + 1)).length = i := by
  rw [List.length_append, List.length_drop, List.length_take, List.length_take]
  omega
theorem shl_length {l : List CB} {q i : Nat} (h1 : q ≤ i) (h2 : i + 1 ≤ l.length) : (shl l q i).length = l.length := by
  unfold shl
  rw [List.length_append, shl_pre h1 h2, List.length_drop]
  omega
theorem shl_start {l : List CB} {q : Nat} (h : q + 1 ≤ l.length) : shl l q q = l := by
  unfold shl
  rw [show (l.take (q + 1)).drop (q + 1) = [] from List.drop_eq_nil_of_le (by rw [List.length_take]; omega), List.append_nil, List.take_append_drop]
theorem shl_get {l : List CB} {q i : Nat} (h1 : q ≤ i) (h2 : i + 1 < l.length) : (shl l q i)[i + 1]? = some l[i + 1] := by
  unfold shl
  rw [List.getElem?_append_right (by rw [shl_pre h1 (by omega)]; omega), shl_pre h1 (by omega), List.getElem?_drop, show i + (i + 1 - i) = i + 1 by omega, List.getElem?_eq_getElem h2]
theorem shl_step {l : List CB} {q i : Nat} (h1 : q ≤ i) (h2 : i + 1 < l.length) : (shl l q i).set i l[i + 1] = shl l q (i + 1) := by
  have hp := shl_pre (l := l) h1 (by omega)
  unfold shl
  rw [List.set_append_right _ _ (by rw [hp]; exact Nat.le_refl _), hp, Nat.sub_self, List.drop_eq_getElem_cons (show i < l.length by omega), List.set_cons_zero]
  have e : (l.take (i + 1 + 1)).drop (q + 1) = (l.take (i + 1)).drop (q + 1) ++ [l[i + 1]] := by
    rw [List.take_succ_eq_append_getElem h2, List.drop_append_of_le_length (by rw [List.length_take]; omega)]
  rw [e]
  simp
theorem shl_end {l : List CB} {q n : Nat} (h1 : q ≤ n) (h2 : n + 1 = l.length) : (shl l q n).take n = l.take q ++ l.drop (q + 1) := by
  unfold shl
  rw [List.take_append_of_le_length (by rw [shl_pre h1 (by omega)]; exact Nat.le_refl _), List.take_of_length_le (by rw [shl_pre h1 (by omega)]; exact Nat.le_refl _), h2, List.take_length]
theorem celr_set : ∀ (X : List CB) (i : Nat) (x : CB) (t : List Value), i < X.length → ((celr X ++ t).set (i * 2) (.string x.1)).set (i * 2 + 1) (.string x.2) = celr (X.set i x) ++ t
  | [], _, _, _, h => absurd h (Nat.not_lt_zero _)
  | y :: X, 0, x, t, _ => rfl
  | y :: X, i + 1, x, t, h => by
    have := celr_set X i x t (by simpa using h)
    show (((celC y ++ celr X ++ t).set ((i + 1) * 2) (.string x.1)).set ((i + 1) * 2 + 1) (.string x.2)) = celC y ++ celr (X.set i x) ++ t
    rw [List.append_assoc, List.append_assoc, ← this]
    rw [show (i + 1) * 2 = i * 2 + 1 + 1 by omega]
    rfl
theorem celr_get {X : List CB} {i : Nat} {x : CB} (t : List Value) (h : X[i]? = some x) : (celr X ++ t)[i * 2]? = some (.string x.1) ∧ (celr X ++ t)[i * 2 + 1]? = some (.string x.2) := by
  obtain ⟨hi, rfl⟩ := List.getElem?_eq_some_iff.1 h
  obtain ⟨h1, h2⟩ := celr_at X i hi
  have hl := celr_length X
  exact ⟨by rw [List.getElem?_append_left (by omega), h1], by rw [List.getElem?_append_left (by omega), h2]⟩
theorem below_set {B : Nat} {w w' : World} (h : Below B w w') {g : Nat} (hg : B ≤ g) (i : Nat) (u : Value) : Below B w (w'.setCell ⟨g, i, none⟩ u) := h.setCell hg _
theorem GrC.row {w0 w : World} {l : List CB} {A : Option Addr} {c : Nat} (h : GrC w0 l (.slice A l.length c) w) (h0 : 0 < l.length) : ∃ g t, A = some ⟨g, 0, none⟩ ∧ w0.heap.size ≤ g ∧ Row w g 38 (celr l ++ t) (0, 0) ∧ l.length ≤ c := by
  rcases h.1.2 with ⟨_, h1⟩ | ⟨k, cap, cur, hv, h1, hk, hc, _, _, ht⟩
  · omega
  · simp only [Value.slice.injEq] at hv
    obtain ⟨rfl, _, rfl⟩ := hv
    refine ⟨k, cur.toList.drop (l.length * 2), rfl, h1, ?_, hc⟩
    rw [← ht, List.take_append_drop]
    exact hk

set_option maxRecDepth 100000 in
theorem kdelF_any (k v key : ByteArray) (b : Nat) (w : World) (hb : w.cell? ⟨b, 0, none⟩ = some (.string key)) :
    Calls Try.prog 34 #[.agg #[.string k, .string v], .pointer (some ⟨b, 0, none⟩)] w fun e w' => e = .returned (.bool (!(k.toList == key.toList))) ∧ Below w.heap.size w w' := by
  obtain ⟨o, ho⟩ : ∃ o, w.alloc (.cells #[.string k, .string v] 38) = o := ⟨_, rfl⟩
  have HBo := Lib.hid (show Below w.heap.size w o from ho ▸ (Below.refl _ w).alloc (Nat.le_refl _) _)
  have hbo := (HBo.out.cell (p := ⟨b, 0, none⟩) (World.block_lt_of_cell? _ _ hb)).trans hb
  obtain ⟨B, hB⟩ : ∃ B, w.heap.size = B := ⟨_, rfl⟩
  have hRo : Row o B 38 [.string k, .string v] (0, 0) := hB ▸ ho ▸ Row.new w 38 [.string k, .string v] (0, 0)
  have o0 : o.cell? ⟨B, 0, none⟩ = some (.string k) := by rw [hRo.cell]; rfl
  obtain ⟨r, hr⟩ : ∃ r, (k.toList == key.toList) = r := ⟨_, rfl⟩
  rw [hr]
  clear hRo hb
  go_enter Try.func34, Try.ntmps34
  go_wp2
  go_ret
  exact ⟨rfl, HBo.out⟩

set_option maxRecDepth 100000 in
theorem kkeepF_any (k v key : ByteArray) (b b2 : Nat) (w : World) (hb : w.cell? ⟨b, 0, none⟩ = some (.string key)) (hb2 : w.cell? ⟨b2, 0, none⟩ = some (.func (.func 34) #[] #[.pointer (some ⟨b, 0, none⟩)])) :
    Calls Try.prog 49 #[.agg #[.string k, .string v], .pointer (some ⟨b2, 0, none⟩)] w fun e w' => e = .returned (.bool (k.toList == key.toList)) ∧ Below w.heap.size w w' := by
  obtain ⟨o, ho⟩ : ∃ o, w.alloc (.cells #[.string k, .string v] 38) = o := ⟨_, rfl⟩
  have HBo := Lib.hid (show Below w.heap.size w o from ho ▸ (Below.refl _ w).alloc (Nat.le_refl _) _)
  have hbo := (HBo.out.cell (p := ⟨b, 0, none⟩) (World.block_lt_of_cell? _ _ hb)).trans hb
  have hbo2 := (HBo.out.cell (p := ⟨b2, 0, none⟩) (World.block_lt_of_cell? _ _ hb2)).trans hb2
  obtain ⟨B, hB⟩ : ∃ B, w.heap.size = B := ⟨_, rfl⟩
  have hRo : Row o B 38 [.string k, .string v] (0, 0) := hB ▸ ho ▸ Row.new w 38 [.string k, .string v] (0, 0)
  have o0 : o.cell? ⟨B, 0, none⟩ = some (.string k) := by rw [hRo.cell]; rfl
  have o1 : o.cell? ⟨B, 1, none⟩ = some (.string v) := by rw [hRo.cell]; rfl
  have HD := Lib.hid (kdelF_any k v key b o hbo)
  obtain ⟨r, hr⟩ : ∃ r, (k.toList == key.toList) = r := ⟨_, rfl⟩
  rw [hr] at HD ⊢
  clear hRo hb hbo hb2
  go_enter Try.func49, Try.ntmps49
  go_wp2_with (go_at_call 34; refine HD.out.mono ?_; rintro e w' ⟨rfl, hb⟩)
  have HB1 := Lib.hid (HBo.out.trans (hb.mono HBo.out.size))
  clear hb
  go_ret
  exact ⟨by simp, HB1.out⟩

set_option maxRecDepth 100000 in
set_option maxHeartbeats 1000000 in
theorem kclone_any (A : Option Addr) (n c : Nat) (l : List CB) (w : World) (hl : Cels w A l) (hn : l.length = n) (hnb : n ≤ 1000000) (hnil : A = none → c = 0) :
    Calls Try.prog 48 #[.slice A n c] w fun e w' => ∃ v', e = .returned v' ∧ GrC w l v' w' := by
  have q22 : ∀ (w : World) (a : Option Addr) (n c n' c' : Nat), (binOp .eql 22 (.slice a n c) (.slice none n' c')).run Try.prog w = .ok (.bool a.isNone) w := fun w a n c n' c' => Lib.run_eql_slice_nil w _ _ a n c n' c' Try.underlying22
  cases A with
  | none =>
    obtain rfl := hnil rfl
    obtain rfl := hl.none_nil
    obtain rfl : n = 0 := by simpa using hn.symm
    clear hl hnil hn
    go_enter Try.func48, Try.ntmps48
    go_wp2
    go_ret
    exact ⟨_, rfl, GrC.nil (Below.refl _ _)⟩
  | some ad =>
    have HB := Lib.hid (show Below w.heap.size w (w.alloc (.cells #[] 38)) from (Below.refl _ _).alloc (Nat.le_refl _) _)
    have HG := Lib.hid (show GrC w [] (.slice (some ⟨w.heap.size, 0, none⟩) 0 0) (w.alloc (.cells #[] 38)) from ⟨World.ownsRow_made (base := w.heap.size) (e := 38) (size := 2) w #[] 0 (Nat.le_refl _) (Nat.zero_le _) rfl, HB.out⟩)
    have HL := Lib.hid (hl.alloc (.cells #[] 38))
    have HN := Lib.hid hn
    have HNB := Lib.hid hnb
    clear hl hnil hn hnb
    go_enter Try.func48, Try.ntmps48
    go_wp2_with (at_builtin; refine wpList_cels l rfl (.tmp 5) (.tmp 6) rfl rfl HG.out ad n c rfl HN.out HL.out (by simp) HNB.out ?_)
    intro u w1 hg1 _
    have HG1 := Lib.hid (show GrC w l u w1 by simpa using hg1)
    clear hg1
    go_wp2
    go_ret
    exact ⟨u, rfl, HG1.out⟩

/-- What a predicate that has the key asks. -/
def Asks (w0 : World) (b2 : Nat) (key : ByteArray) : Prop := ∀ (k v : ByteArray) wx, Below w0.heap.size w0 wx → Calls Try.prog 49 #[.agg #[.string k, .string v], .pointer (some ⟨b2, 0, none⟩)] wx fun e w' => e = .returned (.bool (k.toList == key.toList)) ∧ Below wx.heap.size wx w'

set_option maxRecDepth 100000 in
set_option maxHeartbeats 2000000 in
theorem kindex_any (w0 : World) (b2 : Nat) (key : ByteArray) (hp : Asks w0 b2 key) (A : Option Addr) (n c : Nat) (l : List CB) (w : World) (h0 : Below w0.heap.size w0 w) (hl : Cels w A l) (hn : l.length = n) (hnb : n ≤ 1000000) :
    Calls Try.prog 59 #[.slice A n c, .func (.func 49) #[] #[.pointer (some ⟨b2, 0, none⟩)]] w fun e w' => (∃ r : Int, e = .returned (.int .i64 r) ∧ ((r = -1 ∧ ∀ j (h : j < l.length), l[j].1.toList ≠ key.toList) ∨ ∃ (q : Nat) (hq : q < l.length), r = (q : Int) ∧ l[q].1.toList = key.toList)) ∧ Below w.heap.size w w' := by
  have HL := Lib.hid hl
  have HP := Lib.hid hp
  have H0 := Lib.hid h0
  have HB0 := Lib.hid (Below.refl w.heap.size w)
  have HHN := Lib.hid (fun _ : Unit => hn)
  clear hl hp h0 hn
  go_enter Try.func59, Try.ntmps59
  go_wp2_with fail
  go_loopw [8] (fun i wr => ∃ k : Nat, k ≤ n ∧ i = .int .i64 (k : Int) ∧ Hid (∀ j (h : j < l.length), j < k → l[j].1.toList ≠ key.toList) ∧ Hid (Below w.heap.size w wr)) (fun i _ => n - (intOf i).toNat)
  case atStart => exact ⟨0, Nat.zero_le _, rfl, Lib.hid (fun _ _ h => absurd h (Nat.not_lt_zero _)), HB0⟩
  case round =>
    obtain ⟨k, hk, rfl, HNk, HBk⟩ := hrel
    by_cases hlt : k < n
    · have hkI : (k : Int) < (n : Int) := by omega
      have hkl : k < l.length := by have := HHN.out (); omega
      obtain ⟨g, off, rfl, HC⟩ := HL.out.at_ hkl
      obtain ⟨c0, c1⟩ := HC.out k hkl wr HBk.out
      have HW := Lib.hid (show l[k].1.toList = key.toList → ∃ (q : Nat) (hq : q < l.length), (k : Int) = (q : Int) ∧ l[q].1.toList = key.toList from fun h => ⟨k, hkl, rfl, h⟩)
      have HNX := Lib.hid (fun (hne : l[k].1.toList ≠ key.toList) j (hj : j < l.length) (h : j < k + 1) => show l[j].1.toList ≠ key.toList by
        by_cases e : j = k
        · subst e; exact hne
        · exact HNk.out j hj (by omega))
      obtain ⟨ky, hky⟩ : ∃ ky, l[k].1 = ky := ⟨_, rfl⟩
      obtain ⟨vl, hvl⟩ : ∃ vl, l[k].2 = vl := ⟨_, rfl⟩
      rw [hky] at c0 HW HNX
      rw [hvl] at c1
      have HQ := Lib.hid (HP.out ky vl wr (H0.out.trans (HBk.out.mono H0.out.size)))
      obtain ⟨r, hr⟩ : ∃ r, (ky.toList == key.toList) = r := ⟨_, rfl⟩
      rw [hr] at HQ
      have HR := Lib.hid hr
      clear HC hky hvl hkl HNk HL HP hr
      cases r with
      | true =>
        go_wp2_with (go_at_call 49; refine HQ.out.mono ?_; rintro e w' ⟨rfl, hb⟩)
        have HB1 := Lib.hid (HBk.out.trans (hb.mono HBk.out.size))
        clear hb
        go_ret
        exact ⟨⟨_, rfl, .inr (HW.out (beq_iff_eq.1 HR.out))⟩, HB1.out⟩
      | false =>
        go_wp2_with (go_at_call 49; refine HQ.out.mono ?_; rintro e w' ⟨rfl, hb⟩)
        have HB1 := Lib.hid (HBk.out.trans (hb.mono HBk.out.size))
        have HN1 := Lib.hid (HNX.out (beq_eq_false_iff_ne.1 HR.out))
        clear hb
        go_roundw
        case rel => exact ⟨k + 1, by omega, by go_num, HN1, HB1⟩
        case measure => simp [intOf]; omega
    · have hkI : ¬ (k : Int) < (n : Int) := by omega
      obtain rfl : k = n := by omega
      have HT := Lib.hid (show ∀ j (h : j < l.length), l[j].1.toList ≠ key.toList from fun j h => HNk.out j h (by have := HHN.out (); omega))
      clear HL HNk HHN HP
      go_wp2_with fail
      go_ret
      exact ⟨⟨-1, rfl, .inl ⟨rfl, HT.out⟩⟩, HBk.out⟩

theorem zero_cel (w : World) : (zeroValue 38).run Try.prog w = .ok (.agg #[.string ⟨#[]⟩, .string ⟨#[]⟩]) w := by kernel_rfl
/-- clear of one cell. -/
theorem run_clear_cel (w : World) (ty : TypeId) (g o c : Nat) (L : List Value) (hg : Row w g 38 L (0, 0)) (hfit : o + 2 ≤ L.length) :
    (Builtin.clear_ #[22] ty #[.slice (some ⟨g, o, none⟩) 1 c]).run Try.prog w = .ok (.tuple #[]) (w.setRow g (L.take o ++ [Value.string ⟨#[]⟩, Value.string ⟨#[]⟩] ++ L.drop (o + 2)).toArray) := by
  have hst := run_storeCells_at Try.prog g o 38 [.string ⟨#[]⟩, .string ⟨#[]⟩] 0 L.toArray w hg (by simpa using hfit) (by
    intro v hv
    simp only [List.mem_cons, List.not_mem_nil, or_false] at hv
    rcases hv with rfl | rfl <;> rfl)
  simp only [Nat.add_zero] at hst
  have hst2 : (storeCells ⟨g, o, none⟩ [.string ⟨#[]⟩, .string ⟨#[]⟩]).run Try.prog w = .ok () (w.setRow g (L.take o ++ [Value.string ⟨#[]⟩, Value.string ⟨#[]⟩] ++ L.drop (o + 2)).toArray) := hst
  have hzc : (Builtin.zeroCells (Value.agg #[.string ⟨#[]⟩, .string ⟨#[]⟩]).cells 1).toList = [.string ⟨#[]⟩, .string ⟨#[]⟩] := by first | rfl | (simp [Builtin.zeroCells, Value.cells]; done) | (simp [Builtin.zeroCells, Value.cells]; rfl) | decide
  simp [Builtin.clear_, run_underlying Try.underlying22, hzc, hst2]
theorem setRow_same_c {w : World} {g : Nat} {t : TypeId} {old cs : List Value} {m : Nat × Nat} (h : Row w g t old m) : Row (w.setRow g cs.toArray) g t cs m := setRow_heap w g old.toArray cs.toArray t m h
theorem below_setRow {B : Nat} {w w' : World} (h : Below B w w') {g : Nat} (hg : B ≤ g) (cs : Array Value) : Below B w (w'.setRow g cs) := by
  have hs : (w'.setRow g cs).heap.size = w'.heap.size := by simp
  exact ⟨h.os, h.tape, h.output, by rw [hs]; exact h.size, fun i hi => (setRow_other w' g i cs (by omega)).trans (h.block i hi)⟩

set_option maxRecDepth 100000 in
set_option maxHeartbeats 4000000 in
theorem kdelfun_any (w0 : World) (b2 : Nat) (key : ByteArray) (hp : Asks w0 b2 key) (v : Value) (l : List CB) (w : World) (hg : GrC w0 l v w) (hnb : l.length ≤ 1000000) (hs : Srt (cels l)) :
    Calls Try.prog 47 #[v, .func (.func 49) #[] #[.pointer (some ⟨b2, 0, none⟩)]] w fun e w' => ∃ A c, e = .returned (.slice A (delB l key.toList).length c) ∧ Cels w' A (delB l key.toList) ∧ (delB l key.toList).length ≤ c ∧ (A = none → c = 0) ∧ Below w0.heap.size w0 w' := by
  obtain ⟨A, c, rfl, hlc, hnil⟩ := hg.slot
  obtain ⟨n, hn⟩ : ∃ n, l.length = n := ⟨_, rfl⟩
  have HI := Lib.hid (kindex_any w0 b2 key hp A n c l w hg.2 hg.cels hn (hn ▸ hnb))
  have HG := Lib.hid hg
  have HS := Lib.hid hs
  have HP := Lib.hid hp
  have HNC := Lib.hid (And.intro hlc hnil)
  have HEND := Lib.hid (show ∀ A c n w', n = (delB l key.toList).length → Cels w' A (delB l key.toList) → (delB l key.toList).length ≤ c → (A = none → c = 0) → Below w0.heap.size w0 w' → (∃ A' c', Ending.returned (.slice A n c) = .returned (.slice A' (delB l key.toList).length c') ∧ Cels w' A' (delB l key.toList) ∧ (delB l key.toList).length ≤ c' ∧ (A' = none → c' = 0) ∧ Below w0.heap.size w0 w') from fun A c n w' h1 h2 h3 h4 h5 => ⟨A, c, by rw [h1], h2, h3, h4, h5⟩)
  rw [hn] at hnb
  simp only [hn] at HNC
  rw [hn]
  have HHN := Lib.hid (fun _ : Unit => hn)
  clear hg hs hp hlc hnil hn
  go_enter Try.func47, Try.ntmps47
  go_wp2_with fail
  refine HI.out.mono ?_
  rintro e w1 ⟨⟨r, rfl, hr⟩, hb1⟩
  have HG1 := Lib.hid (HG.out.keeps hb1)
  clear hb1 HI
  rcases hr with ⟨rfl, hno⟩ | ⟨q, hq, rfl, he⟩
  · have HD := Lib.hid (delB_none HS.out hno)
    clear hno
    go_wp2_with fail
    go_ret
    refine HEND.out _ _ _ _ (by rw [HD.out, HHN.out ()]) ?_ (by rw [HD.out, HHN.out ()]; exact HNC.out.1) HNC.out.2 HG1.out.2
    rw [HD.out]
    exact HG1.out.cels
  · obtain ⟨hd1, hd2⟩ := delB_at HS.out hq he
    have hql : q < n := by rw [← HHN.out ()]; exact hq
    obtain ⟨g, t, rfl, hgB, hrow, -⟩ := GrC.row HG1.out (by have := HHN.out (); omega)
    have HD1 := Lib.hid hd1
    have HD2 := Lib.hid hd2
    have HGB := Lib.hid hgB
    have HR1 := Lib.hid (show Row w1 g 38 (celr (shl l q q) ++ t) (0, 0) by rw [shl_start (by omega)]; exact hrow)
    have HB1 := Lib.hid HG1.out.2
    have HCN := Lib.hid HNC.out.1
    have hqb : ((q : Int) == -1) = false := beq_eq_false_iff_ne.2 (by omega)
    have HSH := Lib.hid (fun i (h1 : q ≤ i) (h2 : i + 1 < l.length) => And.intro (shl_get h1 h2) (shl_step h1 h2))
    have HSL := Lib.hid (fun i (h1 : q ≤ i) (h2 : i + 1 ≤ l.length) => shl_length h1 h2)
    have HSE := Lib.hid (fun i (h1 : q ≤ i) (h2 : i + 1 = l.length) => shl_end h1 h2)
    clear hd1 hd2 hgB hrow HG1 HG HNC HS he hq
    go_wp2_with fail
    go_loopw [5, 6] (fun x y wr => ∃ i : Nat, q ≤ i ∧ i + 1 ≤ n ∧ x = .int .i64 (i : Int) ∧ y = .int .i64 ((i + 1 : Nat) : Int) ∧ Hid (Row wr g 38 (celr (shl l q i) ++ t) (0, 0)) ∧ Hid (Below w0.heap.size w0 wr)) (fun x _ _ => n - (intOf x).toNat)
    case atStart => exact ⟨q, Nat.le_refl _, by omega, rfl, by go_num, HR1, HB1⟩
    case round =>
      obtain ⟨i, hqi, hin, rfl, rfl, HRi, HBi⟩ := hrel
      by_cases hlt : i + 1 < n
      · have hkI : ((i + 1 : Nat) : Int) < (n : Int) := by omega
        have hiI : (i : Int) < (n : Int) := by omega
        have hil : i + 1 < l.length := by have := HHN.out (); omega
        obtain ⟨hx1, hx2⟩ := HSH.out i hqi hil
        have hne := HD2.out (i + 1) hil (by omega)
        have hXl := HSL.out i hqi (by omega)
        obtain ⟨x, hx⟩ : ∃ x, l[i + 1] = x := ⟨_, rfl⟩
        rw [hx] at hx1 hx2 hne
        obtain ⟨ky, vl⟩ := x
        obtain ⟨c0, c1⟩ := celr_get t hx1
        have k0 : wr.cell? ⟨g, (i + 1) * 2, none⟩ = some (.string ky) := by rw [HRi.out.cell]; exact c0
        have k1 : wr.cell? ⟨g, (i + 1) * 2 + 1, none⟩ = some (.string vl) := by rw [HRi.out.cell]; exact c1
        obtain ⟨o, ho⟩ : ∃ o, wr.alloc (.cells #[.string ky, .string vl] 38) = o := ⟨_, rfl⟩
        have HBo := Lib.hid (show Below w0.heap.size w0 o from ho ▸ HBi.out.alloc HBi.out.size _)
        have HRo := Lib.hid (show Row o g 38 (celr (shl l q i) ++ t) (0, 0) from ho ▸ HRi.out.alloc _)
        obtain ⟨B, hB⟩ : ∃ B, wr.heap.size = B := ⟨_, rfl⟩
        have HCo := Lib.hid (show Row o B 38 [.string ky, .string vl] (0, 0) from hB ▸ ho ▸ Row.new wr 38 [.string ky, .string vl] (0, 0))
        have o0 : o.cell? ⟨B, 0, none⟩ = some (.string ky) := by rw [HCo.out.cell]; rfl
        have o1 : o.cell? ⟨B, 1, none⟩ = some (.string vl) := by rw [HCo.out.cell]; rfl
        have HQ := Lib.hid (HP.out ky vl o HBo.out)
        rw [show (ky.toList == key.toList) = false from beq_eq_false_iff_ne.2 hne] at HQ
        have HX2 := Lib.hid hx2
        obtain ⟨X, hX⟩ : ∃ X, shl l q i = X := ⟨_, rfl⟩
        rw [hX] at HRo HX2 hXl
        have hXi : i < X.length := by omega
        have HXI := Lib.hid hXi
        have HIN := Lib.hid (show i + 1 + 1 ≤ n by omega)
        have HFACT := Lib.hid (show ∀ w', Below o.heap.size o w' → (w'.cell? ⟨B, 0, none⟩ = some (.string ky) ∧ w'.cell? ⟨B, 1, none⟩ = some (.string vl)) ∧ (∃ u, w'.cell? ⟨g, i * 2, none⟩ = some u) ∧ w'.frozen? ⟨g, i * 2, none⟩ = false ∧ (∃ u, (w'.setCell ⟨g, i * 2, none⟩ (.string ky)).cell? ⟨g, i * 2 + 1, none⟩ = some u) ∧ (w'.setCell ⟨g, i * 2, none⟩ (.string ky)).frozen? ⟨g, i * 2 + 1, none⟩ = false ∧
            Row ((w'.setCell ⟨g, i * 2, none⟩ (.string ky)).setCell ⟨g, i * 2 + 1, none⟩ (.string vl)) g 38 (celr (shl l q (i + 1)) ++ t) (0, 0) ∧ Below w0.heap.size w0 ((w'.setCell ⟨g, i * 2, none⟩ (.string ky)).setCell ⟨g, i * 2 + 1, none⟩ (.string vl)) from fun w' hb => by
          have hc' := HCo.out.below hb HCo.out.lt
          have hr' := HRo.out.below hb HRo.out.lt
          have hlen : (celr X ++ t).length = X.length * 2 + t.length := by rw [List.length_append, celr_length]
          have hr2 := hr'.put (i * 2) (.string ky)
          have hr3 := hr2.put (i * 2 + 1) (.string vl)
          rw [celr_set X i (ky, vl) t hXi, HX2.out] at hr3
          have hbw := HBo.out.trans (hb.mono HBo.out.size)
          refine ⟨⟨by rw [hc'.cell]; rfl, by rw [hc'.cell]; rfl⟩, ⟨_, by rw [hr'.cell]; exact List.getElem?_eq_getElem (by rw [hlen]; omega)⟩, hr'.loose _, ⟨_, by rw [hr2.cell]; exact List.getElem?_eq_getElem (by rw [List.length_set, hlen]; omega)⟩, hr2.loose _, hr3, below_set (below_set hbw HGB.out _ _) HGB.out _ _⟩)
        clear hx1 hx2 hne hx c0 c1 HRi hX hXl hXi hil
        have hsuc : (((i + 1 : Nat) : Int)) = (i : Int) + 1 := by omega
        go_wp2_with (go_at_call 49; refine HQ.out.mono ?_; rintro e w' ⟨rfl, hb⟩; obtain ⟨⟨f0, f1⟩, ⟨u2, f2⟩, f3, ⟨u4, f4⟩, f5, h6, h7⟩ := HFACT.out w' hb; have H6 := Lib.hid h6; have H7 := Lib.hid h7; clear hb h6 h7)
        go_roundw
        case rel => exact ⟨i + 1, by omega, HIN.out, by go_num, by go_num, H6, H7⟩
        case measure => simp [intOf]; omega
      · obtain rfl : i + 1 = n := by omega
        have HXn := Lib.hid (HSE.out i hqi (HHN.out ()).symm)
        have hXl := HSL.out i hqi (by have := HHN.out (); omega)
        obtain ⟨X, hX⟩ : ∃ X, shl l q i = X := ⟨_, rfl⟩
        rw [hX] at HRi HXn hXl
        have HXL := Lib.hid (show X.length = i + 1 from hXl.trans (HHN.out ()))
        have HCLR := Lib.hid (run_clear_cel wr · g (i * 2) (c - i) (celr X ++ t) HRi.out (by rw [List.length_append, celr_length, HXL.out]; omega))
        have hcl := HCLR.out
        obtain ⟨w5, hw5⟩ : ∃ w5, wr.setRow g ((celr X ++ t).take (i * 2) ++ [Value.string ⟨#[]⟩, Value.string ⟨#[]⟩] ++ (celr X ++ t).drop (i * 2 + 2)).toArray = w5 := ⟨_, rfl⟩
        have HR5 := Lib.hid (show Row w5 g 38 ((celr X ++ t).take (i * 2) ++ [Value.string ⟨#[]⟩, Value.string ⟨#[]⟩] ++ (celr X ++ t).drop (i * 2 + 2)) (0, 0) from hw5 ▸ setRow_same_c HRi.out)
        have HB5 := Lib.hid (show Below w0.heap.size w0 w5 from hw5 ▸ below_setRow HBi.out HGB.out _)
        rw [hw5] at hcl
        have HD := Lib.hid (show delB l key.toList = X.take i by rw [HD1.out, HXn.out])
        have HDC := Lib.hid (show Cels w5 (some ⟨g, 0, none⟩) (X.take i) from Cels.row HR5.out fun j hj => by
          rw [List.length_take] at hj
          rw [List.append_assoc, List.getElem?_append_left (by rw [List.length_take, List.length_append, celr_length, HXL.out]; omega), List.getElem?_take, if_pos (by omega)]
          have e : celr X = celr (X.take i) ++ celr (X.drop i) := by rw [← celr_app, List.take_append_drop]
          rw [e, List.append_assoc, List.getElem?_append_left (by rw [celr_length, List.length_take]; omega)])
        have hfr := fun wx => cel_from (some ⟨g, 0, none⟩) (i + 1) c i (by omega) wx
        have hcn : i + 1 ≤ c := HCN.out
        rw [if_neg (show ¬ c = i by omega), show i + 1 - i = 1 by omega] at hfr
        simp only [Option.map_some, Addr.add_lit, Nat.zero_add] at hfr
        have hkI : ¬ ((i + 1 : Nat) : Int) < ((i + 1 : Nat) : Int) := by omega
        have hsuc : (((i + 1 : Nat) : Int)) = (i : Int) + 1 := by omega
        clear hX hXl HXn HCLR hw5
        go_wp2_with (simp only [hcl])
        go_ret
        exact HEND.out _ _ _ _ (by rw [HD.out, List.length_take, HXL.out]; omega) (by rw [HD.out]; exact HDC.out) (by rw [HD.out, List.length_take]; omega) (fun e => by cases e) HB5.out

set_option maxRecDepth 100000 in
set_option maxHeartbeats 1000000 in
theorem kkeep_any (key : ByteArray) (b : Nat) (A : Option Addr) (n c : Nat) (l : List CB) (w : World) (hb : w.cell? ⟨b, 0, none⟩ = some (.string key)) (hl : Cels w A l) (hn : l.length = n) (hnb : n ≤ 1000000) (hnil : A = none → c = 0) (hs : Srt (cels l)) :
    Calls Try.prog 33 #[.slice A n c, .func (.func 34) #[] #[.pointer (some ⟨b, 0, none⟩)]] w fun e w' => ∃ A c, e = .returned (.slice A (delB l key.toList).length c) ∧ Cels w' A (delB l key.toList) ∧ (delB l key.toList).length ≤ c ∧ (A = none → c = 0) ∧ Below w.heap.size w w' := by
  obtain ⟨o, ho⟩ : ∃ o, w.alloc (.cells #[.func (.func 34) #[] #[.pointer (some ⟨b, 0, none⟩)]] 53) = o := ⟨_, rfl⟩
  have HBo := Lib.hid (show Below w.heap.size w o from ho ▸ (Below.refl _ w).alloc (Nat.le_refl _) _)
  obtain ⟨B, hB⟩ : ∃ B, w.heap.size = B := ⟨_, rfl⟩
  have HRo := Lib.hid (show Row o B 53 [.func (.func 34) #[] #[.pointer (some ⟨b, 0, none⟩)]] (0, 0) from hB ▸ ho ▸ Row.new w 53 [.func (.func 34) #[] #[.pointer (some ⟨b, 0, none⟩)]] (0, 0))
  have hbo := (HBo.out.cell (p := ⟨b, 0, none⟩) (World.block_lt_of_cell? _ _ hb)).trans hb
  have HA := Lib.hid (show Asks o B key from fun k v wx hx => kkeepF_any k v key b B wx ((hx.cell (p := ⟨b, 0, none⟩) (World.block_lt_of_cell? _ _ hbo)).trans hbo) (by rw [(HRo.out.below hx HRo.out.lt).cell]; rfl))
  have HC := Lib.hid (kclone_any A n c l o (ho ▸ hl.alloc _) hn hnb hnil)
  have HLN := Lib.hid (show l.length ≤ 1000000 by omega)
  have HS := Lib.hid hs
  clear hl hn hnb hnil hs hb hbo HRo
  go_enter Try.func33, Try.ntmps33
  go_wp2_with fail
  refine HC.out.mono ?_
  rintro e w1 ⟨v', rfl, hg⟩
  have HG := Lib.hid hg
  have HD := Lib.hid (kdelfun_any o B key HA.out v' l w1 hg HLN.out HS.out)
  clear hg HC
  go_wp2_with (go_at_call 47; refine HD.out.mono ?_; rintro e w' ⟨A', c', rfl, h1, h2, h3, h4⟩; have H1 := Lib.hid h1; have H2 := Lib.hid h2; have H3 := Lib.hid h3; have H4 := Lib.hid h4; clear h1 h2 h3 h4)
  go_ret
  exact ⟨A', c', rfl, H1.out, H2.out, H3.out, HBo.out.trans (H4.out.mono HBo.out.size)⟩

set_option maxRecDepth 100000 in
set_option maxHeartbeats 1000000 in
theorem kdelete_any (A : Option Addr) (n c : Nat) (l : List CB) (key : ByteArray) (w : World) (hl : Cels w A l) (hn : l.length = n) (hnb : n ≤ 1000000) (hnil : A = none → c = 0) :
    Calls Try.prog 23 #[.slice A n c, .string key] w (CelsO w (if rgtB (cels l) = true then some (delB l key.toList) else none)) := by
  obtain ⟨o, ho⟩ : ∃ o, w.alloc (.cells #[.string key] 9) = o := ⟨_, rfl⟩
  have HBo := Lib.hid (show Below w.heap.size w o from ho ▸ (Below.refl _ w).alloc (Nat.le_refl _) _)
  have HLo := Lib.hid (show Cels o A l from ho ▸ hl.alloc _)
  obtain ⟨B, hB⟩ : ∃ B, w.heap.size = B := ⟨_, rfl⟩
  have HRo := Lib.hid (show Row o B 9 [.string key] (0, 0) from hB ▸ ho ▸ Row.new w 9 [.string key] (0, 0))
  have HRT := Lib.hid (kright_any A n c l o HLo.out hn (by omega))
  cases hr : rgtB (cels l) with
  | false =>
    rw [hr] at HRT
    rw [if_neg (by simp)]
    clear hl hn hnil HLo HRo hr
    go_enter Try.func23, Try.ntmps23
    go_wp2_with fail
    refine HRT.out.mono ?_
    rintro e w1 ⟨rfl, hb1⟩
    have HB1 := Lib.hid (HBo.out.trans (hb1.mono HBo.out.size))
    clear hb1
    go_wp2_with fail
    go_ret2
    exact ⟨rfl, HB1.out⟩
  | true =>
    rw [hr] at HRT
    rw [if_pos rfl]
    have hR : Rgt (cels l) := of_decide_eq_true hr
    have HK := Lib.hid (fun wx (hb : Below o.heap.size o wx) => kkeep_any key B A n c l wx (by rw [(HRo.out.below hb HRo.out.lt).cell]; rfl) (HLo.out.keeps hb) hn hnb hnil hR.1)
    clear hl hn hnil HLo HRo hr hR
    go_enter Try.func23, Try.ntmps23
    go_wp2_with fail
    refine HRT.out.mono ?_
    rintro e w1 ⟨rfl, hb1⟩
    have HB1 := Lib.hid (HBo.out.trans (hb1.mono HBo.out.size))
    have HK1 := Lib.hid (HK.out w1 hb1)
    clear hb1 HK
    go_wp2_with (go_at_call 33; refine HK1.out.mono ?_; rintro e w' ⟨A', c', rfl, h1, h2, h3, h4⟩; have H1 := Lib.hid h1; have H2 := Lib.hid h2; have H3 := Lib.hid h3; have H4 := Lib.hid h4; clear h1 h2 h3 h4)
    go_ret2
    exact ⟨A', c', rfl, H1.out, H2.out, H3.out, HB1.out.trans (H4.out.mono HB1.out.size)⟩
end Go.Proofs.Ytbganaaiaokfmaa
