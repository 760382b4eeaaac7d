/-
  The walks over the document's answer for package crc, part C: Seal, Open.
-/
import Derived.Test.YtlhcacancnmhcaaDoorRefB
import Derived.Laws.AppendOwnNone
namespace Go.Proofs.YtlhcacancnmhcaaDoor
open Go.RowKit

theorem reads_none {T : TypeId} {w : World} {l : List UInt8} (h : Reads T w none l) : l = [] := by
  rcases Nat.eq_zero_or_pos l.length with h0 | h0
  · exact List.eq_nil_of_length_eq_zero h0
  · obtain ⟨g, off, cs, m, hA, _⟩ := h h0
    cases hA

section
variable {P : Program} {w : World}

/-- Append onto a row of the call's own, of any bytes, nil ones too. -/
theorem run_own_src (t ty : TypeId) (base : Nat) (e : TypeId) (i : TypeInfo) (ht : P.underlying t = some (.slice e)) (hi : P.info? e = some i) (hz : i.zero = some (.int .u8 0))
    (hsize : i.size = 1) (hby : i.bytes = 1) (g0 n c0 : Nat) (xs : List Value) (hown : w.ownsRow base e 1 (.slice (some ⟨g0, 0, none⟩) n c0) n xs)
    {T : TypeId} (A : Option Addr) (l : List UInt8) (m c : Nat) (hm : l.length = m) (hr : Reads T w A l) (hA : A = none → c = 0) (h63 : n + m ≤ 100000) (hbase : base ≤ w.heap.size) :
    ∃ g cap w', (Builtin.append_ #[t, t] ty #[.slice (some ⟨g0, 0, none⟩) n c0, .slice A m c]).run P w = .ok (.slice (some ⟨g, 0, none⟩) (n + m) cap) w' ∧
      w'.ownsRow base e 1 (.slice (some ⟨g, 0, none⟩) (n + m) cap) (n + m) (xs ++ byt l) ∧ w.grownBy w' (some g0) := by
  subst hm
  cases A with
  | none =>
    obtain rfl := reads_none hr
    obtain rfl := hA rfl
    have hrun := run_append_owned_none (P := P) (w := w) base t ty e i 1 ht hi (.slice (some ⟨g0, 0, none⟩) n c0) n xs hown
    exact ⟨g0, c0, w, hrun, by simpa [byt] using hown, only_refl w _⟩
  | some ad => exact run_own t ty base e i _ ht hi hz hsize hby rfl g0 n c0 xs hown ad l.length c (byt l) (byt_length l) (reads_news hr) (byt_one l) h63 hbase

theorem wpList_own_src {ops : Array Oper} {rest : List Oper} {o : Oper} {a : Act} {Q : Exit → Act → World → Prop} (hgd : o.guard = none) (s x : Operand) (t : TypeId)
    (ho : o.op = .call { callee := .builtin .append, args := #[s, x], argTypes := #[t, t] })
    (base : Nat) (e : TypeId) (i : TypeInfo) (ht : P.underlying t = some (.slice e)) (hi : P.info? e = some i) (hz : i.zero = some (.int .u8 0))
    (hsize : i.size = 1) (hby : i.bytes = 1) (g0 n c0 : Nat) (xs : List Value) (hs : a.eval s = .slice (some ⟨g0, 0, none⟩) n c0) (hown : w.ownsRow base e 1 (.slice (some ⟨g0, 0, none⟩) n c0) n xs)
    {T : TypeId} (A : Option Addr) (l : List UInt8) (m c : Nat) (hx : a.eval x = .slice A m c) (hm : l.length = m) (hr : Reads T w A l) (hA : A = none → c = 0) (h63 : n + m ≤ 100000) (hbase : base ≤ w.heap.size)
    (h : ∀ g cap w', w'.ownsRow base e 1 (.slice (some ⟨g, 0, none⟩) (n + m) cap) (n + m) (xs ++ byt l) → w.grownBy w' (some g0) → wpList P ops Q rest (a.put o.dst (.slice (some ⟨g, 0, none⟩) (n + m) cap)) w') : wpList P ops Q (o :: rest) a w := by
  refine wpList_plain hgd fun K hK => ?_
  obtain ⟨g, cap, w', hr, h2, h3⟩ := run_own_src (P := P) (w := w) t o.type base e i ht hi hz hsize hby g0 n c0 xs hown A l m c hm hr hA h63 hbase
  unfold Oper.wp execOp
  simp only [ho, resolve, invoke, builtin, Sem.run_bind, Sem.run_pure, Result.andThen_ok, List.map_toArray, List.map_cons, List.map_nil, hs, hx, hr]
  exact hK _ _ (h g cap w' h2 h3)
end

/-- A row of the call's own that holds so many bytes; nothing else has turned. -/
def Owns (w : World) (n : Nat) (l : List UInt8) (v : Value) (wr : World) : Prop :=
  ∃ g cap, v = .slice (some ⟨g, 0, none⟩) n cap ∧ wr.ownsRow w.heap.size 5 1 (.slice (some ⟨g, 0, none⟩) n cap) n (byt l) ∧ Below w.heap.size w wr

theorem Owns.new {w wr : World} {n : Nat} {l : List UInt8} {v : Value} (h : Owns w n l v wr) : ∃ g cap, v = .slice (some ⟨g, 0, none⟩) n cap ∧ l.length = n ∧ n ≤ cap ∧ Reads 5 wr (some ⟨g, 0, none⟩) l ∧ Below w.heap.size w wr := by
  obtain ⟨g, cap, rfl, ho, hb⟩ := h
  obtain ⟨g', cap', hv, _, _, hl, hc, hr⟩ := owns_reads ho (by intro h; cases h)
  injection hv with hv _ hv2
  obtain rfl : g = g' := by simpa using hv
  subst hv2
  exact ⟨g, cap, rfl, hl, hc, hr, hb⟩

theorem own_block {w : World} {base n g cap : Nat} {e : TypeId} {xs : List Value} (h : w.ownsRow base e 1 (.slice (some ⟨g, 0, none⟩) n cap) n xs) : base ≤ g := by
  rcases h.2 with ⟨h0, _⟩ | ⟨g', cap', cur, hv, hb, _⟩
  · cases h0
  · injection hv with hv
    obtain rfl : g = g' := by simpa using hv
    exact hb

theorem owns_src {w : World} {n g cap : Nat} {l : List UInt8} {w' : World} {o : Obj} (h : w'.ownsRow w.heap.size 5 1 (.slice (some ⟨g, 0, none⟩) n cap) n ([] ++ byt l)) {w1 : World} (hb : Below w.heap.size w w1) (hg : (w1.alloc o).grownBy w' (some w1.heap.size)) : Owns w n l (.slice (some ⟨g, 0, none⟩) n cap) w' := by
  rw [List.nil_append] at h
  exact ⟨g, cap, rfl, h, (hb.alloc hb.size o).grown hg (by rw [size_new]; have := hb.size; omega) (fun k hk => by injection hk with hk; have := hb.size; omega)⟩

theorem owns_more {w wr w' : World} {n g g0 cap c0 : Nat} {l : List UInt8} {u : Value} {b : UInt8} {o : Obj} (h0 : wr.ownsRow w.heap.size 5 1 (.slice (some ⟨g0, 0, none⟩) n c0) n (byt l)) (hb : Below w.heap.size w wr)
    (h : w'.ownsRow w.heap.size 5 1 (.slice (some ⟨g, 0, none⟩) (n + 1) cap) (n + 1) (byt l ++ [u])) (hg : (wr.alloc o).grownBy w' (some g0)) (hu : u = .int .u8 (b.toNat : Int)) : Owns w (n + 1) (l ++ [b]) (.slice (some ⟨g, 0, none⟩) (n + 1) cap) w' := by
  subst hu
  refine ⟨g, cap, rfl, by rw [byt_append]; exact h, (hb.alloc hb.size o).grown hg (by rw [size_new]; have := hb.size; omega) (fun k hk => by injection hk with hk; subst hk; exact own_block h0)⟩

theorem div256 (m k : Nat) : ((m / 256 ^ k : Nat) : Int) / 256 = ((m / 256 ^ (k + 1) : Nat) : Int) := by
  rw [Nat.pow_succ, ← Nat.div_div_eq_div_mul]
  simp
theorem le4_take (m k : Nat) (hk : k < 4) : (le4 m).take (k + 1) = (le4 m).take k ++ [(le4 m)[k]'hk] := List.take_succ_eq_append_getElem (by exact hk)
theorem le4_at (m k : Nat) (hk : k < 4) : ((m / 256 ^ k % 256 : Nat) : Int) = (((le4 m)[k]'hk).toNat : Int) := by
  have hc : k = 0 ∨ k = 1 ∨ k = 2 ∨ k = 3 := by omega
  rcases hc with rfl | rfl | rfl | rfl
  all_goals
    simp only [le4, List.getElem_cons_zero, List.getElem_cons_succ, UInt8.toNat_ofNat']
    try omega

set_option maxRecDepth 100000 in
set_option maxHeartbeats 1000000 in
theorem rseal_any {T : TypeId} (A : Option Addr) (l : List UInt8) (n c : Nat) (w : World) (hln : l.length = n) (hr : Reads T w A l) (hA : A = none → c = 0) (hl : n ≤ 50000) :
    Calls Tryd.prog 22 #[.slice A n c] w (NewB w (n + 4) (sealL l)) := by
  obtain ⟨i0, hi0, hz0, hz1, hz2⟩ := info_parts Tryd.info_u8
  subst hln
  have HS := Lib.hid (rmore_any A l c 0 w hr (by decide) (by omega))
  have HR := Lib.hid hr
  have HA := Lib.hid hA
  have HL := Lib.hid (more_lt 0 l (by decide))
  obtain ⟨m, hm⟩ : ∃ m, more_ 0 l = m := ⟨_, rfl⟩
  rw [hm] at HS HL
  have HM := Lib.hid hm
  clear hr hm hA
  go_enter Tryd.func22, Tryd.ntmps22
  go_wp2_with fail
  refine HS.out.mono ?_
  rintro e w1 ⟨rfl, hb1⟩
  have HB1 := Lib.hid hb1
  clear hb1
  go_wp2_with (at_builtin; refine wpList_own_src rfl (.tmp 8) (.tmp 9) 47 rfl w.heap.size 5 i0 Tryd.underlying47 hi0 hz0 hz1 hz2 w1.heap.size 0 0 [] rfl (World.ownsRow_made w1 #[] 0 HB1.out.size (by simp [maxLen]) rfl) A l l.length c rfl rfl (HR.out.below (HB1.out.alloc HB1.out.size _) (Nat.le_refl _)) HA.out (by omega) ?hba ?_)
  case hba => rw [size_new]; have := HB1.out.size; omega
  intro g cap w2 hown hgr
  have HO := Lib.hid (owns_src hown HB1.out hgr)
  clear hown hgr
  go_wp2_with fail
  go_loopw [3, 4, 5] (fun vn vo vi wr => ∃ k : Nat, k ≤ 4 ∧ vi = .int .i64 k ∧ vn = .int .u32 ((m / 256 ^ k : Nat) : Int) ∧ Owns w (l.length + k) (l ++ (le4 m).take k) vo wr) (fun _ _ vi _ => 4 - (intOf vi).toNat)
  case atStart => exact ⟨0, by omega, rfl, by simp, by rw [List.take_zero, List.append_nil]; exact HO.out⟩
  case round =>
    obtain ⟨k, hk, rfl, rfl, hown⟩ := hrel
    have HOW := Lib.hid hown
    clear hown HO
    by_cases hlt : k < 4
    · obtain ⟨g1, c1, rfl, ho1, hb1⟩ := HOW.out
      have HO1 := Lib.hid ho1
      have HB := Lib.hid hb1
      have HT1 := Lib.hid (le4_take m k hlt)
      have hat := le4_at m k hlt
      have hdv := div256 m k
      have hle : m / 256 ^ k ≤ m := Nat.div_le_self _ _
      have hmod : ((m / 256 ^ k % 256 : Nat) : Int) = ((m / 256 ^ k : Nat) : Int) % 256 := by omega
      rw [hmod] at hat
      clear hmod ho1 hb1
      obtain ⟨q2, hq2⟩ : ∃ q2, m / 256 ^ (k + 1) = q2 := ⟨_, rfl⟩
      rw [hq2] at hdv
      have HQ2 := Lib.hid hq2
      clear hq2
      generalize m / 256 ^ k = q at *
      generalize hbk : (le4 m)[k]'hlt = bk at *
      have hq0 : (0 : Int) ≤ (q : Int) := by omega
      have hml := HL.out
      have HBK := Lib.hid hbk
      clear hbk
      go_wp2_with (at_builtin; refine wpList_append_lies _ rfl (.tmp 15) (.tmp 19) 47 rfl w.heap.size 5 i0 _ 1 1 Tryd.underlying47 hi0 hz0 hz1 hz2 rfl (by decide) (.slice (some ⟨g1, 0, none⟩) (l.length + k) c1) (l.length + k) (byt (l ++ (le4 m).take k)) rfl (HO1.out.alloc _) ⟨wr.heap.size, 0, none⟩ 1 1 [.int .u8 (bk.toNat : Int)] rfl rfl (cell_one_new _ _ _) ?o1 (by decide) ?h63 ?hby ?hba _ (size_new _ _) ?_)
      case o1 => simp; rfl
      case h63 => unfold maxLen; omega
      case hby => omega
      case hba => rw [size_new]; have := HB.out.size; omega
      intro g2 c2 w3 hown2 hgrow2 _ _
      have HN := Lib.hid (show Owns w (l.length + (k + 1)) (l ++ (le4 m).take (k + 1)) (.slice (some ⟨g2, 0, none⟩) (l.length + (k + 1)) c2) w3 by
        rw [HT1.out, ← List.append_assoc]
        exact owns_more HO1.out HB.out hown2 hgrow2 rfl)
      clear hown2 hgrow2
      go_wp2_with fail
      go_roundw
      case rel => exact ⟨k + 1, by omega, by go_num, by rw [HQ2.out], HN.out⟩
      case measure => simp [intOf]; omega
    · obtain rfl : k = 4 := by omega
      obtain ⟨g1, c1, rfl, hl1, hc1, hr1, hb1⟩ := HOW.out.new
      generalize m / 256 ^ 4 = q at *
      have HRD := Lib.hid (show Reads 5 wr (some ⟨g1, 0, none⟩) (sealL l) by
        have h := hr1
        rw [List.take_of_length_le (by exact Nat.le_refl 4)] at h
        unfold sealL
        rw [HM.out]
        exact h)
      have HB := Lib.hid hb1
      clear hr1 hl1 hb1 HOW
      go_wp2_with fail
      go_ret
      exact ⟨g1, c1, rfl, sealL_length l, hc1, HRD.out, HB.out⟩

end Go.Proofs.YtlhcacancnmhcaaDoor
