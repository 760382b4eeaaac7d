/-
  The walk over the statement RecordText.
-/
import Derived.Test.YtlhcacancnmhcaaDoorRecLawA
namespace Go.Proofs.YtlhcacancnmhcaaDoor
open Go.RowKit

set_option maxRecDepth 100000 in
set_option maxHeartbeats 1000000 in
theorem rtext_great (A : Option Addr) (l : List Rec) (c : Nat) (s : ByteArray) (w : World) (hT : Tab w) (h : Recs w A l) (hg : ¬ Tiny l ∨ 300 < s.size) :
    Calls Tryd.prog 3 #[.slice A l.length c, .string s] w fun e w' => e = .returned (.bool true) ∧ Below w.heap.size w w' := by
  have HG := Lib.hid (great_any A l c w h)
  have HH := Lib.hid (fun wx (hb : Below w.heap.size w wx) => head_any wx (hT.keeps hb))
  clear hT h
  by_cases ht : Tiny l
  · have h3 : (300 : Int) < (s.size : Int) := by have := hg.resolve_left (fun x => x ht); omega
    rw [decide_eq_true ht] at HG
    clear hg ht
    go_enter Tryd.func3, Tryd.ntmps3
    go_wp2_with fail
    refine HG.out.mono ?_
    rintro e w1 ⟨rfl, hb1⟩
    have HB1 := Lib.hid hb1
    clear hb1
    go_wp2_with fail
    refine (HH.out w1 HB1.out).mono ?_
    rintro e w2 ⟨rfl, hb2⟩
    have HB2 := Lib.hid (HB1.out.trans (hb2.mono HB1.out.size))
    clear hb2
    go_wp2
    go_ret
    exact ⟨rfl, HB2.out⟩
  · rw [decide_eq_false ht] at HG
    clear hg ht
    go_enter Tryd.func3, Tryd.ntmps3
    go_wp2_with fail
    refine HG.out.mono ?_
    rintro e w1 ⟨rfl, hb1⟩
    have HB1 := Lib.hid hb1
    clear hb1
    go_wp2_with fail
    refine (HH.out w1 HB1.out).mono ?_
    rintro e w2 ⟨rfl, hb2⟩
    have HB2 := Lib.hid (HB1.out.trans (hb2.mono HB1.out.size))
    clear hb2
    go_wp2
    go_ret
    exact ⟨rfl, HB2.out⟩

theorem scan_len (b : List UInt8) : (scan b).1.length ≤ b.length := by
  have : ∀ (n : Nat) (b : List UInt8), b.length ≤ n → (scan b).1.length ≤ b.length := by
    intro n
    induction n with
    | zero =>
      intro b hb
      obtain rfl : b = [] := List.eq_nil_of_length_eq_zero (by omega)
      rw [scan_nil]; simp
    | succ n ih =>
      intro b hb
      cases hl : lookR b with
      | whole => rw [scan_of_whole hl]; simp
      | torn => rw [scan_of_torn hl]; simp
      | bad => rw [scan_of_bad hl]; simp
      | told r =>
        have h1 := look_pos hl
        rw [scan_of_rec hl]
        have := ih (b.drop (13 + r.d.length)) (by rw [List.length_drop]; omega)
        rw [List.length_drop] at this
        show _ + 1 ≤ _
        omega
  exact this b.length b (Nat.le_refl _)

/-- Put, of few records. -/
theorem put_tiny (A : Option Addr) (l : List Rec) (c : Nat) (w : World) (hT : Tab w) (h : Recs w A l) (ht : Small l) (hl : l.length ≤ 1000) :
    Calls Tryd.prog 10 #[.slice A l.length c] w fun e w' => e = .returned (.tuple #[.string (tb (allR l)), .int .i64 0]) ∧ Below w.heap.size w w' :=
  (put_any A l c w hT h hl ht.sane).mono fun e w' ⟨h1, h2⟩ => ⟨by rw [h1, if_pos ht.fit, if_pos ht.fit], h2⟩

set_option maxRecDepth 100000 in
set_option maxHeartbeats 2000000 in
theorem rtext_small (A : Option Addr) (l : List Rec) (c : Nat) (b : List UInt8) (w : World) (hT : Tab w) (h : Recs w A l) (ht : Tiny l) (hb : b.length ≤ 300) :
    Calls Tryd.prog 3 #[.slice A l.length c, .string (tb b)] w fun e w' => e = .returned (.bool true) ∧ Below w.heap.size w w' := by
  have HG := Lib.hid (great_any A l c w h)
  rw [decide_eq_true ht] at HG
  have h3 : ¬ (300 : Int) < ((tb b).size : Int) := by rw [tb_size]; omega
  have hle := ht.le
  have h12 := ht.1
  have HR := Lib.hid h
  have HH := Lib.hid (fun wx (hbx : Below w.heap.size w wx) => show Calls Tryd.prog 9 #[] wx fun e w' => e = .returned (.bool true) ∧ Below w.heap.size w w' from (head_any wx (hT.keeps hbx)).mono fun _ _ ⟨h1, h2⟩ => ⟨h1, hbx.trans (h2.mono hbx.size)⟩)
  have HP := Lib.hid (fun wx (hbx : Below w.heap.size w wx) => show Calls Tryd.prog 10 #[.slice A l.length c] wx fun e w' => e = .returned (.tuple #[.string (tb (allR l)), .int .i64 0]) ∧ Below w.heap.size w w' from (put_tiny A l c wx (hT.keeps hbx) (h.keeps hbx) ht.small (by omega)).mono fun _ _ ⟨h1, h2⟩ => ⟨h1, hbx.trans (h2.mono hbx.size)⟩)
  have HQ := Lib.hid (fun wx (hbx : Below w.heap.size w wx) => show Calls Tryd.prog 11 #[.slice A l.length c] wx fun e w' => e = .returned (.tuple #[.string (tb (allR l)), .int .i64 0]) ∧ Below w.heap.size w w' from (rput_any A l c wx (h.keeps hbx) (by omega) ht.small).mono fun _ _ ⟨h1, h2⟩ => ⟨h1, hbx.trans (h2.mono hbx.size)⟩)
  have hbl : (allR l ++ b).length ≤ 2856 := by rw [List.length_append]; omega
  have HSC := Lib.hid (fun wx (hbx : Below w.heap.size w wx) => scan_any (allR l ++ b) wx (hT.keeps hbx) (by omega))
  have HRS := Lib.hid (fun wx (_ : Below w.heap.size w wx) => rscan_any (allR l ++ b) wx (by omega))
  have hsl := scan_len (allR l ++ b)
  obtain ⟨htk, -, hx2, -⟩ := scan_takes _ (allR l ++ b) (Nat.le_refl _)
  have hX := tb_app (allR l) b
  have hS : (tb (allR l)).size = (allR l).length := tb_size _
  have hsum := Lib.hid (fun k (hk : k < l.length) => show (allR (l.take (k + 1))).length = (allR (l.take k)).length + 13 + l[k].d.length from by
    rw [List.take_succ_eq_append_getElem hk, allR_append, List.length_append, allR_cons, allR_nil, List.append_nil, one_length]; omega)
  have HLK := Lib.hid (fun k => show (allR (l.take k)).length ≤ 1000 * 1000013 from Nat.le_trans (allR_le _ (ht.small.sane.take k)) (Nat.mul_le_mul_right _ (by rw [List.length_take]; omega)))
  have hcat : ¬ 9223372036854775807 < (allR l).length + (tb b).size := by rw [tb_size]; omega
  have HTI := Lib.hid ht
  generalize hsc : scan (allR l ++ b) = SC at *
  obtain ⟨L, n, x⟩ := SC
  simp only at hx2 hsl htk
  generalize tb (allR l ++ b) = X at *
  generalize tb (allR l) = S at *
  generalize tb b = Bh at *
  clear h ht hsc
  go_enter Tryd.func3, Tryd.ntmps3
  go_wp2_with fail
  refine HG.out.mono ?_
  rintro e w1 ⟨rfl, hb1⟩
  have HB1 := Lib.hid hb1
  clear hb1 HG
  go_wp2_with fail
  refine (HP.out w1 HB1.out).mono ?_
  rintro e w2 ⟨rfl, hb2⟩
  have HB2 := Lib.hid hb2
  clear hb2 HP
  go_wp2_with fail
  refine (HQ.out w2 HB2.out).mono ?_
  rintro e w3 ⟨rfl, hb3⟩
  have HB3 := Lib.hid hb3
  clear hb3 HQ
  go_wp2_with fail
  refine (HSC.out w3 HB3.out).mono ?_
  rintro e w4 ⟨A1, c1, rfl, hc1, hA1, hr1, hb4⟩
  have HB4 := Lib.hid (HB3.out.trans (hb4.mono HB3.out.size))
  have HR1 := Lib.hid hr1
  clear hb4 hr1 hc1 hA1 HSC
  go_wp2_with fail
  refine (HRS.out w4 HB4.out).mono ?_
  rintro e w5 ⟨A2, c2, rfl, hc2, hA2, hr2, hb5⟩
  have HB5 := Lib.hid (HB4.out.trans (hb5.mono HB4.out.size))
  have HR1' := Lib.hid (HR1.out.keeps hb5)
  have HR2 := Lib.hid hr2
  clear hb5 hr2 hc2 hA2 HRS HR1
  go_wp2_with fail
  go_loopw [15, 16] (fun v i wr => ∃ k : Nat, k ≤ l.length ∧ i = .int .i64 k ∧ v = .int .i64 ((allR (l.take k)).length : Nat) ∧ wr = w5) (fun _ i _ => l.length - (intOf i).toNat)
  case atStart => exact ⟨0, by omega, rfl, rfl, rfl⟩
  case round =>
    obtain ⟨k, hk, rfl, rfl, rfl⟩ := hrel
    by_cases hlt : k < l.length
    · obtain ⟨g, off, rfl, _, h1, h2⟩ := (HR.out.keeps HB5.out).at_ k hlt
      have hsk := hsum.out k hlt
      have hlk := HLK.out k
      have hzd : (tb l[k].d).size = l[k].d.length := tb_size _
      have hd2 : l[k].d.length ≤ 200 := HTI.out.2 _ (List.getElem_mem hlt)
      have HSK := Lib.hid hsk
      generalize (allR (l.take k)).length = N at *
      have q1 : IntKind.i64.wrap ((N : Int) + 13) = (N : Int) + 13 := IntWalk.i64_in _ (by omega)
      have q2 : IntKind.i64.wrap ((N : Int) + 13 + (l[k].d.length : Int)) = (N : Int) + 13 + (l[k].d.length : Int) := IntWalk.i64_in _ (by omega)
      generalize tb l[k].d = d at *
      generalize l[k].d.length = dn at *
      clear hsk
      go_wp2
      go_roundw
      case rel => exact ⟨k + 1, by omega, by go_num, by rw [HSK.out]; simp, trivial⟩
      case measure => simp [intOf]; omega
    · obtain rfl : k = l.length := by omega
      rw [List.take_length]
      have HS1 := Lib.hid (rsame_any A1 A2 L L c1 c2 wr HR1'.out HR2.out (by omega))
      rw [decide_eq_true rfl] at HS1
      have wx2 : IntKind.i64.wrap (x : Int) = (x : Int) := IntWalk.i64_in _ (by omega)
      clear hlt hk
      go_wp2_with fail
      refine HS1.out.mono ?_
      rintro e w6 ⟨rfl, hb6⟩
      have HB6 := Lib.hid (HB5.out.trans (hb6.mono HB5.out.size))
      clear hb6 HS1
      go_wp2_with fail
      refine (HH.out w6 HB6.out).mono ?_
      rintro e w7 ⟨rfl, hb7⟩
      have HB7 := Lib.hid hb7
      clear hb7
      go_wp2
      go_ret
      exact ⟨rfl, HB7.out⟩
end Go.Proofs.YtlhcacancnmhcaaDoor
