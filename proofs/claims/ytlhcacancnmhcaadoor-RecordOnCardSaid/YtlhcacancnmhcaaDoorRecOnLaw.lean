/-
  The walk over the statement RecordOn.
-/
import Derived.Test.YtlhcacancnmhcaaDoorRecCut
namespace Go.Proofs.YtlhcacancnmhcaaDoor
open Go.RowKit

set_option maxRecDepth 100000 in
set_option maxHeartbeats 1000000 in
theorem on_great (A B : Option Addr) (l m : List Rec) (c d : Nat) (s : ByteArray) (w : World) (hT : Tab w) (h : Recs w A l) (h' : Recs w B m) (hg : ¬ Tiny l ∨ ¬ Tiny m ∨ 300 < s.size) :
    Calls Tryd.prog 4 #[.slice A l.length c, .slice B m.length d, .string s] w fun e w' => e = .returned (.bool true) ∧ Below w.heap.size w w' := by
  have HG := Lib.hid (great_any A l c w h)
  have HM := Lib.hid (fun wx (hb : Below w.heap.size w wx) => great_any B m d wx (h'.keeps hb))
  have HH := Lib.hid (fun wx (hbx : Below w.heap.size w wx) => show Calls Tryd.prog 9 #[] wx fun e w' => e = .returned (.bool true) ∧ Below w.heap.size w w' from (head_any wx (hT.keeps hbx)).mono fun _ _ ⟨h1, h2⟩ => ⟨h1, hbx.trans (h2.mono hbx.size)⟩)
  clear hT h h'
  by_cases hl : Tiny l
  · by_cases hm : Tiny m
    · have h3 : (300 : Int) < (s.size : Int) := by
        have := (hg.resolve_left (fun x => x hl)).resolve_left (fun x => x hm)
        omega
      rw [decide_eq_true hm] at HM
      rw [decide_eq_true hl] at HG
      clear hg hl hm
      go_enter Tryd.func4, Tryd.ntmps4
      go_wp2_with fail
      refine HG.out.mono ?_
      rintro e w1 ⟨rfl, hb1⟩
      have HB1 := Lib.hid hb1
      clear hb1
      go_wp2_with fail
      refine (HM.out w1 HB1.out).mono ?_
      rintro e w2 ⟨rfl, hb2⟩
      have HB2 := Lib.hid (HB1.out.trans (hb2.mono HB1.out.size))
      clear hb2
      go_wp2_with fail
      refine (HH.out w2 HB2.out).mono ?_
      rintro e wz ⟨rfl, hbz⟩
      have HBZ := Lib.hid hbz
      clear hbz
      go_wp2
      go_ret
      exact ⟨rfl, HBZ.out⟩
    · rw [decide_eq_false hm] at HM
      rw [decide_eq_true hl] at HG
      clear hg hl hm
      go_enter Tryd.func4, Tryd.ntmps4
      go_wp2_with fail
      refine HG.out.mono ?_
      rintro e w1 ⟨rfl, hb1⟩
      have HB1 := Lib.hid hb1
      clear hb1
      go_wp2_with fail
      refine (HM.out w1 HB1.out).mono ?_
      rintro e w2 ⟨rfl, hb2⟩
      have HB2 := Lib.hid (HB1.out.trans (hb2.mono HB1.out.size))
      clear hb2
      go_wp2_with fail
      refine (HH.out w2 HB2.out).mono ?_
      rintro e wz ⟨rfl, hbz⟩
      have HBZ := Lib.hid hbz
      clear hbz
      go_wp2
      go_ret
      exact ⟨rfl, HBZ.out⟩
  · rw [decide_eq_false hl] at HG
    clear hg hl
    go_enter Tryd.func4, Tryd.ntmps4
    go_wp2_with fail
    refine HG.out.mono ?_
    rintro e w1 ⟨rfl, hb1⟩
    have HB1 := Lib.hid hb1
    clear hb1
    go_wp2_with fail
    refine (HH.out w1 HB1.out).mono ?_
    rintro e wz ⟨rfl, hbz⟩
    have HBZ := Lib.hid hbz
    clear hbz
    go_wp2
    go_ret
    exact ⟨rfl, HBZ.out⟩

theorem grr_made {w w1 : World} (h : Below w.heap.size w w1) : GrR w [] (.slice (some ⟨w1.heap.size, 0, none⟩) 0 0) (w1.alloc (.cells #[] 36)) :=
  ⟨World.ownsRow_made w1 #[] 0 h.size (by simp [maxLen]) rfl, h.alloc h.size _⟩

set_option maxRecDepth 100000 in
set_option maxHeartbeats 1000000 in
theorem on_small (A B : Option Addr) (l m : List Rec) (c d : Nat) (b : List UInt8) (w : World) (hT : Tab w) (h : Recs w A l) (h' : Recs w B m) (hA : A = none → c = 0) (hB : B = none → d = 0) (hl : Tiny l) (hm : Tiny m) (hb : b.length ≤ 300) :
    Calls Tryd.prog 4 #[.slice A l.length c, .slice B m.length d, .string (tb b)] w fun e w' => e = .returned (.bool true) ∧ Below w.heap.size w w' := by
  have HG := Lib.hid (great_any A l c w h)
  have HM := Lib.hid (fun wx (hbx : Below w.heap.size w wx) => great_any B m d wx (h'.keeps hbx))
  rw [decide_eq_true hl] at HG
  rw [decide_eq_true hm] at HM
  have h3 : ¬ (300 : Int) < ((tb b).size : Int) := by rw [tb_size]; omega
  have HH := Lib.hid (fun wx (hbx : Below w.heap.size w wx) => show Calls Tryd.prog 9 #[] wx fun e w' => e = .returned (.bool true) ∧ Below w.heap.size w w' from (head_any wx (hT.keeps hbx)).mono fun _ _ ⟨h1, h2⟩ => ⟨h1, hbx.trans (h2.mono hbx.size)⟩)
  have hll := hl.le
  have hml := hm.le
  have hl12 := hl.1
  have hm12 := hm.1
  have HT := Lib.hid hT
  have HAL := Lib.hid (And.intro h hA)
  have HBM := Lib.hid (And.intro h' hB)
  have HP := Lib.hid (fun wx (hbx : Below w.heap.size w wx) => show Calls Tryd.prog 10 #[.slice A l.length c] wx fun e w' => e = .returned (.tuple #[.string (tb (allR l)), .int .i64 0]) ∧ Below w.heap.size w w' from (put_tiny A l c wx (hT.keeps hbx) (h.keeps hbx) hl.small (by omega)).mono fun _ _ ⟨h1, h2⟩ => ⟨h1, hbx.trans (h2.mono hbx.size)⟩)
  have HP2 := Lib.hid (fun wx (hbx : Below w.heap.size w wx) => show Calls Tryd.prog 10 #[.slice B m.length d] wx fun e w' => e = .returned (.tuple #[.string (tb (allR m)), .int .i64 0]) ∧ Below w.heap.size w w' from (put_tiny B m d wx (hT.keeps hbx) (h'.keeps hbx) hm.small (by omega)).mono fun _ _ ⟨h1, h2⟩ => ⟨h1, hbx.trans (h2.mono hbx.size)⟩)
  have hsm : Small (l ++ m) := fun r hr => by
    rcases List.mem_append.1 hr with h1 | h1
    · exact hl.small r h1
    · exact hm.small r h1
  have HP3 := Lib.hid (fun wx (C : Option Addr) (n e' : Nat) (hn : (l ++ m).length = n) (hbx : Below w.heap.size w wx) (hr : Recs wx C (l ++ m)) => show Calls Tryd.prog 10 #[.slice C n e'] wx fun e w' => e = .returned (.tuple #[.string (tb (allR (l ++ m))), .int .i64 0]) ∧ Below w.heap.size w w' from by
    subst hn
    exact (put_tiny C (l ++ m) e' wx (hT.keeps hbx) hr hsm (by rw [List.length_append]; omega)).mono fun _ _ ⟨h1, h2⟩ => ⟨h1, hbx.trans (h2.mono hbx.size)⟩)
  have hall : allR (l ++ m) = allR l ++ allR m := allR_append l m
  have hsc1 : scan (allR (l ++ m) ++ b) = (l ++ (scan (allR m ++ b)).1, (allR l).length + (scan (allR m ++ b)).2.1, (scan (allR m ++ b)).2.2) := by
    rw [hall, List.append_assoc]; exact scan_all l hl.small.fit _
  have HS1 := Lib.hid (fun wx (hbx : Below w.heap.size w wx) => scan_any (allR (l ++ m) ++ b) wx (hT.keeps hbx) (by rw [hall]; simp only [List.length_append]; omega))
  have HS2 := Lib.hid (fun wx (hbx : Below w.heap.size w wx) => scan_any (allR m ++ b) wx (hT.keeps hbx) (by simp only [List.length_append]; omega))
  rw [hsc1] at HS1
  have hX1 := tb_app (allR (l ++ m)) b
  have hX2 := tb_app (allR m) b
  have hX3 : tb (allR l) ++ tb (allR m) = tb (allR (l ++ m)) := by rw [hall, tb_app]
  have hbs : (tb b).size = b.length := tb_size _
  have z1 : (tb (allR l)).size = (allR l).length := tb_size _
  have z2 : (tb (allR m)).size = (allR m).length := tb_size _
  have z3 : (tb (allR (l ++ m))).size = (allR l).length + (allR m).length := by rw [tb_size, hall, List.length_append]
  have hsl := scan_len (allR m ++ b)
  obtain ⟨htk, -, hx2, -⟩ := scan_takes _ (allR m ++ b) (Nat.le_refl _)
  rw [List.length_append] at htk hsl
  generalize hsc : scan (allR m ++ b) = SC at *
  obtain ⟨L, n, x⟩ := SC
  simp only at hx2 hsl htk HS1 HS2
  have HLL := Lib.hid (show (l ++ L).length = l.length + L.length from List.length_append)
  obtain ⟨NL, hNL⟩ : ∃ NL, (l ++ L).length = NL := ⟨_, rfl⟩
  have hNL2 : NL = l.length + L.length := by rw [← hNL]; exact HLL.out
  obtain ⟨ln, hln⟩ : ∃ ln, (allR l).length = ln := ⟨_, rfl⟩
  obtain ⟨mn, hmn⟩ : ∃ mn, (allR m).length = mn := ⟨_, rfl⟩
  rw [hln] at z1 z3 HS1 hll
  rw [hmn] at z2 z3 hml htk hsl
  obtain ⟨bn, hbn⟩ : ∃ bn, b.length = bn := ⟨_, rfl⟩
  rw [hbn] at hbs hb htk hsl
  have q1 : ¬ 9223372036854775807 < ln + mn + bn := by omega
  have q2 : ¬ 9223372036854775807 < mn + bn := by omega
  have q3 : ¬ 9223372036854775807 < ln + mn := by omega
  obtain ⟨tn, htn⟩ : ∃ tn, ln + n = tn := ⟨_, rfl⟩
  have htnI : (ln : Int) + (n : Int) = (tn : Int) := by omega
  have wtn : IntKind.i64.wrap (tn : Int) = (tn : Int) := IntWalk.i64_in _ (by omega)
  rw [htn] at HS1
  generalize tb (allR (l ++ m) ++ b) = X1 at *
  generalize tb (allR m ++ b) = X2 at *
  generalize tb (allR (l ++ m)) = S3 at *
  generalize tb (allR m) = S2 at *
  generalize tb (allR l) = S1 at *
  generalize tb b = Bh at *
  clear h h' hT hl hm hsc hsc1 hall hsm hA hB hln hmn hbn htn
  go_enter Tryd.func4, Tryd.ntmps4
  go_wp2_with fail
  refine HG.out.mono ?_
  rintro e w1 ⟨rfl, hb1⟩
  have HB1 := Lib.hid hb1
  clear hb1 HG
  go_wp2_with fail
  refine (HM.out w1 HB1.out).mono ?_
  rintro e w2 ⟨rfl, hb2⟩
  have HB2 := Lib.hid (HB1.out.trans (hb2.mono HB1.out.size))
  clear hb2 HM
  go_wp2_with fail
  refine (HP.out w2 HB2.out).mono ?_
  rintro e w3 ⟨rfl, hb3⟩
  have HB3 := Lib.hid hb3
  clear hb3 HP
  go_wp2_with fail
  refine (HP2.out w3 HB3.out).mono ?_
  rintro e w4 ⟨rfl, hb4⟩
  have HB4 := Lib.hid hb4
  clear hb4 HP2
  have HG5 := Lib.hid (grr_made HB4.out)
  go_wp2_with (at_builtin; refine wpList_recs (l := []) rfl (.tmp 42) (.tmp 43) rfl rfl HG5.out A l l.length c rfl rfl (HAL.out.1.keeps HG5.out.2) HAL.out.2 (by simp) (by omega) ?_)
  intro v6 w6 hg6 _
  have HG6 := Lib.hid (show GrR w l v6 w6 from hg6)
  clear hg6 HG5
  go_wp2_with (at_builtin; refine wpList_recs (l := l) rfl (.tmp 44) (.tmp 45) rfl rfl HG6.out B m m.length d rfl rfl (HBM.out.1.keeps HG6.out.2) HBM.out.2 (by omega) (by omega) ?_)
  intro v7 w7 hg7 _
  have HG7 := Lib.hid hg7
  obtain ⟨A7, c7, e7, _, _, hr7⟩ := HG7.out.reads
  subst e7
  have HR7 := Lib.hid hr7
  clear hg7 hr7 HG6
  obtain ⟨n7, hn7⟩ : ∃ n7, (l ++ m).length = n7 := ⟨_, rfl⟩
  have HP7 := Lib.hid (HP3.out w7 A7 n7 c7 hn7 HG7.out.2 HR7.out)
  rw [hn7]
  clear hn7
  go_wp2_with fail
  refine HP7.out.mono ?_
  rintro e w8 ⟨rfl, hb8⟩
  have HB8 := Lib.hid hb8
  clear hb8 HP7 HP3 HG7 HR7
  go_wp2_with fail
  refine (HS1.out w8 HB8.out).mono ?_
  rintro e w9 ⟨A9, c9, rfl, hc9, hA9, hr9, hb9⟩
  have HB9 := Lib.hid (HB8.out.trans (hb9.mono HB8.out.size))
  have HR9 := Lib.hid hr9
  simp only [hNL] at hc9 ⊢
  have HC9 := Lib.hid hc9
  clear hb9 hr9 HS1 hA9 hc9
  go_wp2_with fail
  refine (HS2.out w9 HB9.out).mono ?_
  rintro e w10 ⟨A10, c10, rfl, hc10, hA10, hr10, hb10⟩
  have HB10 := Lib.hid (HB9.out.trans (hb10.mono HB9.out.size))
  have HR10 := Lib.hid (HR9.out.keeps hb10)
  have HQ10 := Lib.hid hr10
  clear hb10 hr10 HS2 hA10 hc10 HR9
  have hlt : ¬ (NL : Int) < (l.length : Int) := by omega
  have hup := rec_upto A9 NL c9 l.length (by have := HC9.out; omega)
  have HE1 := Lib.hid (fun wx (hbx : Below w10.heap.size w10 wx) => show Calls Tryd.prog 14 #[.slice A9 l.length c9, .slice A l.length c] wx fun e w' => e = .returned (.bool true) ∧ Below w10.heap.size w10 w' from by
    have h1 : Recs wx A9 l := by
      have := (HR10.out.take l.length).keeps hbx
      rwa [List.take_left] at this
    have := rsame_any A9 A l l c9 c wx h1 ((HAL.out.1.keeps HB10.out).keeps hbx) (by omega)
    rw [decide_eq_true rfl] at this
    exact this.mono fun _ _ ⟨h1, h2⟩ => ⟨h1, hbx.trans (h2.mono hbx.size)⟩)
  have hli : (l.length : Int) ≤ (c9 : Int) := by have := HC9.out; omega
  have hli2 : (l.length : Int) ≤ (NL : Int) := by omega
  have hNs : NL - l.length = L.length := by omega
  clear hNL2 HLL
  by_cases hcc : c9 = l.length
  · subst hcc
    have HR11 := Lib.hid (show ∀ wx, Below w10.heap.size w10 wx → Recs wx (A9) L from fun wx hbx => by
      have := HR10.out.drop l.length l.length (by rw [hNL]; exact HC9.out)
      rw [List.drop_left, if_pos rfl] at this
      exact this.keeps hbx)
    have HE2 := Lib.hid (fun wx (hbx : Below w10.heap.size w10 wx) => show Calls Tryd.prog 14 #[.slice (A9) L.length 0, .slice A10 L.length c10] wx fun e w' => e = .returned (.bool true) ∧ Below w10.heap.size w10 w' from by
      have := rsame_any (A9) A10 L L 0 c10 wx (HR11.out wx hbx) (HQ10.out.keeps hbx) (by omega)
      rw [decide_eq_true rfl] at this
      exact this.mono fun _ _ ⟨h1, h2⟩ => ⟨h1, hbx.trans (h2.mono hbx.size)⟩)
    go_wp2_with fail
    refine (HE1.out w10 (Below.refl _ _)).mono ?_
    rintro e w11 ⟨rfl, hb11⟩
    have HB11 := Lib.hid hb11
    clear hb11 HE1
    go_wp2_with fail
    with_reducible refine (HE2.out w11 HB11.out).mono ?_
    rintro e w12 ⟨rfl, hb12⟩
    have HB12 := Lib.hid (HB10.out.trans (hb12.mono HB10.out.size))
    clear hb12 HE2
    go_wp2_with fail
    refine (HH.out w12 HB12.out).mono ?_
    rintro e wz ⟨rfl, hbz⟩
    have HBZ := Lib.hid hbz
    clear hbz
    go_wp2
    go_ret
    exact ⟨rfl, HBZ.out⟩
  · have HR11 := Lib.hid (show ∀ wx, Below w10.heap.size w10 wx → Recs wx (Option.map (fun x => x.add (l.length * 2)) A9) L from fun wx hbx => by
      have := HR10.out.drop l.length c9 (by rw [hNL]; exact HC9.out)
      rw [List.drop_left, if_neg hcc] at this
      exact this.keeps hbx)
    have HE2 := Lib.hid (fun wx (hbx : Below w10.heap.size w10 wx) => show Calls Tryd.prog 14 #[.slice (Option.map (fun x => x.add (l.length * 2)) A9) L.length (c9 - l.length), .slice A10 L.length c10] wx fun e w' => e = .returned (.bool true) ∧ Below w10.heap.size w10 w' from by
      have := rsame_any (Option.map (fun x => x.add (l.length * 2)) A9) A10 L L (c9 - l.length) c10 wx (HR11.out wx hbx) (HQ10.out.keeps hbx) (by omega)
      rw [decide_eq_true rfl] at this
      exact this.mono fun _ _ ⟨h1, h2⟩ => ⟨h1, hbx.trans (h2.mono hbx.size)⟩)
    go_wp2_with fail
    refine (HE1.out w10 (Below.refl _ _)).mono ?_
    rintro e w11 ⟨rfl, hb11⟩
    have HB11 := Lib.hid hb11
    clear hb11 HE1
    go_wp2_with fail
    with_reducible refine (HE2.out w11 HB11.out).mono ?_
    rintro e w12 ⟨rfl, hb12⟩
    have HB12 := Lib.hid (HB10.out.trans (hb12.mono HB10.out.size))
    clear hb12 HE2
    go_wp2_with fail
    refine (HH.out w12 HB12.out).mono ?_
    rintro e wz ⟨rfl, hbz⟩
    have HBZ := Lib.hid hbz
    clear hbz
    go_wp2
    go_ret
    exact ⟨rfl, HBZ.out⟩
end Go.Proofs.YtlhcacancnmhcaaDoor
