/-
  The walk of OctetStands.
-/
import Derived.Test.YtfdfoijpkikfbaaHead
import Derived.Test.YtfdfoijpkikfbaaRef
import Derived.Deep.RegionWith
import Derived.Deep.RegionHeld3
namespace Go.Proofs.Ytfdfoijpkikfbaa
open Go.RowKit

/-- One field, as it lies in memory. -/
structure Fld where
  tx : Bool
  nn : Nat
  s : ByteArray
  wd : Int

/-- The fields' cells. -/
def Flds (w : World) (b off n : Nat) (F : Nat → Fld) : Prop :=
  b < w.heap.size ∧ ∀ i, i < n → w.cell? ⟨b, off + i * 4, none⟩ = some (.bool (F i).tx) ∧ w.cell? ⟨b, off + i * 4 + 1, none⟩ = some (.int .u64 ((F i).nn : Int)) ∧
    w.cell? ⟨b, off + i * 4 + 2, none⟩ = some (.string (F i).s) ∧ w.cell? ⟨b, off + i * 4 + 3, none⟩ = some (.int .i64 (F i).wd) ∧ (F i).nn < 18446744073709551616 ∧ (F i).s.size ≤ 9223372036854775807

theorem Flds.below {w w' : World} {b off n : Nat} {F : Nat → Fld} (h : Flds w b off n F) (hb : Below w.heap.size w w') : Flds w' b off n F := by
  obtain ⟨h0, h⟩ := h
  refine ⟨Nat.lt_of_lt_of_le h0 hb.size, fun i hi => ?_⟩
  obtain ⟨h1, h2, h3, h4, h5⟩ := h i hi
  exact ⟨(hb.cell (p := ⟨b, _, none⟩) h0).trans h1, (hb.cell (p := ⟨b, _, none⟩) h0).trans h2, (hb.cell (p := ⟨b, _, none⟩) h0).trans h3, (hb.cell (p := ⟨b, _, none⟩) h0).trans h4, h5⟩

/-- What holds at a round's head: the bytes so far and the text that is wanted are one. -/
def Sofar (w : World) (k : Nat) (vb vw : Value) (wr : World) : Prop :=
  ∃ (l : List UInt8) (A : Option Addr) (c : Nat), vb = .slice A l.length c ∧ vw = .string ⟨l.toArray⟩ ∧ l.length ≤ k * 408 ∧ Reads 5 wr A l ∧ Below w.heap.size w wr

theorem sofar_mk {w wr : World} {k g m : Nat} {l r : List UInt8} {mk : Nat × Nat} (h : Row wr g 5 (byt (l ++ r)) mk) (hl : l.length ≤ k * 408) (hm : r.length = m) (hr : m ≤ 408) (hb : Below w.heap.size w wr) :
    Sofar w (k + 1) (.slice (some ⟨g, 0, none⟩) (l.length + m) (l.length + m)) (.string ⟨(l ++ r).toArray⟩) wr := by
  subst hm
  refine ⟨l ++ r, _, l.length + r.length, ?_, rfl, ?_, row_reads h, hb⟩
  · rw [List.length_append]
  · rw [List.length_append]; omega

theorem txt_end {w wr w2 w3 : World} {k n : Nat} {o : Obj} {l : List UInt8} {s : ByteArray} (hr : Row w2 (wr.alloc o).heap.size 5 (byt (l ++ txt s n)) (0, 0)) (hb3 : Below w2.drew.heap.size w2.drew w3) (hl : l.length ≤ k * 408) (hn : n ≤ 8) (hs : s.size ≤ 400) (hbb : Below w.heap.size w (wr.alloc o)) (hb2 : Below (wr.alloc o).heap.size (wr.alloc o) w2) :
    Row w3 (wr.heap.size + 1) 5 (byt (l ++ txt s n)) (0, 0) ∧ Sofar w (k + 1) (.slice (some ⟨wr.heap.size + 1, 0, none⟩) (l.length + (n + s.size)) (l.length + (n + s.size))) (.string ⟨(l ++ txt s n).toArray⟩) w3 := by
  have h1 : Row w3 (wr.heap.size + 1) 5 (byt (l ++ txt s n)) (0, 0) := by
    have := hr.drew.below hb3 hr.lt
    simpa using this
  have hz : w.heap.size ≤ w2.heap.size := (hbb.trans (hb2.mono hbb.size)).size
  exact ⟨h1, sofar_mk h1 hl (txt_length s n) (by omega) ((hbb.trans (hb2.mono hbb.size)).drew.trans (hb3.mono hz))⟩

theorem cat_text (l r : List UInt8) : ((⟨l.toArray⟩ : ByteArray) ++ (⟨r.toArray⟩ : ByteArray)) = ⟨(l ++ r).toArray⟩ := by
  apply ByteArray.ext
  rw [ByteArray.data_append]
  simp

theorem may_no {n : Int} (h : isT n = false) (hw : isW n = true) : ¬ n < 8 := by
  intro h8
  have e : (n == 8) = false := by rw [beq_eq_false_iff_ne]; omega
  simp [isW, e, h] at hw
theorem isW_of_isT {n : Int} (h : isT n = true) : isW n = true := by simp [isW, h]

theorem cat_txt (l : List UInt8) (s : ByteArray) (n : Nat) : ((⟨(l ++ be s.size n).toArray⟩ : ByteArray) ++ s) = ⟨(l ++ txt s n).toArray⟩ := by
  apply ByteArray.ext
  rw [ByteArray.data_append]
  apply Array.ext'
  simp [txt]

theorem size_alloc1 (w : World) (o : Obj) : (w.alloc o).heap.size = w.heap.size + 1 := by simp

set_option maxHeartbeats 400000 in
theorem stands_great (A : Option Addr) (n c : Nat) (w : World) (hn : 40 < n) (hm : n ≤ 9223372036854775807) :
    Calls Try.prog 4 #[.slice A n c] w fun e w' => e = .returned (.bool true) ∧ Below w.heap.size w w' := by
  go_enter Try.func4, Try.ntmps4
  go_wp2_with fail
  refine (head_any _).mono ?_
  rintro e w1 ⟨rfl, hb⟩
  go_wp2
  go_ret
  exact ⟨rfl, hb⟩

set_option maxRecDepth 100000 in
set_option maxHeartbeats 6000000 in
theorem stands_some (b off n c : Nat) (F : Nat → Fld) (w : World) (hn : n ≤ 40) (hF : Flds w b off n F) :
    Calls Try.prog 4 #[.slice (some ⟨b, off, none⟩) n c] w fun e w' => e = .returned (.bool true) ∧ Below w.heap.size w w' := by
  go_enter Try.func4, Try.ntmps4
  go_wp2_with fail
  go_loopw [3, 4, 5] (fun vb vw i wr => ∃ k : Nat, k ≤ n ∧ i = .int .i64 k ∧ Sofar w k vb vw wr) (fun _ _ i _ => n - (intOf i).toNat)
  case atStart => exact ⟨0, Nat.zero_le _, rfl, [], none, 0, rfl, rfl, by simp, Reads.nil, Below.refl _ _⟩
  case round =>
    obtain ⟨k, hk, rfl, l, A, cb, rfl, rfl, hl, hrd, hb⟩ := hrel
    have HRD := Lib.hid hrd
    have HB := Lib.hid hb
    have HF := Lib.hid (hF.below (w' := wr) ⟨hb.os, hb.tape, hb.output, hb.size, hb.block⟩)
    clear hrd hb
    by_cases hlt : k < n
    · obtain ⟨c0, c1, c2, c3, hnn, hsz⟩ := HF.out.2 k hlt
      generalize hfk : F k = fk at *
      obtain ⟨tx, nn, s, wd⟩ := fk
      simp only at c0 c1 c2 c3 hnn hsz
      clear hfk
      have hbox := Row.new wr 42 [.bool tx, .int .u64 (nn : Int), .string s, .int .i64 wd] (0, 0)
      have hbb : Below w.heap.size w (wr.alloc (.cells #[.bool tx, .int .u64 (nn : Int), .string s, .int .i64 wd] 42)) := HB.out.alloc HB.out.size _
      rcases Nat.lt_or_ge 400 s.size with hs | hs
      · clear hbox
        have HBB := Lib.hid hbb
        clear hbb
        go_wp2_with fail
        refine (head_any _).mono ?_
        rintro e w1 ⟨rfl, hb1⟩
        go_wp2
        go_ret
        exact ⟨rfl, HBB.out.trans (hb1.mono HBB.out.size)⟩
      · have HBOX := Lib.hid hbox
        have HBB := Lib.hid hbb
        have hrd1 : Reads 5 (wr.alloc (.cells #[.bool tx, .int .u64 (nn : Int), .string s, .int .i64 wd] 42)) A l := HRD.out.below ((Below.refl _ _).alloc (Nat.le_refl _) _) (Nat.le_refl _)
        have HRD1 := Lib.hid hrd1
        have hcv1 := run_text Try.underlying29 Try.underlying5 _ A l cb hrd1 9 Try.underlying9
        clear hbox hbb hrd1
        cases tx with
        | false =>
          cases hw : isW wd with
          | true =>
            obtain ⟨wn, rfl⟩ := Int.eq_ofNat_of_zero_le (show 0 ≤ wd by have := isW_cases hw; omega)
            have hw8 : wn ≤ 8 := by have := isW_cases hw; omega
            have HW := Lib.hid hw
            clear hw
            go_wp2_with fail
            refine (put_wide A l cb nn wn _ HRD1.out (by omega) HW.out).mono ?_
            rintro e w2 ⟨rfl, hb2, hr2⟩
            have HX2 := Lib.hid (HBOX.out.below hb2 HBOX.out.lt)
            have hx1 := HX2.out.cell 1
            have hx3 := HX2.out.cell 3
            have HB2 := Lib.hid hb2
            have HR2 := Lib.hid hr2
            clear hb2 hr2
            simp at hx1 hx3
            go_wp2_with fail
            refine (width_any _ _).mono ?_
            rintro e w3 ⟨rfl, rfl⟩
            have hw := HW.out
            go_wp2_with fail
            clear hw hx1 hx3
            refine (refNumber_any nn wn _ hw8 hnn).mono ?_
            rintro e w3 ⟨rfl, hb3, hr3⟩
            have hcn := text_at hr3 wn wn (be_length _ _).symm
            have HR23 := Lib.hid (HR2.out.below hb3 HR2.out.lt)
            have hcb := text_at HR23.out (l.length + wn) (l.length + wn) (by rw [List.length_append, be_length])
            have hcv3 := run_text Try.underlying29 Try.underlying5 _ A l cb ((HRD1.out.below HB2.out (Nat.le_refl _)).below hb3 (Nat.le_refl _)) 9 Try.underlying9
            rw [size_alloc1] at hcb HR23
            have HS := Lib.hid (sofar_mk (k := k) HR23.out hl (be_length nn wn) (by omega) ((HBB.out.trans (HB2.out.mono HBB.out.size)).trans (hb3.mono (HBB.out.trans (HB2.out.mono HBB.out.size)).size)))
            have hcat := cat_text l (be nn wn)
            have hbl : (be nn wn).length ≤ 8 := by rw [be_length]; exact hw8
            clear hb3 hr3
            go_wp2_with fail
            go_roundw
            case rel => exact ⟨k + 1, by omega, by go_num, HS.out⟩
            case measure => simp [intOf]; omega
          | false =>
            have HW := Lib.hid hw
            clear hw
            go_wp2_with fail
            refine (put_none A l cb nn wd _ HRD1.out (by omega) HW.out).mono ?_
            rintro e w2 ⟨rfl, hb2, hr2⟩
            have HX2 := Lib.hid (HBOX.out.below hb2 HBOX.out.lt)
            have hx3 := HX2.out.cell 3
            have hcb := text_at hr2 l.length l.length rfl
            have hcv2 := run_text Try.underlying29 Try.underlying5 _ A l cb (HRD1.out.below hb2 (Nat.le_refl _)) 9 Try.underlying9
            rw [size_alloc1] at hcb hr2
            have HS := Lib.hid (sofar_mk (k := k) (l := l) (r := []) (m := 0) (by rw [List.append_nil]; exact hr2) hl rfl (by omega) (HBB.out.trans (hb2.mono HBB.out.size)))
            rw [List.append_nil, Nat.add_zero] at HS
            clear hb2 hr2
            simp at hx3
            go_wp2_with fail
            refine (width_any _ _).mono ?_
            rintro e w3 ⟨rfl, rfl⟩
            have hw := HW.out
            go_wp2_with fail
            go_roundw
            case rel => exact ⟨k + 1, by omega, by go_num, HS.out⟩
            case measure => simp [intOf]; omega
        | true =>
          cases hw : isT wd with
          | false =>
            have HW := Lib.hid hw
            have HS := Lib.hid (show Sofar w (k + 1) (.slice A l.length cb) (.string ⟨l.toArray⟩) (wr.alloc (.cells #[.bool true, .int .u64 (nn : Int), .string s, .int .i64 wd] 42)) from ⟨l, A, cb, rfl, rfl, by omega, HRD1.out, HBB.out⟩)
            clear hw
            go_wp2_with fail
            refine (putText_arg A l cb s wd _ HW.out).mono ?_
            rintro e w2 ⟨rfl, rfl⟩
            go_wp2_with fail
            refine (width_any _ _).mono ?_
            rintro e w3 ⟨rfl, rfl⟩
            go_wp2_with fail
            · exact absurd ‹wd < 8› (may_no HW.out ‹isW wd = true›)
            all_goals
              go_roundw
              case rel => exact ⟨k + 1, by omega, by go_num, HS.out⟩
              case measure => simp [intOf]; omega
          | true =>
            obtain ⟨wn, rfl⟩ := Int.eq_ofNat_of_zero_le (show 0 ≤ wd by have := isT_cases hw; omega)
            have hw4 : wn ≤ 4 := by have := isT_cases hw; omega
            have HW := Lib.hid hw
            have HWW := Lib.hid (isW_of_isT hw)
            clear hw
            by_cases hf : s.size / 256 ^ wn = 0
            · have HF0 := Lib.hid hf
              have HFB := Lib.hid (show fitB s wn = true by simp [fitB, hf])
              clear hf
              go_wp2_with fail
              refine (putText_ok A l cb s wn _ HRD1.out HW.out (by omega) (by omega) HF0.out).mono ?_
              rintro e w2 ⟨rfl, hb2, hr2⟩
              have HX2 := Lib.hid (HBOX.out.below hb2 HBOX.out.lt)
              have hx2 := HX2.out.cell 2
              have hx3 := HX2.out.cell 3
              have HB2 := Lib.hid hb2
              have HR2 := Lib.hid hr2
              clear hb2 hr2
              simp at hx2 hx3
              go_wp2_with fail
              refine (width_any _ _).mono ?_
              rintro e w3 ⟨rfl, rfl⟩
              have hww := HWW.out
              go_wp2_with fail
              refine (fits_any s wn _ (by omega) (by omega)).mono ?_
              rintro e w3 ⟨rfl, rfl⟩
              have hfb := HFB.out
              go_wp2_with fail
              clear hww hfb
              have hX := HX2.out.lt
              have hwr : IntKind.u64.wrap (s.size : Int) = (s.size : Int) := u64_wrap_id _ (by omega) (by omega)
              have hcat := cat_text l (be s.size wn)
              have hcat2 := cat_txt l s wn
              have hbl : (be s.size wn).length ≤ 4 := by rw [be_length]; exact hw4
              have HNUM := Lib.hid (fun W => refNumber_any s.size wn W (by omega) (by omega))
              have HEND := Lib.hid (fun (w3 : World) (hb3 : Below w2.drew.heap.size w2.drew w3) => txt_end (w := w) (wr := wr) (k := k) (HR2.out) hb3 hl (by omega) hs HBB.out HB2.out)
              go_region_with (go_at_call 13; ((with_reducible refine (HNUM.out _).mono ?_)); rintro e w3 ⟨rfl, hb3, hr3⟩; have hy2 := (hb3.cell (p := ⟨wr.heap.size, 2, none⟩) hX).trans hx2; have hy3 := (hb3.cell (p := ⟨wr.heap.size, 3, none⟩) hX).trans hx3; have hcn := text_at (show Row w3 w2.heap.size 5 (byt (be s.size wn)) (0, 0) from hr3) wn wn (be_length _ _).symm)
              all_goals
                have hcb := text_at (HEND.out w3 hb3).1 (l.length + (wn + s.size)) (l.length + (wn + s.size)) (by rw [List.length_append, txt_length])
                have HS := Lib.hid (HEND.out w3 hb3).2
                clear hcn hy2 hy3 hr3 hb3 hcat hcat2 hbl hwr hX hx2 hx3
                go_wp2_with fail
                go_roundw
                case rel => exact ⟨k + 1, by omega, by go_num, HS.out⟩
                case measure => simp [intOf]; omega
            · have HF0 := Lib.hid hf
              have HFB := Lib.hid (show fitB s wn = false by simp [fitB, hf])
              have HS := Lib.hid (show Sofar w (k + 1) (.slice A l.length cb) (.string ⟨l.toArray⟩) (wr.alloc (.cells #[.bool true, .int .u64 (nn : Int), .string s, .int .i64 (wn : Int)] 42)) from ⟨l, A, cb, rfl, rfl, by omega, HRD1.out, HBB.out⟩)
              clear hf
              go_wp2_with fail
              refine (putText_long A l cb s wn _ HW.out (by omega) HF0.out).mono ?_
              rintro e w2 ⟨rfl, rfl⟩
              go_wp2_with fail
              refine (width_any _ _).mono ?_
              rintro e w3 ⟨rfl, rfl⟩
              have hww := HWW.out
              go_wp2_with fail
              refine (fits_any s wn _ (by omega) (by omega)).mono ?_
              rintro e w3 ⟨rfl, rfl⟩
              have hfb := HFB.out
              go_wp2_with fail
              go_roundw
              case rel => exact ⟨k + 1, by omega, by go_num, HS.out⟩
              case measure => simp [intOf]; omega
    · go_wp2_with fail
      refine (head_any _).mono ?_
      rintro e w1 ⟨rfl, hb1⟩
      go_wp2
      go_ret
      exact ⟨rfl, HB.out.trans (hb1.mono HB.out.size)⟩

end Go.Proofs.Ytfdfoijpkikfbaa
