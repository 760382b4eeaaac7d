/-
  The statement's walk: CellsAsks.
-/
import Derived.Test.YtbganaaiaokfmaaCelHead
import Derived.Test.YtbganaaiaokfmaaCelGreat
namespace Go.Proofs.Ytbganaaiaokfmaa
open Go.RowKit

theorem findV_form (o : Option Txt) : ∃ (S : ByteArray) (b : Bool), findV o = .tuple #[.string S, .bool b] := by
  cases o with
  | none => exact ⟨_, _, rfl⟩
  | some v => exact ⟨_, _, rfl⟩
theorem great_few {l : List CB} (h : greatB l = false) : l.length ≤ 50 := by
  unfold greatB at h
  have := of_decide_eq_false h
  omega

set_option maxRecDepth 100000 in
set_option maxHeartbeats 4000000 in
theorem asks_any (A B : Option Addr) (n c m d : Nat) (l s : List CB) (key : ByteArray) (w0 : World) (hl : Cels w0 A l) (hn : l.length = n) (hs : Cels w0 B s) (hm : s.length = m) (hnb : n ≤ 9223372036854775807) (hmb : m ≤ 9223372036854775807) (hnc : n ≤ c) (hnil : A = none → c = 0) :
    Calls Try.prog 3 #[.slice A n c, .slice B m d, .string key] w0 fun e w' => e = .returned (.bool true) ∧ Below w0.heap.size w0 w' := by
  have HB0 := Lib.hid (Below.refl w0.heap.size w0)
  have HH := Lib.hid (fun wx (_ : Below w0.heap.size w0 wx) => chead_any wx)
  have HGA := Lib.hid (fun wx (hb : Below w0.heap.size w0 wx) => cgreat_any A n c l wx (hl.keeps hb) hn hnb)
  have HGB := Lib.hid (fun wx (hb : Below w0.heap.size w0 wx) => cgreat_any B m d s wx (hs.keeps hb) hm hmb)
  cases hga : greatB l with
  | true =>
    rw [hga] at HGA
    clear hl hn hs hm hnc hnil hga HGB
    go_enter Try.func3, Try.ntmps3
    go_wp2_with fail
    refine (HGA.out w0 HB0.out).mono ?_
    rintro e w1 ⟨rfl, hb1⟩
    have HB1 := Lib.hid (HB0.out.trans (hb1.mono HB0.out.size))
    clear hb1
    go_wp2_with fail
    refine (HH.out w1 HB1.out).mono ?_
    rintro e w2 ⟨rfl, hb2⟩
    have HB2 := Lib.hid (HB1.out.trans (hb2.mono HB1.out.size))
    clear hb2
    go_wp2_with fail
    go_ret
    exact ⟨rfl, HB2.out⟩
  | false =>
    rw [hga] at HGA
    cases hgb : greatB s with
    | true =>
      rw [hgb] at HGB
      clear hl hn hs hm hnc hnil hga hgb
      go_enter Try.func3, Try.ntmps3
      go_wp2_with fail
      refine (HGA.out w0 HB0.out).mono ?_
      rintro e w1 ⟨rfl, hb1⟩
      have HB1 := Lib.hid (HB0.out.trans (hb1.mono HB0.out.size))
      clear hb1
      go_wp2_with fail
      refine (HGB.out w1 HB1.out).mono ?_
      rintro e w2 ⟨rfl, hb2⟩
      have HB2 := Lib.hid (HB1.out.trans (hb2.mono HB1.out.size))
      clear hb2
      go_wp2_with fail
      refine (HH.out w2 HB2.out).mono ?_
      rintro e w3 ⟨rfl, hb3⟩
      have HB3 := Lib.hid (HB2.out.trans (hb3.mono HB2.out.size))
      clear hb3
      go_wp2_with fail
      go_ret
      exact ⟨rfl, HB3.out⟩
    | false =>
      rw [hgb] at HGB
      have hn5 := great_few hga
      have hm5 := great_few hgb
      rw [hn] at hn5
      rw [hm] at hm5
      have HF1 := Lib.hid (fun wx (hb : Below w0.heap.size w0 wx) => kfind_any A n c l key wx (hl.keeps hb) hn (by omega))
      have HF2 := Lib.hid (fun wx (hb : Below w0.heap.size w0 wx) => cfind_any A n c l key wx (hl.keeps hb) hn (by omega))
      obtain ⟨S, b, hF⟩ := findV_form (findP (cels l) key.toList)
      rw [hF] at HF1 HF2
      have HH1 := Lib.hid (fun wx (hb : Below w0.heap.size w0 wx) => khalf_any A n c l wx (hl.keeps hb) hn (by omega) hnc)
      have HH2 := Lib.hid (fun wx (hb : Below w0.heap.size w0 wx) => chalf_any A n c l wx (hl.keeps hb) hn (by omega) hnc)
      unfold halfV at HH1 HH2
      obtain ⟨x, hx⟩ : ∃ x, ((halfP (cels l)).1 : Int) = x := ⟨_, rfl⟩
      obtain ⟨y, hy⟩ : ∃ y, (halfP (cels l)).2 = y := ⟨_, rfl⟩
      rw [hx, hy] at HH1 HH2
      have HR1 := Lib.hid (fun wx (hb : Below w0.heap.size w0 wx) => kright_any A n c l wx (hl.keeps hb) hn (by omega))
      have HR2 := Lib.hid (fun wx (hb : Below w0.heap.size w0 wx) => cright_any A n c l wx (hl.keeps hb) hn (by omega))
      obtain ⟨r, hr⟩ : ∃ r, rgtB (cels l) = r := ⟨_, rfl⟩
      rw [hr] at HR1 HR2
      have HS1 := Lib.hid (fun wx (hb : Below w0.heap.size w0 wx) => kSize_any A n c l wx (hl.keeps hb) hn hnb)
      have HS2 := Lib.hid (fun wx (hb : Below w0.heap.size w0 wx) => csize_any A n c l wx (hl.keeps hb) hn hnb)
      obtain ⟨z, hz⟩ : ∃ z, IntKind.i64.wrap (sizeC (cels l) : Int) = z := ⟨_, rfl⟩
      rw [hz] at HS1 HS2
      have HE1 := Lib.hid (fun wx (hb : Below w0.heap.size w0 wx) => ksame_any A B n c m d l s wx (hl.keeps hb) hn (hs.keeps hb) hm hnb hmb)
      have HE2 := Lib.hid (fun wx (hb : Below w0.heap.size w0 wx) => csame_any A B n c m d l s wx (hl.keeps hb) hn (hs.keeps hb) hm hnb hmb)
      obtain ⟨q, hq⟩ : ∃ q, decide (l = s) = q := ⟨_, rfl⟩
      rw [hq] at HE1 HE2
      have HCP := Lib.hid (fun wx (hb : Below w0.heap.size w0 wx) => ccopy_any A n c l wx (hl.keeps hb) hn (by omega) hnil)
      have HSM := Lib.hid (fun A' c' wx (hb : Below w0.heap.size w0 wx) (h : Cels wx A' l) => show Calls Try.prog 17 #[.slice A n c, .slice A' n c'] wx (fun e w' => e = .returned (.bool true) ∧ Below wx.heap.size wx w') by
        have := ksame_any A A' n c n c' l l wx (hl.keeps hb) hn h hn hnb hnb
        rw [decide_eq_true rfl] at this
        exact this)
      have HA1 := Lib.hid (fun wx (hb : Below w0.heap.size w0 wx) => kat_any A n c l key wx (hl.keeps hb) hn (by omega))
      have HA2 := Lib.hid (fun wx (hb : Below w0.heap.size w0 wx) => cat_any A n c l key wx (hl.keeps hb) hn (by omega))
      obtain ⟨t, ht⟩ : ∃ t, atP (cels l) key.toList = t := ⟨_, rfl⟩
      rw [ht] at HA1 HA2
      have hcmp : (S.toList == S.toList) = true := beq_self_eq_true _
      have hrr : (r == r) = true := beq_self_eq_true _
      have hqq : (q == q) = true := beq_self_eq_true _
      have hbb : (b == b) = true := beq_self_eq_true _
      clear hl hn hs hm hnc hnil hga hgb hF hx hy hr hz hq ht hnb hmb
      go_enter Try.func3, Try.ntmps3
      go_wp2_with fail
      refine (HGA.out w0 HB0.out).mono ?_
      rintro e w1 ⟨rfl, hb1⟩
      have HB1 := Lib.hid (HB0.out.trans (hb1.mono HB0.out.size))
      clear hb1
      go_wp2_with fail
      refine (HGB.out w1 HB1.out).mono ?_
      rintro e w2 ⟨rfl, hb2⟩
      have HB2 := Lib.hid (HB1.out.trans (hb2.mono HB1.out.size))
      clear hb2
      go_wp2_with fail
      refine (HF1.out w2 HB2.out).mono ?_
      rintro e w3 ⟨rfl, hb3⟩
      have HB3 := Lib.hid (HB2.out.trans (hb3.mono HB2.out.size))
      clear hb3
      go_wp2_with fail
      refine (HF2.out w3 HB3.out).mono ?_
      rintro e w4 ⟨rfl, hb4⟩
      have HB4 := Lib.hid (HB3.out.trans (hb4.mono HB3.out.size))
      clear hb4
      go_wp2_with fail
      refine (HH1.out w4 HB4.out).mono ?_
      rintro e w5 ⟨rfl, hb5⟩
      have HB5 := Lib.hid (HB4.out.trans (hb5.mono HB4.out.size))
      clear hb5
      go_wp2_with fail
      refine (HH2.out w5 HB5.out).mono ?_
      rintro e w6 ⟨rfl, hb6⟩
      have HB6 := Lib.hid (HB5.out.trans (hb6.mono HB5.out.size))
      clear hb6
      go_wp2_with fail
      refine (HR1.out w6 HB6.out).mono ?_
      rintro e w7 ⟨rfl, hb7⟩
      have HB7 := Lib.hid (HB6.out.trans (hb7.mono HB6.out.size))
      clear hb7
      go_wp2_with fail
      refine (HR2.out w7 HB7.out).mono ?_
      rintro e w8 ⟨rfl, hb8⟩
      have HB8 := Lib.hid (HB7.out.trans (hb8.mono HB7.out.size))
      clear hb8
      go_wp2_with fail
      refine (HS1.out w8 HB8.out).mono ?_
      rintro e w9 ⟨rfl, hb9⟩
      have HB9 := Lib.hid (HB8.out.trans (hb9.mono HB8.out.size))
      clear hb9
      go_wp2_with fail
      refine (HS2.out w9 HB9.out).mono ?_
      rintro e w10 ⟨rfl, hb10⟩
      have HB10 := Lib.hid (HB9.out.trans (hb10.mono HB9.out.size))
      clear hb10
      go_wp2_with fail
      refine (HE1.out w10 HB10.out).mono ?_
      rintro e w11 ⟨rfl, hb11⟩
      have HB11 := Lib.hid (HB10.out.trans (hb11.mono HB10.out.size))
      clear hb11
      go_wp2_with fail
      refine (HE2.out w11 HB11.out).mono ?_
      rintro e w12 ⟨rfl, hb12⟩
      have HB12 := Lib.hid (HB11.out.trans (hb12.mono HB11.out.size))
      clear hb12
      go_wp2_with fail
      refine (HCP.out w12 HB12.out).mono ?_
      rintro e w13 ⟨A', c', rfl, hc13, -, hb13⟩
      have HB13 := Lib.hid (HB12.out.trans (hb13.mono HB12.out.size))
      have HS13 := Lib.hid (HSM.out A' c' w13 HB13.out hc13)
      clear hb13 hc13
      go_wp2_with fail
      refine HS13.out.mono ?_
      rintro e w14 ⟨rfl, hb14⟩
      have HB14 := Lib.hid (HB13.out.trans (hb14.mono HB13.out.size))
      clear hb14
      go_wp2_with fail
      refine (HA1.out w14 HB14.out).mono ?_
      rintro e w15 ⟨rfl, hb15⟩
      have HB15 := Lib.hid (HB14.out.trans (hb15.mono HB14.out.size))
      clear hb15
      go_wp2_with fail
      refine (HA2.out w15 HB15.out).mono ?_
      rintro e w16 ⟨rfl, hb16⟩
      have HB16 := Lib.hid (HB15.out.trans (hb16.mono HB15.out.size))
      clear hb16
      go_wp2_with fail
      refine (HH.out w16 HB16.out).mono ?_
      rintro e w17 ⟨rfl, hb17⟩
      have HB17 := Lib.hid (HB16.out.trans (hb17.mono HB16.out.size))
      clear hb17
      go_wp2_with fail
      go_ret
      exact ⟨rfl, HB17.out⟩
end Go.Proofs.Ytbganaaiaokfmaa
