/-
  The statement's walk: CellsBytes.
-/
import Derived.Test.YtbganaaiaokfmaaCelAsksLaw
namespace Go.Proofs.Ytbganaaiaokfmaa
open Go.RowKit

theorem bytesV_form (l : List Cel) : ∃ (P : ByteArray) (x : Int), bytesV l = .tuple #[.string P, .int .i64 x] ∧ (x = 0 → P = tx (bytesC l) ∧ Rgt l ∧ l.length ≤ 65535) := by
  unfold bytesV
  split
  · rename_i hr
    split
    · exact ⟨_, _, rfl, fun h => by cases h⟩
    · exact ⟨_, _, rfl, fun _ => ⟨rfl, of_decide_eq_true hr, by omega⟩⟩
  · exact ⟨_, _, rfl, fun h => by cases h⟩

set_option maxRecDepth 100000 in
set_option maxHeartbeats 4000000 in
theorem bytes_any (A : Option Addr) (n c : Nat) (l : List CB) (s : ByteArray) (w0 : World) (hl : Cels w0 A l) (hn : l.length = n) (hnb : n ≤ 9223372036854775807) :
    Calls Try.prog 5 #[.slice A n c, .string s] w0 fun e w' => e = .returned (.bool true) ∧ Below w0.heap.size w0 w' := by
  have HB0 := Lib.hid (Below.refl w0.heap.size w0)
  have HH := Lib.hid (fun wx (_ : Below w0.heap.size w0 wx) => chead_any wx)
  have HGA := Lib.hid (fun wx (hb : Below w0.heap.size w0 wx) => cgreat_any A n c l wx (hl.keeps hb) hn hnb)
  cases hga : greatB l with
  | true =>
    rw [hga] at HGA
    clear hl hn hga
    go_enter Try.func5, Try.ntmps5
    go_wp2_with fail
    refine (HGA.out w0 HB0.out).mono ?_
    rintro e w1 ⟨rfl, hb1⟩
    have HB1 := Lib.hid (HB0.out.trans (hb1.mono HB0.out.size))
    clear hb1
    go_wp2_with fail
    refine (HH.out w1 HB1.out).mono ?_
    rintro e w2 ⟨rfl, hb2⟩
    have HB2 := Lib.hid (HB1.out.trans (hb2.mono HB1.out.size))
    clear hb2
    go_wp2_with fail
    go_ret
    exact ⟨rfl, HB2.out⟩
  | false =>
    rw [hga] at HGA
    by_cases hs : 20000 < s.size
    · have gs : (20000 : Int) < (s.size : Int) := by omega
      clear hl hn hga hs
      go_enter Try.func5, Try.ntmps5
      go_wp2_with fail
      refine (HGA.out w0 HB0.out).mono ?_
      rintro e w1 ⟨rfl, hb1⟩
      have HB1 := Lib.hid (HB0.out.trans (hb1.mono HB0.out.size))
      clear hb1
      go_wp2_with fail
      refine (HH.out w1 HB1.out).mono ?_
      rintro e w2 ⟨rfl, hb2⟩
      have HB2 := Lib.hid (HB1.out.trans (hb2.mono HB1.out.size))
      clear hb2
      go_wp2_with fail
      go_ret
      exact ⟨rfl, HB2.out⟩
    · have gs : ¬ (20000 : Int) < (s.size : Int) := by omega
      have hn5 := great_few hga
      rw [hn] at hn5
      have HY1 := Lib.hid (fun wx (hb : Below w0.heap.size w0 wx) => kbytes_any A n c l wx (hl.keeps hb) hn (by omega))
      have HY2 := Lib.hid (fun wx (hb : Below w0.heap.size w0 wx) => cbytes_any A n c l wx (hl.keeps hb) hn (by omega))
      obtain ⟨P, x, hP, hx⟩ := bytesV_form (cels l)
      rw [hP] at HY1 HY2
      have HG1 := Lib.hid (fun wx (_ : Below w0.heap.size w0 wx) => kget_any s wx (by omega))
      have HG2 := Lib.hid (fun wx (_ : Below w0.heap.size w0 wx) => cget_any s wx (by omega))
      have HCS := Lib.hid (fun (A1 A2 : Option Addr) (N c1 c2 : Nat) (u : List CB) wx (h1 : Cels wx A1 u) (h2 : Cels wx A2 u) (hN : u.length = N) (hNb : N ≤ 9223372036854775807) => show Calls Try.prog 18 #[.slice A1 N c1, .slice A2 N c2] wx (fun e w' => e = .returned (.bool true) ∧ Below wx.heap.size wx w') by
        have := csame_any A1 A2 N c1 N c2 u u wx h1 hN h2 hN hNb hNb
        rw [decide_eq_true rfl] at this
        exact this)
      have hcmp : (P.toList == P.toList) = true := beq_self_eq_true _
      have HL := Lib.hid (fun wx (hb : Below w0.heap.size w0 wx) => hl.keeps hb)
      have HLN := Lib.hid (fun _ : Unit => And.intro hn hn5)
      have HGP := Lib.hid (show x = 0 → ∀ wx, Calls Try.prog 26 #[.string P] wx (CelsO wx (some l)) from fun h wx => by
        obtain ⟨h1, h2, h3⟩ := hx h
        have hsz := rgt_size h2
        rw [cels_length] at hsz
        have hbl := bytesC_length (cels l)
        rw [cels_length] at hbl
        have hps : P.size ≤ 300000000 := by rw [h1, tx_size, hbl]; omega
        have := kget_any P wx hps
        have e1 : getC P.toList = some (cels l) := by rw [h1, tx_list]; exact getC_iff.2 ⟨h2, h3, rfl⟩
        rw [e1, Option.map_some, unC_cels] at this
        exact this)
      have HX := Lib.hid hx
      have HUL := Lib.hid (show ∀ u, (getC s.toList).map unC = some u → u.length ≤ 65535 from fun u h => by
        cases hg : getC s.toList with
        | none => rw [hg] at h; cases h
        | some m =>
          rw [hg] at h
          obtain ⟨_, h2, _⟩ := getC_iff.1 hg
          injection h with h
          rw [← h]
          unfold unC
          rw [List.length_map]
          exact h2)
      obtain ⟨o, ho⟩ : ∃ o, (getC s.toList).map unC = o := ⟨_, rfl⟩
      rw [ho] at HG1 HG2 HUL
      clear hl hn hga hP hx hs ho hnb
      go_enter Try.func5, Try.ntmps5
      go_wp2_with fail
      refine (HGA.out w0 HB0.out).mono ?_
      rintro e w1 ⟨rfl, hb1⟩
      have HB1 := Lib.hid (HB0.out.trans (hb1.mono HB0.out.size))
      clear hb1
      go_wp2_with fail
      refine (HY1.out w1 HB1.out).mono ?_
      rintro e w2 ⟨rfl, hb2⟩
      have HB2 := Lib.hid (HB1.out.trans (hb2.mono HB1.out.size))
      clear hb2
      go_wp2_with fail
      refine (HY2.out w2 HB2.out).mono ?_
      rintro e w3 ⟨rfl, hb3⟩
      have HB3 := Lib.hid (HB2.out.trans (hb3.mono HB2.out.size))
      clear hb3
      cases o with
      | none =>
        go_wp2_with fail
        refine (HG1.out w3 HB3.out).mono ?_
        rintro e w4 ⟨rfl, hb4⟩
        have HB4 := Lib.hid (HB3.out.trans (hb4.mono HB3.out.size))
        clear hb4
        go_wp2_with fail
        refine (HG2.out w4 HB4.out).mono ?_
        rintro e w5 ⟨rfl, hb5⟩
        have HB5 := Lib.hid (HB4.out.trans (hb5.mono HB4.out.size))
        clear hb5
        have HS5 := Lib.hid (HCS.out none none 0 0 0 [] w5 Cels.nil Cels.nil rfl (by omega))
        go_wp2_with fail
        refine HS5.out.mono ?_
        rintro e w6 ⟨rfl, hb6⟩
        have HB6 := Lib.hid (HB5.out.trans (hb6.mono HB5.out.size))
        clear hb6 HS5
        by_cases hx0 : x = 0
        · have HGP6 := Lib.hid (HGP.out hx0 w6)
          clear HGP HX
          subst hx0
          obtain ⟨hln, hl5⟩ := HLN.out ()
          go_wp2_with fail
          refine HGP6.out.mono ?_
          rintro e w7 ⟨A7, c7, rfl, hc7, -, -, hb7⟩
          have HB7 := Lib.hid (HB6.out.trans (hb7.mono HB6.out.size))
          have HS7 := Lib.hid (HCS.out A7 A n c7 c l w7 hc7 (HL.out w7 HB7.out) hln (by omega))
          clear hb7 hc7 HGP6
          rw [hln]
          clear hln
          go_wp2_with fail
          refine HS7.out.mono ?_
          rintro e w8 ⟨rfl, hb8⟩
          have HB8 := Lib.hid (HB7.out.trans (hb8.mono HB7.out.size))
          clear hb8 HS7
          go_wp2_with fail
          refine (HH.out w8 HB8.out).mono ?_
          rintro e w9 ⟨rfl, hb9⟩
          have HB9 := Lib.hid (HB8.out.trans (hb9.mono HB8.out.size))
          clear hb9
          go_wp2_with fail
          go_ret
          exact ⟨rfl, HB9.out⟩
        · have hxb : (x == 0) = false := beq_eq_false_iff_ne.2 hx0
          clear HGP HX
          go_wp2_with fail
          refine (HH.out w6 HB6.out).mono ?_
          rintro e w7 ⟨rfl, hb7⟩
          have HB7 := Lib.hid (HB6.out.trans (hb7.mono HB6.out.size))
          clear hb7
          go_wp2_with fail
          go_ret
          exact ⟨rfl, HB7.out⟩
      | some u =>
        have hu := HUL.out u rfl
        obtain ⟨N, hN⟩ : ∃ N, u.length = N := ⟨_, rfl⟩
        rw [hN] at hu
        go_wp2_with fail
        refine (HG1.out w3 HB3.out).mono ?_
        rintro e w4 ⟨A4, c4, rfl, hc4, -, -, hb4⟩
        have HB4 := Lib.hid (HB3.out.trans (hb4.mono HB3.out.size))
        have HC4 := Lib.hid hc4
        clear hb4 hc4
        rw [hN]
        go_wp2_with fail
        refine (HG2.out w4 HB4.out).mono ?_
        rintro e w5 ⟨A5, c5, rfl, hc5, -, -, hb5⟩
        have HB5 := Lib.hid (HB4.out.trans (hb5.mono HB4.out.size))
        have HS5 := Lib.hid (HCS.out A4 A5 N c4 c5 u w5 (HC4.out.keeps hb5) hc5 hN (by omega))
        clear hb5 hc5 HC4
        rw [hN]
        clear hN
        go_wp2_with fail
        refine HS5.out.mono ?_
        rintro e w6 ⟨rfl, hb6⟩
        have HB6 := Lib.hid (HB5.out.trans (hb6.mono HB5.out.size))
        clear hb6 HS5
        by_cases hx0 : x = 0
        · have HGP6 := Lib.hid (HGP.out hx0 w6)
          clear HGP HX
          subst hx0
          obtain ⟨hln, hl5⟩ := HLN.out ()
          go_wp2_with fail
          refine HGP6.out.mono ?_
          rintro e w7 ⟨A7, c7, rfl, hc7, -, -, hb7⟩
          have HB7 := Lib.hid (HB6.out.trans (hb7.mono HB6.out.size))
          have HS7 := Lib.hid (HCS.out A7 A n c7 c l w7 hc7 (HL.out w7 HB7.out) hln (by omega))
          clear hb7 hc7 HGP6
          rw [hln]
          clear hln
          go_wp2_with fail
          refine HS7.out.mono ?_
          rintro e w8 ⟨rfl, hb8⟩
          have HB8 := Lib.hid (HB7.out.trans (hb8.mono HB7.out.size))
          clear hb8 HS7
          go_wp2_with fail
          refine (HH.out w8 HB8.out).mono ?_
          rintro e w9 ⟨rfl, hb9⟩
          have HB9 := Lib.hid (HB8.out.trans (hb9.mono HB8.out.size))
          clear hb9
          go_wp2_with fail
          go_ret
          exact ⟨rfl, HB9.out⟩
        · have hxb : (x == 0) = false := beq_eq_false_iff_ne.2 hx0
          clear HGP HX
          go_wp2_with fail
          refine (HH.out w6 HB6.out).mono ?_
          rintro e w7 ⟨rfl, hb7⟩
          have HB7 := Lib.hid (HB6.out.trans (hb7.mono HB6.out.size))
          clear hb7
          go_wp2_with fail
          go_ret
          exact ⟨rfl, HB7.out⟩
end Go.Proofs.Ytbganaaiaokfmaa
