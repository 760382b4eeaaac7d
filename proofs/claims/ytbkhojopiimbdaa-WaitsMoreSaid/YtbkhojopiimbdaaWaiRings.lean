/-
  WaitsRings: Ring tells the document's ring.
-/
import Derived.Test.YtbkhojopiimbdaaWaiLaw
namespace Go.Proofs.Ytbkhojopiimbdaa
open Go.RowKit

set_option maxRecDepth 100000 in
set_option maxHeartbeats 2000000 in
theorem rings_any (C : RingC) (l : List Edge) (A : Option Addr) (c tx : Nat) (w : World) (h : Lie w A (ev l)) (hc : l.length ≤ c) (hcm : c ≤ 9223372036854775807) (hA : A = none → c = 0) (ht : tx < 18446744073709551616)
    (he : ∀ e ∈ l, e.1 < 18446744073709551616 ∧ e.2 < 18446744073709551616) :
    Calls Try.prog 3 #[.slice A l.length c, .int .u64 (tx : Int)] w fun e w' => e = .returned (.bool true) ∧ Below w.heap.size w w' := by
  have HD := Lib.hid (fun wx (hk : Keep w wx) => (head_any C wx).mono fun e w' (h : e = .returned (.bool true) ∧ Below wx.heap.size wx w') => (⟨h.1, hk.then h.2⟩ : e = .returned (.bool true) ∧ Below w.heap.size w w'))
  by_cases hn : l.length ≤ 60
  · have hI : ¬ (60 : Int) < (l.length : Int) := by omega
    have HC := Lib.hid (C l A c tx w h hc hcm hA (by omega) ht he)
    have HR := Lib.hid (fun wx (hk : Keep w wx) => wring_any l A c tx wx (h.keep hk) hc (by omega))
    clear C h hcm hA ht he
    go_enter Try.func3, Try.ntmps3
    go_wp2_with fail
    refine HC.out.mono ?_
    rintro e w1 ⟨A1, n1, c1, r1, rfl, rfl, h1, _, hl1, hr1, hb1⟩
    have HL1 := Lib.hid hl1
    have HR1 := Lib.hid hr1
    have HB1 := Lib.hid (show Keep w w1 from hb1)
    clear hl1 hr1 hb1 HC h1
    go_wp2_with fail
    refine (HR.out w1 HB1.out).mono ?_
    rintro e w2 ⟨A2, n2, c2, r2, rfl, rfl, h2, _, hl2, hr2, hb2⟩
    obtain rfl := HR1.out.uniq hr2
    have hlen : r1.length ≤ 1000000 := by
      rcases hr2 with ⟨h0, _⟩ | ⟨s, hs, hle⟩
      · rw [h0]; exact Nat.zero_le _
      · have := nodup_le (a := r1) (b := l.map (·.1)) (by rw [hs]; exact hle.nodup) fun x hx => by
          obtain ⟨i, hi, rfl⟩ := List.getElem_of_mem hx
          exact List.mem_map.2 ⟨_, HR1.out.edges i hi, rfl⟩
        rw [List.length_map] at this
        omega
    have HS := Lib.hid (sameIds_yes r1 A1 A2 c1 c2 w2 (HL1.out.keeps hb2) hl2 hlen)
    have HB2 := Lib.hid (HB1.out.then hb2)
    clear hl2 hr2 hb2 HR HL1 HB1 h2 HR1 hlen
    go_wp2_with fail
    refine HS.out.mono ?_
    rintro e w3 ⟨rfl, hb3⟩
    have HD := Lib.hid (HD.out w3 (HB2.out.then hb3))
    clear hb3 HB2 HS
    go_wp2_with fail
    refine HD.out.mono ?_
    rintro e w4 ⟨rfl, hb4⟩
    have HF := Lib.hid hb4
    clear hb4 HD
    go_wp2
    try go_ret
    exact ⟨rfl, HF.out⟩
  · have hI : (60 : Int) < (l.length : Int) := by omega
    have HD := Lib.hid (HD.out w (Keep.refl w))
    clear C h
    go_enter Try.func3, Try.ntmps3
    go_wp2_with fail
    refine HD.out.mono ?_
    rintro e w1 ⟨rfl, hb1⟩
    have HF := Lib.hid hb1
    clear hb1 HD
    go_wp2
    try go_ret
    exact ⟨rfl, HF.out⟩
end Go.Proofs.Ytbkhojopiimbdaa
