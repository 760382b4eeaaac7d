/-
  A master that is none: what it answers; the statement MasterNone walked.
-/
import Derived.Test.YtnmfgmlmjbfdcaaMasHead
namespace Go.Proofs.Ytnmfgmlmjbfdcaa
open Go.RowKit

/-- No master: nil, or one that Open has not made. -/
def NoMas (w : World) (v : Value) : Prop := v = .pointer none ∨ ∃ A, v = .pointer (some ⟨A, 0, none⟩) ∧ w.cell? ⟨A, 0, none⟩ = some (.pointer none)
set_option maxRecDepth 100000 in
theorem nm_isNone {w : World} {v : Value} (h : NoMas w v) : Calls Try.prog 46 #[v] w fun e w' => e = .returned (.bool true) ∧ w = w' := by
  rcases h with rfl | ⟨A, rfl, hc⟩
  · go_enter Try.func46, Try.ntmps46
    go_wp2
    go_ret
    exact ⟨rfl, rfl⟩
  · go_enter Try.func46, Try.ntmps46
    go_wp2
    go_ret
    exact ⟨rfl, rfl⟩
set_option maxRecDepth 100000 in
theorem nm_Put (s : ByteArray) {w : World} {v : Value} (h : NoMas w v) : Calls Try.prog 30 #[v, .string s] w fun e w' => e = .returned (.int .i64 1) ∧ w = w' := by
  have HN := Lib.hid (nm_isNone h)
  clear h
  go_enter Try.func30, Try.ntmps30
  go_wp2_with fail
  refine HN.out.mono ?_
  rintro e w1 ⟨rfl, rfl⟩
  go_wp2
  go_ret
  exact ⟨rfl, rfl⟩
set_option maxRecDepth 100000 in
theorem nm_Sync {w : World} {v : Value} (h : NoMas w v) : Calls Try.prog 24 #[v] w fun e w' => e = .returned (.int .i64 1) ∧ w = w' := by
  have HN := Lib.hid (nm_isNone h)
  clear h
  go_enter Try.func24, Try.ntmps24
  go_wp2_with fail
  refine HN.out.mono ?_
  rintro e w1 ⟨rfl, rfl⟩
  go_wp2
  go_ret
  exact ⟨rfl, rfl⟩
set_option maxRecDepth 100000 in
theorem nm_Data {w : World} {v : Value} (h : NoMas w v) : Calls Try.prog 20 #[v] w fun e w' => e = .returned (.string ⟨#[]⟩) ∧ w = w' := by
  have HN := Lib.hid (nm_isNone h)
  clear h
  go_enter Try.func20, Try.ntmps20
  go_wp2_with fail
  refine HN.out.mono ?_
  rintro e w1 ⟨rfl, rfl⟩
  go_wp2
  go_ret
  exact ⟨rfl, rfl⟩
set_option maxRecDepth 100000 in
theorem nm_Version {w : World} {v : Value} (h : NoMas w v) : Calls Try.prog 21 #[v] w fun e w' => e = .returned (.int .u64 0) ∧ w = w' := by
  have HN := Lib.hid (nm_isNone h)
  clear h
  go_enter Try.func21, Try.ntmps21
  go_wp2_with fail
  refine HN.out.mono ?_
  rintro e w1 ⟨rfl, rfl⟩
  go_wp2
  go_ret
  exact ⟨rfl, rfl⟩
set_option maxRecDepth 100000 in
theorem nm_Busy {w : World} {v : Value} (h : NoMas w v) : Calls Try.prog 22 #[v] w fun e w' => e = .returned (.bool false) ∧ w = w' := by
  have HN := Lib.hid (nm_isNone h)
  clear h
  go_enter Try.func22, Try.ntmps22
  go_wp2_with fail
  refine HN.out.mono ?_
  rintro e w1 ⟨rfl, rfl⟩
  go_wp2
  go_ret
  exact ⟨rfl, rfl⟩

set_option maxRecDepth 100000 in
set_option maxHeartbeats 4000000 in
theorem none_law (s : ByteArray) (w : World) : Calls Try.prog 7 #[.string s] w fun e w' => e = .returned (.bool true) ∧ Below w.heap.size w w' := by
  have HO := Lib.hid (mopen_none w)
  have HN := Lib.hid (fun wx => show Calls Try.prog 16 #[.int .i64 1, .int .i64 1] wx _ from new_good 1 1 wx (by decide) (by decide))
  have HH := Lib.hid (fun wx => head_any wx)
  go_enter Try.func7, Try.ntmps7
  go_wp2_with fail
  refine HO.out.mono ?_
  rintro e w1 ⟨rfl, hb1⟩
  have HB1 := Lib.hid hb1
  clear hb1 HO
  go_wp2_with fail
  refine (HN.out w1).mono ?_
  intro e w2 hn
  obtain ⟨d, rfl, hs, hx⟩ := since_new hn
  have HD := Lib.hid (mopen_one d w2 hs.dev hx.1)
  have HB2 := Lib.hid (HB1.out.trans (hs.below.mono HB1.out.size))
  clear hn hs hx HN
  unfold DV.ptr at HD ⊢
  go_wp2_with fail
  refine HD.out.mono ?_
  rintro e w3 ⟨rfl, hb3⟩
  have HB3 := Lib.hid (HB2.out.trans (hb3.mono HB2.out.size))
  clear hb3 HD HB2
  have hR0 := Row.new w3 76 [.pointer none, .int .i64 0, .int .u64 0, .string ⟨#[]⟩, .int .i64 0, .int .u64 0, .string ⟨#[]⟩] (0, 0)
  rw [show ([.pointer none, .int .i64 0, .int .u64 0, .string ⟨#[]⟩, .int .i64 0, .int .u64 0, .string ⟨#[]⟩] : List Value).toArray = #[.pointer none, .int .i64 0, .int .u64 0, .string ⟨#[]⟩, .int .i64 0, .int .u64 0, .string ⟨#[]⟩] from rfl] at hR0
  go_wp2_with fail
  have hb5 := HB3.out.alloc HB3.out.size (.cells #[.pointer none, .int .i64 0, .int .u64 0, .string ⟨#[]⟩, .int .i64 0, .int .u64 0, .string ⟨#[]⟩] 76)
  have hR1 := hR0.alloc (.cells #[.pointer none, .pointer (some ⟨w3.heap.size, 0, none⟩)] 44)
  have hS := Row.new (w3.alloc (.cells #[.pointer none, .int .i64 0, .int .u64 0, .string ⟨#[]⟩, .int .i64 0, .int .u64 0, .string ⟨#[]⟩] 76)) 44 [.pointer none, .pointer (some ⟨w3.heap.size, 0, none⟩)] (0, 0)
  have hb6 := hb5.alloc hb5.size (.cells #[.pointer none, .pointer (some ⟨w3.heap.size, 0, none⟩)] 44)
  rw [World.size_alloc, show ([.pointer none, .pointer (some ⟨w3.heap.size, 0, none⟩)] : List Value).toArray = #[.pointer none, .pointer (some ⟨w3.heap.size, 0, none⟩)] from rfl] at hS
  obtain ⟨w5, hw5⟩ : ∃ w5, (w3.alloc (.cells #[.pointer none, .int .i64 0, .int .u64 0, .string ⟨#[]⟩, .int .i64 0, .int .u64 0, .string ⟨#[]⟩] 76)).alloc (.cells #[.pointer none, .pointer (some ⟨w3.heap.size, 0, none⟩)] 44) = w5 := ⟨_, rfl⟩
  rw [hw5] at hb6 hR1 hS
  rw [hw5]
  obtain ⟨G, hG⟩ : ∃ G, w3.heap.size = G := ⟨_, rfl⟩
  rw [hG] at hR1 hS
  rw [hG]
  have HB6 := Lib.hid hb6
  have HR1 := Lib.hid hR1
  have HS := Lib.hid hS
  clear hb5 hb6 hR0 hR1 hS hw5 hG HB3
  go_loopw [11] (fun i wr => ∃ k : Nat, k ≤ 2 ∧ i = .int .i64 k ∧ wr = w5) (fun i _ => 2 - (intOf i).toNat)
  case atStart => exact ⟨0, by decide, rfl, rfl⟩
  case round =>
    obtain ⟨k, hk, rfl, rfl⟩ := hrel
    have c0 : wr.cell? ⟨G + 1, 0, none⟩ = some (.pointer none) := HS.out.cell 0
    have c1 : wr.cell? ⟨G + 1, 1, none⟩ = some (.pointer (some ⟨G, 0, none⟩)) := HS.out.cell 1
    have hz : wr.cell? ⟨G, 0, none⟩ = some (.pointer none) := HR1.out.cell 0
    have HZ := Lib.hid hz
    clear hz
    rcases (show k = 0 ∨ k = 1 ∨ k = 2 by omega) with rfl | rfl | rfl
    · go_wp2_with fail
      refine (nm_Put s (w := wr) (.inl rfl)).mono ?_
      rintro e w6 ⟨rfl, rfl⟩
      go_wp2_with fail
      refine (nm_Sync (w := wr) (.inl rfl)).mono ?_
      rintro e w6 ⟨rfl, rfl⟩
      go_wp2_with fail
      refine (nm_Data (w := wr) (.inl rfl)).mono ?_
      rintro e w6 ⟨rfl, rfl⟩
      go_wp2_with fail
      refine (nm_Version (w := wr) (.inl rfl)).mono ?_
      rintro e w6 ⟨rfl, rfl⟩
      go_wp2_with fail
      refine (nm_Busy (w := wr) (.inl rfl)).mono ?_
      rintro e w6 ⟨rfl, rfl⟩
      go_wp2_with fail
      go_roundw
      case rel => exact ⟨1, by decide, by go_num, trivial⟩
      case measure => simp [intOf]
    · go_wp2_with fail
      refine (nm_Put s (w := wr) (.inr ⟨G, rfl, HZ.out⟩)).mono ?_
      rintro e w6 ⟨rfl, rfl⟩
      go_wp2_with fail
      refine (nm_Sync (w := wr) (.inr ⟨G, rfl, HZ.out⟩)).mono ?_
      rintro e w6 ⟨rfl, rfl⟩
      go_wp2_with fail
      refine (nm_Data (w := wr) (.inr ⟨G, rfl, HZ.out⟩)).mono ?_
      rintro e w6 ⟨rfl, rfl⟩
      go_wp2_with fail
      refine (nm_Version (w := wr) (.inr ⟨G, rfl, HZ.out⟩)).mono ?_
      rintro e w6 ⟨rfl, rfl⟩
      go_wp2_with fail
      refine (nm_Busy (w := wr) (.inr ⟨G, rfl, HZ.out⟩)).mono ?_
      rintro e w6 ⟨rfl, rfl⟩
      go_wp2_with fail
      go_roundw
      case rel => exact ⟨2, by decide, by go_num, trivial⟩
      case measure => simp [intOf]
    · go_wp2_with fail
      refine (HH.out wr).mono ?_
      rintro e w6 ⟨rfl, hb6⟩
      have HE := Lib.hid (HB6.out.trans (hb6.mono HB6.out.size))
      clear hb6
      go_wp2
      go_ret
      exact ⟨rfl, HE.out⟩
end Go.Proofs.Ytnmfgmlmjbfdcaa
