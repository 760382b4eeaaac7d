/-
  The walk over the statement RecordLong.
-/
import Derived.Test.YtlhcacancnmhcaaDoorRecCut
namespace Go.Proofs.YtlhcacancnmhcaaDoor
open Go.RowKit

theorem Recs.put {w : World} {A : Option Addr} {l : List Rec} (h : Recs w A l) (g i : Nat) (u : Value) (hne : ∀ ad, A = some ad → ad.block ≠ g) : Recs (w.setCell ⟨g, i, none⟩ u) A l := ⟨fun j hj => by
  obtain ⟨k, off, rfl, hk, h1, h2⟩ := h.at_ j hj
  have hkg : k ≠ g := hne _ rfl
  have hc : ∀ p : Addr, p.block = k → (w.setCell ⟨g, i, none⟩ u).cell? p = w.cell? p := fun p hp => by
    have := Below.heap_setCell w ⟨g, i, none⟩ u p.block (by rw [hp]; exact hkg)
    unfold World.cell?
    rw [this]
  exact ⟨k, off, rfl, by simpa [World.setCell] using hk, by rw [hc _ rfl]; exact h1, by rw [hc _ rfl]; exact h2⟩⟩

theorem row_recs {w : World} {g : Nat} {T : TypeId} {m : Nat × Nat} {l : List Rec} (h : Row w g T (recs l) m) : Recs w (some ⟨g, 0, none⟩) l := ⟨fun i hi =>
  ⟨g, 0, rfl, h.lt, by rw [h.cell, Nat.zero_add]; exact (recs_at l i hi).1, by rw [h.cell, Nat.zero_add]; exact (recs_at l i hi).2⟩⟩

def Z0 : Rec := ⟨0, []⟩
theorem make_recs (w : World) : (Instr.makeSlice 22 (.int .i64 3) (.int .i64 3)).run Tryd.prog w = .ok (.slice (some ⟨w.heap.size, 0, none⟩) 3 3) (w.alloc (.cells (recs [Z0, Z0, Z0]).toArray 36)) := by
  obtain ⟨i0, hi0, hz0, hz1, hz2⟩ := info_parts Tryd.infoRec
  have h := run_make (P := Tryd.prog) w 22 36 i0 _ Tryd.underlying22 hi0 hz0 .i64 .i64 3 3 (by omega) (by omega) (by rw [hz2]; omega) (by omega)
  have e : madeCells (Value.agg #[.int .u8 0, .string ⟨#[]⟩]).cells (Int.toNat 3 * 2) = (recs [Z0, Z0, Z0]).toArray := by kernel_rfl
  rw [h, hz1, e]
  rfl

/-- So many zeros, the made block hidden. -/
theorem make_long (n : Nat) (hn : n ≤ 1000000) (i : Int) (hi : i = (n : Int)) : ∃ (O : Obj) (D : List UInt8), D.length = n ∧ (∀ w : World, (Instr.makeSlice 47 (.int .i64 i) (.int .i64 i)).run Tryd.prog w = .ok (.slice (some ⟨w.heap.size, 0, none⟩) n n) (w.alloc O)) ∧
    ∀ w : World, (convert 47 9 (.slice (some ⟨w.heap.size, 0, none⟩) n n)).run Tryd.prog (w.alloc O) = .ok (.string (tb D)) (w.alloc O) :=
  ⟨.cells (byt (List.replicate n 0)).toArray 5, List.replicate n 0, by simp, fun w => make_bytes n (by omega) i hi w, fun w => text_n _ _ n n _ (by simp) (row_reads (Row.new w 5 _ (0, 0)))⟩

theorem fit_three {l : List Rec} (h : ∀ r ∈ l, r.d.length ≤ 262144) : Fit l := h

set_option maxRecDepth 100000 in
set_option maxHeartbeats 2000000 in
theorem long_0 (kd : UInt8) (a : Nat) (w : World) (hT : Tab w) (ha : a % 3 = 0) (ha2 : a < 256) :
    Calls Tryd.prog 7 #[.int .u8 (kd.toNat : Int), .int .u8 (a : Int)] w fun e w' => e = .returned (.bool true) ∧ Below w.heap.size w w' := by
  have HH := Lib.hid (fun wx (hbx : Below w.heap.size w wx) => show Calls Tryd.prog 9 #[] wx fun e w' => e = .returned (.bool true) ∧ Below w.heap.size w w' from (head_any wx (hT.keeps hbx)).mono fun _ _ ⟨h1, h2⟩ => ⟨h1, hbx.trans (h2.mono hbx.size)⟩)
  obtain ⟨N, hN⟩ : ∃ N, N = 262144 := ⟨_, rfl⟩
  obtain ⟨O, D, hD, hmk, hcv⟩ := make_long N (by omega) 262144 (by omega)
  have HT := Lib.hid hT
  have hak : (a : Int) % 3 = 0 := by omega
  have hmr := make_recs w
  have HCV := Lib.hid hcv
  have hsaneL : Sane [⟨kd, D⟩, Z0, Z0] := fun r hr => by
    simp only [List.mem_cons, List.not_mem_nil, or_false] at hr
    rcases hr with rfl | rfl | rfl <;> first | exact Nat.zero_le _ | (show D.length ≤ 1000000; omega)
  have hfitL : Fit [⟨kd, D⟩, Z0, Z0] := fun r hr => by
    simp only [List.mem_cons, List.not_mem_nil, or_false] at hr
    rcases hr with rfl | rfl | rfl <;> first | exact Nat.zero_le _ | (show D.length ≤ 262144; omega)
  have hsaneM : Sane [⟨kd, D ++ [120]⟩, Z0, Z0] := fun r hr => by
    simp only [List.mem_cons, List.not_mem_nil, or_false] at hr
    rcases hr with rfl | rfl | rfl <;> first | exact Nat.zero_le _ | (show (D ++ [120]).length ≤ 1000000; rw [List.length_append]; show D.length + 1 ≤ _; omega)
  have hfitM : ¬ Fit [⟨kd, D ++ [120]⟩, Z0, Z0] := fun hf => by
    have : (D ++ [120]).length ≤ 262144 := hf ⟨kd, D ++ [120]⟩ (by simp)
    rw [List.length_append] at this
    have h1 : ([120] : List UInt8).length = 1 := rfl
    omega
  have hall : (allR [⟨kd, D⟩, Z0, Z0]).length ≤ 1000000 := by
    simp only [allR_cons, allR_nil, List.length_append, List.length_nil, one_length]
    show _ ≤ 1000000
    simp only [Z0, List.length_nil]
    omega
  have hsc : scan (allR [⟨kd, D⟩, Z0, Z0]) = ([⟨kd, D⟩, Z0, Z0], (allR [⟨kd, D⟩, Z0, Z0]).length, 0) := by
    have := scan_all [⟨kd, D⟩, Z0, Z0] hfitL []
    rw [List.append_nil, scan_nil] at this
    simpa using this
  have HP1 := Lib.hid (fun wx (hbx : Below w.heap.size w wx) (hr : Recs wx (some ⟨w.heap.size, 0, none⟩) [⟨kd, D⟩, Z0, Z0]) => show Calls Tryd.prog 10 #[.slice (some ⟨w.heap.size, 0, none⟩) 3 3] wx fun e w' => e = .returned (.tuple #[.string (tb (allR [⟨kd, D⟩, Z0, Z0])), .int .i64 0]) ∧ Below wx.heap.size wx w' from
    (put_any (some ⟨w.heap.size, 0, none⟩) [⟨kd, D⟩, Z0, Z0] 3 wx (hT.keeps hbx) hr (by simp) hsaneL).mono fun _ _ ⟨h1, h2⟩ => ⟨by rw [h1, if_pos hfitL, if_pos hfitL], h2⟩)
  have HP2 := Lib.hid (fun wx (hbx : Below w.heap.size w wx) (hr : Recs wx (some ⟨w.heap.size, 0, none⟩) [⟨kd, D ++ [120]⟩, Z0, Z0]) => show Calls Tryd.prog 10 #[.slice (some ⟨w.heap.size, 0, none⟩) 3 3] wx fun e w' => e = .returned (.tuple #[.string ⟨#[]⟩, .int .i64 3]) ∧ Below wx.heap.size wx w' from
    (put_any (some ⟨w.heap.size, 0, none⟩) [⟨kd, D ++ [120]⟩, Z0, Z0] 3 wx (hT.keeps hbx) hr (by simp) hsaneM).mono fun _ _ ⟨h1, h2⟩ => ⟨by rw [h1, if_neg hfitM, if_neg hfitM], h2⟩)
  have HSC := Lib.hid (fun wx (hbx : Below w.heap.size w wx) => show Calls Tryd.prog 12 #[.string (tb (allR [⟨kd, D⟩, Z0, Z0]))] wx fun e w' => ∃ A c, e = .returned (.tuple #[.slice A 3 c, .int .i64 ((allR [⟨kd, D⟩, Z0, Z0]).length : Int), .int .u8 0]) ∧ Recs w' A [⟨kd, D⟩, Z0, Z0] ∧ Below wx.heap.size wx w' ∧ ∀ ad, A = some ad → wx.heap.size ≤ ad.block from by
    have := scan_new (allR [⟨kd, D⟩, Z0, Z0]) wx (hT.keeps hbx) hall
    rw [hsc] at this
    exact this.mono fun _ _ ⟨A, c, h1, _, _, h4, h5, h6⟩ => ⟨A, c, h1, h4, h5, h6⟩)
  have HSM := Lib.hid (fun wx A9 c9 (h1 : Recs wx A9 [⟨kd, D⟩, Z0, Z0]) (h2 : Recs wx (some ⟨w.heap.size, 0, none⟩) [⟨kd, D⟩, Z0, Z0]) => show Calls Tryd.prog 14 #[.slice A9 3 c9, .slice (some ⟨w.heap.size, 0, none⟩) 3 3] wx fun e w' => e = .returned (.bool true) ∧ Below wx.heap.size wx w' from by
    have := rsame_any A9 (some ⟨w.heap.size, 0, none⟩) [⟨kd, D⟩, Z0, Z0] [⟨kd, D⟩, Z0, Z0] c9 3 wx h1 h2 (by simp)
    rw [decide_eq_true rfl] at this
    exact this)
  have zD : (tb D).size = N := by rw [tb_size, hD]
  have zX : (tb (D ++ [120])).size = N + 1 := by rw [tb_size, List.length_append, hD]; rfl
  have zS : (tb (allR [⟨kd, D⟩, Z0, Z0])).size = (allR [⟨kd, D⟩, Z0, Z0]).length := tb_size _
  have hX1 : tb D ++ ⟨#[120]⟩ = tb (D ++ [120]) := tb_app D [120]
  have hX2 : (tb (D ++ [120])).extract 0 262144 = tb D := by
    rw [tb_cut, List.drop_zero]
    congr 1
    have : (262144 : Nat) = D.length := by omega
    rw [this, List.take_left]
  have q1 : ¬ 9223372036854775807 < N + 1 := by omega
  have q2 : (262144 : Int) ≤ (N : Int) + 1 := by omega
  have q3 : 262144 ≤ N + 1 := by omega
  have hRC : recs [⟨kd, D⟩, Z0, Z0] = [.int .u8 (kd.toNat : Int), .string (tb D), .int .u8 0, .string ⟨#[]⟩, .int .u8 0, .string ⟨#[]⟩] := rfl
  have hRM : recs [⟨kd, D ++ [120]⟩, Z0, Z0] = [.int .u8 (kd.toNat : Int), .string (tb (D ++ [120])), .int .u8 0, .string ⟨#[]⟩, .int .u8 0, .string ⟨#[]⟩] := rfl
  have HRC := Lib.hid (fun (wx : World) (hr : Row wx w.heap.size 36 [.int .u8 (kd.toNat : Int), .string (tb D), .int .u8 0, .string ⟨#[]⟩, .int .u8 0, .string ⟨#[]⟩] (0, 0)) => show Recs wx (some ⟨w.heap.size, 0, none⟩) [⟨kd, D⟩, Z0, Z0] from row_recs (by rw [hRC]; exact hr))
  have HRM := Lib.hid (fun (wx : World) (hr : Row wx w.heap.size 36 [.int .u8 (kd.toNat : Int), .string (tb (D ++ [120])), .int .u8 0, .string ⟨#[]⟩, .int .u8 0, .string ⟨#[]⟩] (0, 0)) => show Recs wx (some ⟨w.heap.size, 0, none⟩) [⟨kd, D ++ [120]⟩, Z0, Z0] from row_recs (by rw [hRM]; exact hr))
  have hR0 : (recs [Z0, Z0, Z0]).toArray = #[.int .u8 0, .string ⟨#[]⟩, .int .u8 0, .string ⟨#[]⟩, .int .u8 0, .string ⟨#[]⟩] := rfl
  rw [hR0] at hmr
  generalize kd.toNat = q at *
  generalize tb (D ++ [120]) = Xs at *
  generalize tb D = Zs at *
  generalize hQ : allR [⟨kd, D⟩, Z0, Z0] = Q at *
  generalize tb Q = S at *
  generalize Q.length = sn at *
  clear hT ha hQ hsaneL hsaneM hfitL hfitM hall hsc hD hN hRC hRM hR0 hcv
  obtain ⟨o1, ho1⟩ : ∃ o1, w.alloc (.cells #[.int .u8 0, .string ⟨#[]⟩, .int .u8 0, .string ⟨#[]⟩, .int .u8 0, .string ⟨#[]⟩] 36) = o1 := ⟨_, rfl⟩
  rw [ho1] at hmr
  have hb1 : Below w.heap.size w o1 := ho1 ▸ (Below.refl _ _).alloc (Nat.le_refl _) _
  have hr1 : Row o1 w.heap.size 36 [.int .u8 0, .string ⟨#[]⟩, .int .u8 0, .string ⟨#[]⟩, .int .u8 0, .string ⟨#[]⟩] (0, 0) := ho1 ▸ Row.new w 36 [.int .u8 0, .string ⟨#[]⟩, .int .u8 0, .string ⟨#[]⟩, .int .u8 0, .string ⟨#[]⟩] (0, 0)
  obtain ⟨o2, ho2⟩ : ∃ o2, o1.alloc O = o2 := ⟨_, rfl⟩
  have hct : (convert 47 9 (.slice (some ⟨o1.heap.size, 0, none⟩) N N)).run Tryd.prog o2 = .ok (.string Zs) o2 := ho2 ▸ HCV.out o1
  have hm1 := hmk o1
  rw [ho2] at hm1
  have hb2 : Below w.heap.size w o2 := ho2 ▸ hb1.alloc hb1.size O
  have hr2 : Row o2 w.heap.size 36 [.int .u8 0, .string ⟨#[]⟩, .int .u8 0, .string ⟨#[]⟩, .int .u8 0, .string ⟨#[]⟩] (0, 0) := ho2 ▸ hr1.alloc O
  have d0 : o2.cell? ⟨w.heap.size, 0, none⟩ = some (.int .u8 0) := by rw [hr2.cell]; rfl
  have d1 : o2.cell? ⟨w.heap.size, 1, none⟩ = some (.string ⟨#[]⟩) := by rw [hr2.cell]; rfl
  have f0 : o2.frozen? ⟨w.heap.size, 0, none⟩ = false := hr2.loose 0
  have f1 : o2.frozen? ⟨w.heap.size, 1, none⟩ = false := hr2.loose 1
  have hr3 : Row ((o2.setCell ⟨w.heap.size, 0, none⟩ (.int .u8 (q : Int))).setCell ⟨w.heap.size, 1, none⟩ (.string Zs)) w.heap.size 36 [.int .u8 (q : Int), .string Zs, .int .u8 0, .string ⟨#[]⟩, .int .u8 0, .string ⟨#[]⟩] (0, 0) := (hr2.put 0 _).put 1 _
  have hb3 : Below w.heap.size w ((o2.setCell ⟨w.heap.size, 0, none⟩ (.int .u8 (q : Int))).setCell ⟨w.heap.size, 1, none⟩ (.string Zs)) := (hb2.setCell (Nat.le_refl _) _).setCell (Nat.le_refl _) _
  have HR3 := Lib.hid hr3
  have HB3 := Lib.hid hb3
  clear hr1 hr2 hb1 hb2 hr3 hb3 hmk ho1 ho2
  go_enter Tryd.func7, Tryd.ntmps7
  go_wp2_with fail
  refine (HP1.out _ HB3.out (HRC.out _ HR3.out)).mono ?_
  rintro e w4 ⟨rfl, hb4⟩
  have HB4 := Lib.hid (HB3.out.trans (hb4.mono HB3.out.size))
  have HR4 := Lib.hid (HR3.out.below hb4 HR3.out.lt)
  clear hb4 d0 d1 f0 f1 hmr hct hm1 HR3 HB3 HP1
  go_wp2_with fail
  refine (HSC.out w4 HB4.out).mono ?_
  rintro e w5 ⟨A5, c5, rfl, hr5, hb5, hf5⟩
  have HB5 := Lib.hid (HB4.out.trans (hb5.mono HB4.out.size))
  have HR5 := Lib.hid (HR4.out.below hb5 HR4.out.lt)
  have hne : ∀ ad, A5 = some ad → ad.block ≠ w.heap.size := fun ad hh => by have := hf5 ad hh; have := HR4.out.lt; omega
  have HNE := Lib.hid hne
  have HG5 := Lib.hid hr5
  have d0 : w5.cell? ⟨w.heap.size, 0, none⟩ = some (.int .u8 (q : Int)) := by rw [HR5.out.cell]; rfl
  have d1 : w5.cell? ⟨w.heap.size, 1, none⟩ = some (.string Zs) := by rw [HR5.out.cell]; rfl
  have f1 : w5.frozen? ⟨w.heap.size, 1, none⟩ = false := HR5.out.loose 1
  have hr6 : Row (w5.setCell ⟨w.heap.size, 1, none⟩ (.string Xs)) w.heap.size 36 [.int .u8 (q : Int), .string Xs, .int .u8 0, .string ⟨#[]⟩, .int .u8 0, .string ⟨#[]⟩] (0, 0) := HR5.out.put 1 _
  have HR6 := Lib.hid hr6
  have HB6 := Lib.hid (show Below w.heap.size w (w5.setCell ⟨w.heap.size, 1, none⟩ (.string Xs)) from HB5.out.setCell (Nat.le_refl _) _)
  have HG6 := Lib.hid (show Recs (w5.setCell ⟨w.heap.size, 1, none⟩ (.string Xs)) A5 [⟨kd, D⟩, Z0, Z0] from HG5.out.put _ _ _ HNE.out)
  clear hr5 hb5 hf5 hne hr6 HSC
  go_wp2_with fail
  refine (HP2.out _ HB6.out (HRM.out _ HR6.out)).mono ?_
  rintro e w7 ⟨rfl, hb7⟩
  have HB7 := Lib.hid (HB6.out.trans (hb7.mono HB6.out.size))
  have HR7 := Lib.hid (HR6.out.below hb7 HR6.out.lt)
  have HG7 := Lib.hid (HG6.out.keeps hb7)
  clear hb7 d0 d1 f1 HP2 HR6 HB6 HG6
  have d1 : w7.cell? ⟨w.heap.size, 1, none⟩ = some (.string Xs) := by rw [HR7.out.cell]; rfl
  have f1 : w7.frozen? ⟨w.heap.size, 1, none⟩ = false := HR7.out.loose 1
  have HR8 := Lib.hid (show Row (w7.setCell ⟨w.heap.size, 1, none⟩ (.string Zs)) w.heap.size 36 [.int .u8 (q : Int), .string Zs, .int .u8 0, .string ⟨#[]⟩, .int .u8 0, .string ⟨#[]⟩] (0, 0) from HR7.out.put 1 _)
  have HB8 := Lib.hid (show Below w.heap.size w (w7.setCell ⟨w.heap.size, 1, none⟩ (.string Zs)) from HB7.out.setCell (Nat.le_refl _) _)
  have HG8 := Lib.hid (show Recs (w7.setCell ⟨w.heap.size, 1, none⟩ (.string Zs)) A5 [⟨kd, D⟩, Z0, Z0] from HG7.out.put _ _ _ HNE.out)
  go_wp2_with fail
  refine (HSM.out _ A5 c5 HG8.out (HRC.out _ HR8.out)).mono ?_
  rintro e w9 ⟨rfl, hb9⟩
  have HB9 := Lib.hid (HB8.out.trans (hb9.mono HB8.out.size))
  clear hb9 HSM d1 f1
  go_wp2_with fail
  refine (HH.out w9 HB9.out).mono ?_
  rintro e wz ⟨rfl, hbz⟩
  have HBZ := Lib.hid hbz
  clear hbz
  go_wp2
  go_ret
  exact ⟨rfl, HBZ.out⟩

set_option maxRecDepth 100000 in
set_option maxHeartbeats 2000000 in
theorem long_1 (kd : UInt8) (a : Nat) (w : World) (hT : Tab w) (ha : a % 3 = 1) (ha2 : a < 256) :
    Calls Tryd.prog 7 #[.int .u8 (kd.toNat : Int), .int .u8 (a : Int)] w fun e w' => e = .returned (.bool true) ∧ Below w.heap.size w w' := by
  have HH := Lib.hid (fun wx (hbx : Below w.heap.size w wx) => show Calls Tryd.prog 9 #[] wx fun e w' => e = .returned (.bool true) ∧ Below w.heap.size w w' from (head_any wx (hT.keeps hbx)).mono fun _ _ ⟨h1, h2⟩ => ⟨h1, hbx.trans (h2.mono hbx.size)⟩)
  obtain ⟨N, hN⟩ : ∃ N, N = 262144 := ⟨_, rfl⟩
  obtain ⟨O, D, hD, hmk, hcv⟩ := make_long N (by omega) 262144 (by omega)
  have HT := Lib.hid hT
  have hak : (a : Int) % 3 = 1 := by omega
  have hmr := make_recs w
  have HCV := Lib.hid hcv
  have hsaneL : Sane [Z0, ⟨kd, D⟩, Z0] := fun r hr => by
    simp only [List.mem_cons, List.not_mem_nil, or_false] at hr
    rcases hr with rfl | rfl | rfl <;> first | exact Nat.zero_le _ | (show D.length ≤ 1000000; omega)
  have hfitL : Fit [Z0, ⟨kd, D⟩, Z0] := fun r hr => by
    simp only [List.mem_cons, List.not_mem_nil, or_false] at hr
    rcases hr with rfl | rfl | rfl <;> first | exact Nat.zero_le _ | (show D.length ≤ 262144; omega)
  have hsaneM : Sane [Z0, ⟨kd, D ++ [120]⟩, Z0] := fun r hr => by
    simp only [List.mem_cons, List.not_mem_nil, or_false] at hr
    rcases hr with rfl | rfl | rfl <;> first | exact Nat.zero_le _ | (show (D ++ [120]).length ≤ 1000000; rw [List.length_append]; show D.length + 1 ≤ _; omega)
  have hfitM : ¬ Fit [Z0, ⟨kd, D ++ [120]⟩, Z0] := fun hf => by
    have : (D ++ [120]).length ≤ 262144 := hf ⟨kd, D ++ [120]⟩ (by simp)
    rw [List.length_append] at this
    have h1 : ([120] : List UInt8).length = 1 := rfl
    omega
  have hall : (allR [Z0, ⟨kd, D⟩, Z0]).length ≤ 1000000 := by
    simp only [allR_cons, allR_nil, List.length_append, List.length_nil, one_length]
    show _ ≤ 1000000
    simp only [Z0, List.length_nil]
    omega
  have hsc : scan (allR [Z0, ⟨kd, D⟩, Z0]) = ([Z0, ⟨kd, D⟩, Z0], (allR [Z0, ⟨kd, D⟩, Z0]).length, 0) := by
    have := scan_all [Z0, ⟨kd, D⟩, Z0] hfitL []
    rw [List.append_nil, scan_nil] at this
    simpa using this
  have HP1 := Lib.hid (fun wx (hbx : Below w.heap.size w wx) (hr : Recs wx (some ⟨w.heap.size, 0, none⟩) [Z0, ⟨kd, D⟩, Z0]) => show Calls Tryd.prog 10 #[.slice (some ⟨w.heap.size, 0, none⟩) 3 3] wx fun e w' => e = .returned (.tuple #[.string (tb (allR [Z0, ⟨kd, D⟩, Z0])), .int .i64 0]) ∧ Below wx.heap.size wx w' from
    (put_any (some ⟨w.heap.size, 0, none⟩) [Z0, ⟨kd, D⟩, Z0] 3 wx (hT.keeps hbx) hr (by simp) hsaneL).mono fun _ _ ⟨h1, h2⟩ => ⟨by rw [h1, if_pos hfitL, if_pos hfitL], h2⟩)
  have HP2 := Lib.hid (fun wx (hbx : Below w.heap.size w wx) (hr : Recs wx (some ⟨w.heap.size, 0, none⟩) [Z0, ⟨kd, D ++ [120]⟩, Z0]) => show Calls Tryd.prog 10 #[.slice (some ⟨w.heap.size, 0, none⟩) 3 3] wx fun e w' => e = .returned (.tuple #[.string ⟨#[]⟩, .int .i64 3]) ∧ Below wx.heap.size wx w' from
    (put_any (some ⟨w.heap.size, 0, none⟩) [Z0, ⟨kd, D ++ [120]⟩, Z0] 3 wx (hT.keeps hbx) hr (by simp) hsaneM).mono fun _ _ ⟨h1, h2⟩ => ⟨by rw [h1, if_neg hfitM, if_neg hfitM], h2⟩)
  have HSC := Lib.hid (fun wx (hbx : Below w.heap.size w wx) => show Calls Tryd.prog 12 #[.string (tb (allR [Z0, ⟨kd, D⟩, Z0]))] wx fun e w' => ∃ A c, e = .returned (.tuple #[.slice A 3 c, .int .i64 ((allR [Z0, ⟨kd, D⟩, Z0]).length : Int), .int .u8 0]) ∧ Recs w' A [Z0, ⟨kd, D⟩, Z0] ∧ Below wx.heap.size wx w' ∧ ∀ ad, A = some ad → wx.heap.size ≤ ad.block from by
    have := scan_new (allR [Z0, ⟨kd, D⟩, Z0]) wx (hT.keeps hbx) hall
    rw [hsc] at this
    exact this.mono fun _ _ ⟨A, c, h1, _, _, h4, h5, h6⟩ => ⟨A, c, h1, h4, h5, h6⟩)
  have HSM := Lib.hid (fun wx A9 c9 (h1 : Recs wx A9 [Z0, ⟨kd, D⟩, Z0]) (h2 : Recs wx (some ⟨w.heap.size, 0, none⟩) [Z0, ⟨kd, D⟩, Z0]) => show Calls Tryd.prog 14 #[.slice A9 3 c9, .slice (some ⟨w.heap.size, 0, none⟩) 3 3] wx fun e w' => e = .returned (.bool true) ∧ Below wx.heap.size wx w' from by
    have := rsame_any A9 (some ⟨w.heap.size, 0, none⟩) [Z0, ⟨kd, D⟩, Z0] [Z0, ⟨kd, D⟩, Z0] c9 3 wx h1 h2 (by simp)
    rw [decide_eq_true rfl] at this
    exact this)
  have zD : (tb D).size = N := by rw [tb_size, hD]
  have zX : (tb (D ++ [120])).size = N + 1 := by rw [tb_size, List.length_append, hD]; rfl
  have zS : (tb (allR [Z0, ⟨kd, D⟩, Z0])).size = (allR [Z0, ⟨kd, D⟩, Z0]).length := tb_size _
  have hX1 : tb D ++ ⟨#[120]⟩ = tb (D ++ [120]) := tb_app D [120]
  have hX2 : (tb (D ++ [120])).extract 0 262144 = tb D := by
    rw [tb_cut, List.drop_zero]
    congr 1
    have : (262144 : Nat) = D.length := by omega
    rw [this, List.take_left]
  have q1 : ¬ 9223372036854775807 < N + 1 := by omega
  have q2 : (262144 : Int) ≤ (N : Int) + 1 := by omega
  have q3 : 262144 ≤ N + 1 := by omega
  have hRC : recs [Z0, ⟨kd, D⟩, Z0] = [.int .u8 0, .string ⟨#[]⟩, .int .u8 (kd.toNat : Int), .string (tb D), .int .u8 0, .string ⟨#[]⟩] := rfl
  have hRM : recs [Z0, ⟨kd, D ++ [120]⟩, Z0] = [.int .u8 0, .string ⟨#[]⟩, .int .u8 (kd.toNat : Int), .string (tb (D ++ [120])), .int .u8 0, .string ⟨#[]⟩] := rfl
  have HRC := Lib.hid (fun (wx : World) (hr : Row wx w.heap.size 36 [.int .u8 0, .string ⟨#[]⟩, .int .u8 (kd.toNat : Int), .string (tb D), .int .u8 0, .string ⟨#[]⟩] (0, 0)) => show Recs wx (some ⟨w.heap.size, 0, none⟩) [Z0, ⟨kd, D⟩, Z0] from row_recs (by rw [hRC]; exact hr))
  have HRM := Lib.hid (fun (wx : World) (hr : Row wx w.heap.size 36 [.int .u8 0, .string ⟨#[]⟩, .int .u8 (kd.toNat : Int), .string (tb (D ++ [120])), .int .u8 0, .string ⟨#[]⟩] (0, 0)) => show Recs wx (some ⟨w.heap.size, 0, none⟩) [Z0, ⟨kd, D ++ [120]⟩, Z0] from row_recs (by rw [hRM]; exact hr))
  have hR0 : (recs [Z0, Z0, Z0]).toArray = #[.int .u8 0, .string ⟨#[]⟩, .int .u8 0, .string ⟨#[]⟩, .int .u8 0, .string ⟨#[]⟩] := rfl
  rw [hR0] at hmr
  generalize kd.toNat = q at *
  generalize tb (D ++ [120]) = Xs at *
  generalize tb D = Zs at *
  generalize hQ : allR [Z0, ⟨kd, D⟩, Z0] = Q at *
  generalize tb Q = S at *
  generalize Q.length = sn at *
  clear hT ha hQ hsaneL hsaneM hfitL hfitM hall hsc hD hN hRC hRM hR0 hcv
  obtain ⟨o1, ho1⟩ : ∃ o1, w.alloc (.cells #[.int .u8 0, .string ⟨#[]⟩, .int .u8 0, .string ⟨#[]⟩, .int .u8 0, .string ⟨#[]⟩] 36) = o1 := ⟨_, rfl⟩
  rw [ho1] at hmr
  have hb1 : Below w.heap.size w o1 := ho1 ▸ (Below.refl _ _).alloc (Nat.le_refl _) _
  have hr1 : Row o1 w.heap.size 36 [.int .u8 0, .string ⟨#[]⟩, .int .u8 0, .string ⟨#[]⟩, .int .u8 0, .string ⟨#[]⟩] (0, 0) := ho1 ▸ Row.new w 36 [.int .u8 0, .string ⟨#[]⟩, .int .u8 0, .string ⟨#[]⟩, .int .u8 0, .string ⟨#[]⟩] (0, 0)
  obtain ⟨o2, ho2⟩ : ∃ o2, o1.alloc O = o2 := ⟨_, rfl⟩
  have hct : (convert 47 9 (.slice (some ⟨o1.heap.size, 0, none⟩) N N)).run Tryd.prog o2 = .ok (.string Zs) o2 := ho2 ▸ HCV.out o1
  have hm1 := hmk o1
  rw [ho2] at hm1
  have hb2 : Below w.heap.size w o2 := ho2 ▸ hb1.alloc hb1.size O
  have hr2 : Row o2 w.heap.size 36 [.int .u8 0, .string ⟨#[]⟩, .int .u8 0, .string ⟨#[]⟩, .int .u8 0, .string ⟨#[]⟩] (0, 0) := ho2 ▸ hr1.alloc O
  have d0 : o2.cell? ⟨w.heap.size, 2, none⟩ = some (.int .u8 0) := by rw [hr2.cell]; rfl
  have d1 : o2.cell? ⟨w.heap.size, 3, none⟩ = some (.string ⟨#[]⟩) := by rw [hr2.cell]; rfl
  have f0 : o2.frozen? ⟨w.heap.size, 2, none⟩ = false := hr2.loose 2
  have f1 : o2.frozen? ⟨w.heap.size, 3, none⟩ = false := hr2.loose 3
  have hr3 : Row ((o2.setCell ⟨w.heap.size, 2, none⟩ (.int .u8 (q : Int))).setCell ⟨w.heap.size, 3, none⟩ (.string Zs)) w.heap.size 36 [.int .u8 0, .string ⟨#[]⟩, .int .u8 (q : Int), .string Zs, .int .u8 0, .string ⟨#[]⟩] (0, 0) := (hr2.put 2 _).put 3 _
  have hb3 : Below w.heap.size w ((o2.setCell ⟨w.heap.size, 2, none⟩ (.int .u8 (q : Int))).setCell ⟨w.heap.size, 3, none⟩ (.string Zs)) := (hb2.setCell (Nat.le_refl _) _).setCell (Nat.le_refl _) _
  have HR3 := Lib.hid hr3
  have HB3 := Lib.hid hb3
  clear hr1 hr2 hb1 hb2 hr3 hb3 hmk ho1 ho2
  go_enter Tryd.func7, Tryd.ntmps7
  go_wp2_with fail
  refine (HP1.out _ HB3.out (HRC.out _ HR3.out)).mono ?_
  rintro e w4 ⟨rfl, hb4⟩
  have HB4 := Lib.hid (HB3.out.trans (hb4.mono HB3.out.size))
  have HR4 := Lib.hid (HR3.out.below hb4 HR3.out.lt)
  clear hb4 d0 d1 f0 f1 hmr hct hm1 HR3 HB3 HP1
  go_wp2_with fail
  refine (HSC.out w4 HB4.out).mono ?_
  rintro e w5 ⟨A5, c5, rfl, hr5, hb5, hf5⟩
  have HB5 := Lib.hid (HB4.out.trans (hb5.mono HB4.out.size))
  have HR5 := Lib.hid (HR4.out.below hb5 HR4.out.lt)
  have hne : ∀ ad, A5 = some ad → ad.block ≠ w.heap.size := fun ad hh => by have := hf5 ad hh; have := HR4.out.lt; omega
  have HNE := Lib.hid hne
  have HG5 := Lib.hid hr5
  have d0 : w5.cell? ⟨w.heap.size, 2, none⟩ = some (.int .u8 (q : Int)) := by rw [HR5.out.cell]; rfl
  have d1 : w5.cell? ⟨w.heap.size, 3, none⟩ = some (.string Zs) := by rw [HR5.out.cell]; rfl
  have f1 : w5.frozen? ⟨w.heap.size, 3, none⟩ = false := HR5.out.loose 3
  have hr6 : Row (w5.setCell ⟨w.heap.size, 3, none⟩ (.string Xs)) w.heap.size 36 [.int .u8 0, .string ⟨#[]⟩, .int .u8 (q : Int), .string Xs, .int .u8 0, .string ⟨#[]⟩] (0, 0) := HR5.out.put 3 _
  have HR6 := Lib.hid hr6
  have HB6 := Lib.hid (show Below w.heap.size w (w5.setCell ⟨w.heap.size, 3, none⟩ (.string Xs)) from HB5.out.setCell (Nat.le_refl _) _)
  have HG6 := Lib.hid (show Recs (w5.setCell ⟨w.heap.size, 3, none⟩ (.string Xs)) A5 [Z0, ⟨kd, D⟩, Z0] from HG5.out.put _ _ _ HNE.out)
  clear hr5 hb5 hf5 hne hr6 HSC
  go_wp2_with fail
  refine (HP2.out _ HB6.out (HRM.out _ HR6.out)).mono ?_
  rintro e w7 ⟨rfl, hb7⟩
  have HB7 := Lib.hid (HB6.out.trans (hb7.mono HB6.out.size))
  have HR7 := Lib.hid (HR6.out.below hb7 HR6.out.lt)
  have HG7 := Lib.hid (HG6.out.keeps hb7)
  clear hb7 d0 d1 f1 HP2 HR6 HB6 HG6
  have d1 : w7.cell? ⟨w.heap.size, 3, none⟩ = some (.string Xs) := by rw [HR7.out.cell]; rfl
  have f1 : w7.frozen? ⟨w.heap.size, 3, none⟩ = false := HR7.out.loose 3
  have HR8 := Lib.hid (show Row (w7.setCell ⟨w.heap.size, 3, none⟩ (.string Zs)) w.heap.size 36 [.int .u8 0, .string ⟨#[]⟩, .int .u8 (q : Int), .string Zs, .int .u8 0, .string ⟨#[]⟩] (0, 0) from HR7.out.put 3 _)
  have HB8 := Lib.hid (show Below w.heap.size w (w7.setCell ⟨w.heap.size, 3, none⟩ (.string Zs)) from HB7.out.setCell (Nat.le_refl _) _)
  have HG8 := Lib.hid (show Recs (w7.setCell ⟨w.heap.size, 3, none⟩ (.string Zs)) A5 [Z0, ⟨kd, D⟩, Z0] from HG7.out.put _ _ _ HNE.out)
  go_wp2_with fail
  refine (HSM.out _ A5 c5 HG8.out (HRC.out _ HR8.out)).mono ?_
  rintro e w9 ⟨rfl, hb9⟩
  have HB9 := Lib.hid (HB8.out.trans (hb9.mono HB8.out.size))
  clear hb9 HSM d1 f1
  go_wp2_with fail
  refine (HH.out w9 HB9.out).mono ?_
  rintro e wz ⟨rfl, hbz⟩
  have HBZ := Lib.hid hbz
  clear hbz
  go_wp2
  go_ret
  exact ⟨rfl, HBZ.out⟩

set_option maxRecDepth 100000 in
set_option maxHeartbeats 2000000 in
theorem long_2 (kd : UInt8) (a : Nat) (w : World) (hT : Tab w) (ha : a % 3 = 2) (ha2 : a < 256) :
    Calls Tryd.prog 7 #[.int .u8 (kd.toNat : Int), .int .u8 (a : Int)] w fun e w' => e = .returned (.bool true) ∧ Below w.heap.size w w' := by
  have HH := Lib.hid (fun wx (hbx : Below w.heap.size w wx) => show Calls Tryd.prog 9 #[] wx fun e w' => e = .returned (.bool true) ∧ Below w.heap.size w w' from (head_any wx (hT.keeps hbx)).mono fun _ _ ⟨h1, h2⟩ => ⟨h1, hbx.trans (h2.mono hbx.size)⟩)
  obtain ⟨N, hN⟩ : ∃ N, N = 262144 := ⟨_, rfl⟩
  obtain ⟨O, D, hD, hmk, hcv⟩ := make_long N (by omega) 262144 (by omega)
  have HT := Lib.hid hT
  have hak : (a : Int) % 3 = 2 := by omega
  have hmr := make_recs w
  have HCV := Lib.hid hcv
  have hsaneL : Sane [Z0, Z0, ⟨kd, D⟩] := fun r hr => by
    simp only [List.mem_cons, List.not_mem_nil, or_false] at hr
    rcases hr with rfl | rfl | rfl <;> first | exact Nat.zero_le _ | (show D.length ≤ 1000000; omega)
  have hfitL : Fit [Z0, Z0, ⟨kd, D⟩] := fun r hr => by
    simp only [List.mem_cons, List.not_mem_nil, or_false] at hr
    rcases hr with rfl | rfl | rfl <;> first | exact Nat.zero_le _ | (show D.length ≤ 262144; omega)
  have hsaneM : Sane [Z0, Z0, ⟨kd, D ++ [120]⟩] := fun r hr => by
    simp only [List.mem_cons, List.not_mem_nil, or_false] at hr
    rcases hr with rfl | rfl | rfl <;> first | exact Nat.zero_le _ | (show (D ++ [120]).length ≤ 1000000; rw [List.length_append]; show D.length + 1 ≤ _; omega)
  have hfitM : ¬ Fit [Z0, Z0, ⟨kd, D ++ [120]⟩] := fun hf => by
    have : (D ++ [120]).length ≤ 262144 := hf ⟨kd, D ++ [120]⟩ (by simp)
    rw [List.length_append] at this
    have h1 : ([120] : List UInt8).length = 1 := rfl
    omega
  have hall : (allR [Z0, Z0, ⟨kd, D⟩]).length ≤ 1000000 := by
    simp only [allR_cons, allR_nil, List.length_append, List.length_nil, one_length]
    show _ ≤ 1000000
    simp only [Z0, List.length_nil]
    omega
  have hsc : scan (allR [Z0, Z0, ⟨kd, D⟩]) = ([Z0, Z0, ⟨kd, D⟩], (allR [Z0, Z0, ⟨kd, D⟩]).length, 0) := by
    have := scan_all [Z0, Z0, ⟨kd, D⟩] hfitL []
    rw [List.append_nil, scan_nil] at this
    simpa using this
  have HP1 := Lib.hid (fun wx (hbx : Below w.heap.size w wx) (hr : Recs wx (some ⟨w.heap.size, 0, none⟩) [Z0, Z0, ⟨kd, D⟩]) => show Calls Tryd.prog 10 #[.slice (some ⟨w.heap.size, 0, none⟩) 3 3] wx fun e w' => e = .returned (.tuple #[.string (tb (allR [Z0, Z0, ⟨kd, D⟩])), .int .i64 0]) ∧ Below wx.heap.size wx w' from
    (put_any (some ⟨w.heap.size, 0, none⟩) [Z0, Z0, ⟨kd, D⟩] 3 wx (hT.keeps hbx) hr (by simp) hsaneL).mono fun _ _ ⟨h1, h2⟩ => ⟨by rw [h1, if_pos hfitL, if_pos hfitL], h2⟩)
  have HP2 := Lib.hid (fun wx (hbx : Below w.heap.size w wx) (hr : Recs wx (some ⟨w.heap.size, 0, none⟩) [Z0, Z0, ⟨kd, D ++ [120]⟩]) => show Calls Tryd.prog 10 #[.slice (some ⟨w.heap.size, 0, none⟩) 3 3] wx fun e w' => e = .returned (.tuple #[.string ⟨#[]⟩, .int .i64 3]) ∧ Below wx.heap.size wx w' from
    (put_any (some ⟨w.heap.size, 0, none⟩) [Z0, Z0, ⟨kd, D ++ [120]⟩] 3 wx (hT.keeps hbx) hr (by simp) hsaneM).mono fun _ _ ⟨h1, h2⟩ => ⟨by rw [h1, if_neg hfitM, if_neg hfitM], h2⟩)
  have HSC := Lib.hid (fun wx (hbx : Below w.heap.size w wx) => show Calls Tryd.prog 12 #[.string (tb (allR [Z0, Z0, ⟨kd, D⟩]))] wx fun e w' => ∃ A c, e = .returned (.tuple #[.slice A 3 c, .int .i64 ((allR [Z0, Z0, ⟨kd, D⟩]).length : Int), .int .u8 0]) ∧ Recs w' A [Z0, Z0, ⟨kd, D⟩] ∧ Below wx.heap.size wx w' ∧ ∀ ad, A = some ad → wx.heap.size ≤ ad.block from by
    have := scan_new (allR [Z0, Z0, ⟨kd, D⟩]) wx (hT.keeps hbx) hall
    rw [hsc] at this
    exact this.mono fun _ _ ⟨A, c, h1, _, _, h4, h5, h6⟩ => ⟨A, c, h1, h4, h5, h6⟩)
  have HSM := Lib.hid (fun wx A9 c9 (h1 : Recs wx A9 [Z0, Z0, ⟨kd, D⟩]) (h2 : Recs wx (some ⟨w.heap.size, 0, none⟩) [Z0, Z0, ⟨kd, D⟩]) => show Calls Tryd.prog 14 #[.slice A9 3 c9, .slice (some ⟨w.heap.size, 0, none⟩) 3 3] wx fun e w' => e = .returned (.bool true) ∧ Below wx.heap.size wx w' from by
    have := rsame_any A9 (some ⟨w.heap.size, 0, none⟩) [Z0, Z0, ⟨kd, D⟩] [Z0, Z0, ⟨kd, D⟩] c9 3 wx h1 h2 (by simp)
    rw [decide_eq_true rfl] at this
    exact this)
  have zD : (tb D).size = N := by rw [tb_size, hD]
  have zX : (tb (D ++ [120])).size = N + 1 := by rw [tb_size, List.length_append, hD]; rfl
  have zS : (tb (allR [Z0, Z0, ⟨kd, D⟩])).size = (allR [Z0, Z0, ⟨kd, D⟩]).length := tb_size _
  have hX1 : tb D ++ ⟨#[120]⟩ = tb (D ++ [120]) := tb_app D [120]
  have hX2 : (tb (D ++ [120])).extract 0 262144 = tb D := by
    rw [tb_cut, List.drop_zero]
    congr 1
    have : (262144 : Nat) = D.length := by omega
    rw [this, List.take_left]
  have q1 : ¬ 9223372036854775807 < N + 1 := by omega
  have q2 : (262144 : Int) ≤ (N : Int) + 1 := by omega
  have q3 : 262144 ≤ N + 1 := by omega
  have hRC : recs [Z0, Z0, ⟨kd, D⟩] = [.int .u8 0, .string ⟨#[]⟩, .int .u8 0, .string ⟨#[]⟩, .int .u8 (kd.toNat : Int), .string (tb D)] := rfl
  have hRM : recs [Z0, Z0, ⟨kd, D ++ [120]⟩] = [.int .u8 0, .string ⟨#[]⟩, .int .u8 0, .string ⟨#[]⟩, .int .u8 (kd.toNat : Int), .string (tb (D ++ [120]))] := rfl
  have HRC := Lib.hid (fun (wx : World) (hr : Row wx w.heap.size 36 [.int .u8 0, .string ⟨#[]⟩, .int .u8 0, .string ⟨#[]⟩, .int .u8 (kd.toNat : Int), .string (tb D)] (0, 0)) => show Recs wx (some ⟨w.heap.size, 0, none⟩) [Z0, Z0, ⟨kd, D⟩] from row_recs (by rw [hRC]; exact hr))
  have HRM := Lib.hid (fun (wx : World) (hr : Row wx w.heap.size 36 [.int .u8 0, .string ⟨#[]⟩, .int .u8 0, .string ⟨#[]⟩, .int .u8 (kd.toNat : Int), .string (tb (D ++ [120]))] (0, 0)) => show Recs wx (some ⟨w.heap.size, 0, none⟩) [Z0, Z0, ⟨kd, D ++ [120]⟩] from row_recs (by rw [hRM]; exact hr))
  have hR0 : (recs [Z0, Z0, Z0]).toArray = #[.int .u8 0, .string ⟨#[]⟩, .int .u8 0, .string ⟨#[]⟩, .int .u8 0, .string ⟨#[]⟩] := rfl
  rw [hR0] at hmr
  generalize kd.toNat = q at *
  generalize tb (D ++ [120]) = Xs at *
  generalize tb D = Zs at *
  generalize hQ : allR [Z0, Z0, ⟨kd, D⟩] = Q at *
  generalize tb Q = S at *
  generalize Q.length = sn at *
  clear hT ha hQ hsaneL hsaneM hfitL hfitM hall hsc hD hN hRC hRM hR0 hcv
  obtain ⟨o1, ho1⟩ : ∃ o1, w.alloc (.cells #[.int .u8 0, .string ⟨#[]⟩, .int .u8 0, .string ⟨#[]⟩, .int .u8 0, .string ⟨#[]⟩] 36) = o1 := ⟨_, rfl⟩
  rw [ho1] at hmr
  have hb1 : Below w.heap.size w o1 := ho1 ▸ (Below.refl _ _).alloc (Nat.le_refl _) _
  have hr1 : Row o1 w.heap.size 36 [.int .u8 0, .string ⟨#[]⟩, .int .u8 0, .string ⟨#[]⟩, .int .u8 0, .string ⟨#[]⟩] (0, 0) := ho1 ▸ Row.new w 36 [.int .u8 0, .string ⟨#[]⟩, .int .u8 0, .string ⟨#[]⟩, .int .u8 0, .string ⟨#[]⟩] (0, 0)
  obtain ⟨o2, ho2⟩ : ∃ o2, o1.alloc O = o2 := ⟨_, rfl⟩
  have hct : (convert 47 9 (.slice (some ⟨o1.heap.size, 0, none⟩) N N)).run Tryd.prog o2 = .ok (.string Zs) o2 := ho2 ▸ HCV.out o1
  have hm1 := hmk o1
  rw [ho2] at hm1
  have hb2 : Below w.heap.size w o2 := ho2 ▸ hb1.alloc hb1.size O
  have hr2 : Row o2 w.heap.size 36 [.int .u8 0, .string ⟨#[]⟩, .int .u8 0, .string ⟨#[]⟩, .int .u8 0, .string ⟨#[]⟩] (0, 0) := ho2 ▸ hr1.alloc O
  have d0 : o2.cell? ⟨w.heap.size, 4, none⟩ = some (.int .u8 0) := by rw [hr2.cell]; rfl
  have d1 : o2.cell? ⟨w.heap.size, 5, none⟩ = some (.string ⟨#[]⟩) := by rw [hr2.cell]; rfl
  have f0 : o2.frozen? ⟨w.heap.size, 4, none⟩ = false := hr2.loose 4
  have f1 : o2.frozen? ⟨w.heap.size, 5, none⟩ = false := hr2.loose 5
  have hr3 : Row ((o2.setCell ⟨w.heap.size, 4, none⟩ (.int .u8 (q : Int))).setCell ⟨w.heap.size, 5, none⟩ (.string Zs)) w.heap.size 36 [.int .u8 0, .string ⟨#[]⟩, .int .u8 0, .string ⟨#[]⟩, .int .u8 (q : Int), .string Zs] (0, 0) := (hr2.put 4 _).put 5 _
  have hb3 : Below w.heap.size w ((o2.setCell ⟨w.heap.size, 4, none⟩ (.int .u8 (q : Int))).setCell ⟨w.heap.size, 5, none⟩ (.string Zs)) := (hb2.setCell (Nat.le_refl _) _).setCell (Nat.le_refl _) _
  have HR3 := Lib.hid hr3
  have HB3 := Lib.hid hb3
  clear hr1 hr2 hb1 hb2 hr3 hb3 hmk ho1 ho2
  go_enter Tryd.func7, Tryd.ntmps7
  go_wp2_with fail
  refine (HP1.out _ HB3.out (HRC.out _ HR3.out)).mono ?_
  rintro e w4 ⟨rfl, hb4⟩
  have HB4 := Lib.hid (HB3.out.trans (hb4.mono HB3.out.size))
  have HR4 := Lib.hid (HR3.out.below hb4 HR3.out.lt)
  clear hb4 d0 d1 f0 f1 hmr hct hm1 HR3 HB3 HP1
  go_wp2_with fail
  refine (HSC.out w4 HB4.out).mono ?_
  rintro e w5 ⟨A5, c5, rfl, hr5, hb5, hf5⟩
  have HB5 := Lib.hid (HB4.out.trans (hb5.mono HB4.out.size))
  have HR5 := Lib.hid (HR4.out.below hb5 HR4.out.lt)
  have hne : ∀ ad, A5 = some ad → ad.block ≠ w.heap.size := fun ad hh => by have := hf5 ad hh; have := HR4.out.lt; omega
  have HNE := Lib.hid hne
  have HG5 := Lib.hid hr5
  have d0 : w5.cell? ⟨w.heap.size, 4, none⟩ = some (.int .u8 (q : Int)) := by rw [HR5.out.cell]; rfl
  have d1 : w5.cell? ⟨w.heap.size, 5, none⟩ = some (.string Zs) := by rw [HR5.out.cell]; rfl
  have f1 : w5.frozen? ⟨w.heap.size, 5, none⟩ = false := HR5.out.loose 5
  have hr6 : Row (w5.setCell ⟨w.heap.size, 5, none⟩ (.string Xs)) w.heap.size 36 [.int .u8 0, .string ⟨#[]⟩, .int .u8 0, .string ⟨#[]⟩, .int .u8 (q : Int), .string Xs] (0, 0) := HR5.out.put 5 _
  have HR6 := Lib.hid hr6
  have HB6 := Lib.hid (show Below w.heap.size w (w5.setCell ⟨w.heap.size, 5, none⟩ (.string Xs)) from HB5.out.setCell (Nat.le_refl _) _)
  have HG6 := Lib.hid (show Recs (w5.setCell ⟨w.heap.size, 5, none⟩ (.string Xs)) A5 [Z0, Z0, ⟨kd, D⟩] from HG5.out.put _ _ _ HNE.out)
  clear hr5 hb5 hf5 hne hr6 HSC
  go_wp2_with fail
  refine (HP2.out _ HB6.out (HRM.out _ HR6.out)).mono ?_
  rintro e w7 ⟨rfl, hb7⟩
  have HB7 := Lib.hid (HB6.out.trans (hb7.mono HB6.out.size))
  have HR7 := Lib.hid (HR6.out.below hb7 HR6.out.lt)
  have HG7 := Lib.hid (HG6.out.keeps hb7)
  clear hb7 d0 d1 f1 HP2 HR6 HB6 HG6
  have d1 : w7.cell? ⟨w.heap.size, 5, none⟩ = some (.string Xs) := by rw [HR7.out.cell]; rfl
  have f1 : w7.frozen? ⟨w.heap.size, 5, none⟩ = false := HR7.out.loose 5
  have HR8 := Lib.hid (show Row (w7.setCell ⟨w.heap.size, 5, none⟩ (.string Zs)) w.heap.size 36 [.int .u8 0, .string ⟨#[]⟩, .int .u8 0, .string ⟨#[]⟩, .int .u8 (q : Int), .string Zs] (0, 0) from HR7.out.put 5 _)
  have HB8 := Lib.hid (show Below w.heap.size w (w7.setCell ⟨w.heap.size, 5, none⟩ (.string Zs)) from HB7.out.setCell (Nat.le_refl _) _)
  have HG8 := Lib.hid (show Recs (w7.setCell ⟨w.heap.size, 5, none⟩ (.string Zs)) A5 [Z0, Z0, ⟨kd, D⟩] from HG7.out.put _ _ _ HNE.out)
  go_wp2_with fail
  refine (HSM.out _ A5 c5 HG8.out (HRC.out _ HR8.out)).mono ?_
  rintro e w9 ⟨rfl, hb9⟩
  have HB9 := Lib.hid (HB8.out.trans (hb9.mono HB8.out.size))
  clear hb9 HSM d1 f1
  go_wp2_with fail
  refine (HH.out w9 HB9.out).mono ?_
  rintro e wz ⟨rfl, hbz⟩
  have HBZ := Lib.hid hbz
  clear hbz
  go_wp2
  go_ret
  exact ⟨rfl, HBZ.out⟩


end Go.Proofs.YtlhcacancnmhcaaDoor
