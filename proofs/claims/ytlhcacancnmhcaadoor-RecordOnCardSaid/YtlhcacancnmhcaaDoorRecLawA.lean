/-
  The statements' own: calls whose answers the document fixes; are records more than a statement looks at?
-/
import Derived.Test.YtlhcacancnmhcaaDoorRecDocD
namespace Go.Proofs.YtlhcacancnmhcaaDoor
open Go.RowKit

def R0 : Rec := ⟨7, [97, 98]⟩
theorem r0_put : allR [R0] = one R0 := by rw [allR_cons, allR_nil, List.append_nil]
theorem r0_len : (one R0).length = 15 := one_length R0
theorem r0_scan : scan (one R0 ++ (one R0).take 8) = ([R0], 15, 1) := by
  have h := look_cut R0 (by decide) 8 (by rw [r0_len]; omega)
  rw [scan_one R0 (by decide), scan_of_torn (h.trans (if_neg (by omega)))]
  rfl
theorem nine_zeros : lookR (List.replicate 9 0) = .bad := by
  have h : ¬ Sealed ((List.replicate 9 (0 : UInt8)).take 9) := by decide +kernel
  unfold lookR
  rw [if_neg (by simp), if_neg (by simp), if_pos (.inl h)]
theorem zeros_scan : scan (List.replicate 9 0) = ([], 0, 2) := scan_of_bad nine_zeros

theorem recs_new (w : World) (r : Rec) : Recs (w.alloc (.cells (recC r).toArray 36)) (some ⟨w.heap.size, 0, none⟩) [r] := ⟨fun i hi => by
  obtain rfl : i = 0 := by simpa using hi
  have hr : Row (w.alloc (.cells (recC r).toArray 36)) w.heap.size 36 (recC r) (0, 0) := Row.new w 36 (recC r) (0, 0)
  exact ⟨w.heap.size, 0, rfl, hr.lt, by rw [hr.cell]; rfl, by rw [hr.cell]; rfl⟩⟩

set_option maxRecDepth 100000 in
set_option maxHeartbeats 2000000 in
theorem head_any (w : World) (hT : Tab w) : Calls Tryd.prog 9 #[] w fun e w' => e = .returned (.bool true) ∧ Below w.heap.size w w' := by
  have HT := Lib.hid hT
  have hrc : (recC R0).toArray = #[.int .u8 7, .string ⟨#[97, 98]⟩] := rfl
  obtain ⟨o, ho⟩ : ∃ o, w.alloc (.cells #[.int .u8 7, .string ⟨#[97, 98]⟩] 36) = o := ⟨_, rfl⟩
  have HB0 := Lib.hid (show Below w.heap.size w o from ho ▸ (Below.refl _ _).alloc (Nat.le_refl _) _)
  have HP := Lib.hid (show Calls Tryd.prog 10 #[.slice (some ⟨w.heap.size, 0, none⟩) 1 1] o fun e w' => e = .returned (.tuple #[.string (tb (one R0)), .int .i64 0]) ∧ Below o.heap.size o w' from by
    have hr : Recs o (some ⟨w.heap.size, 0, none⟩) [R0] := by rw [← ho, ← hrc]; exact recs_new w R0
    have hfit : Fit [R0] := fun r hr => by rw [List.mem_singleton] at hr; subst hr; decide
    refine (put_any (some ⟨w.heap.size, 0, none⟩) [R0] 1 o (hT.keeps HB0.out) hr (by decide) (fun r hr => by have := hfit r hr; omega)).mono fun e w' ⟨h1, h2⟩ => ⟨?_, h2⟩
    rw [h1, if_pos hfit, if_pos hfit, r0_put])
  have hz : (tb (one R0)).size = 15 := by rw [tb_size, r0_len]
  have hx8 : (tb (one R0)).extract 0 8 = tb ((one R0).take 8) := by rw [tb_cut, List.drop_zero]
  have hz8 : (tb ((one R0).take 8)).size = 8 := by rw [tb_size, List.length_take, r0_len]; rfl
  have hx := tb_app (one R0) ((one R0).take 8)
  have HS1 := Lib.hid (fun (wx : World) (hb : Below w.heap.size w wx) => show Calls Tryd.prog 12 #[.string (tb (one R0 ++ (one R0).take 8))] wx fun e w' => (∃ A c, e = .returned (.tuple #[.slice A 1 c, .int .i64 15, .int .u8 1])) ∧ Below w.heap.size w w' from by
    have := scan_any (one R0 ++ (one R0).take 8) wx (hT.keeps hb) (by rw [List.length_append, List.length_take, r0_len]; omega)
    rw [r0_scan] at this
    exact this.mono fun e w' ⟨A, c, h1, _, _, _, h5⟩ => ⟨⟨A, c, h1⟩, hb.trans (h5.mono hb.size)⟩)
  have HS2 := Lib.hid (fun (wx : World) (hb : Below w.heap.size w wx) => show Calls Tryd.prog 12 #[.string (tb (List.replicate 9 0))] wx fun e w' => (∃ A c, e = .returned (.tuple #[.slice A 0 c, .int .i64 0, .int .u8 2])) ∧ Below w.heap.size w w' from by
    have := scan_any (List.replicate 9 0) wx (hT.keeps hb) (by simp)
    rw [zeros_scan] at this
    exact this.mono fun e w' ⟨A, c, h1, _, _, _, h5⟩ => ⟨⟨A, c, h1⟩, hb.trans (h5.mono hb.size)⟩)
  have HS3 := Lib.hid (fun (wx : World) (hb : Below w.heap.size w wx) => show Calls Tryd.prog 12 #[.string ⟨#[]⟩] wx fun e w' => (∃ A c, e = .returned (.tuple #[.slice A 0 c, .int .i64 0, .int .u8 0])) ∧ Below w.heap.size w w' from by
    have := scan_any [] wx (hT.keeps hb) (by simp)
    rw [scan_nil] at this
    exact this.mono fun e w' ⟨A, c, h1, _, _, _, h5⟩ => ⟨⟨A, c, h1⟩, hb.trans (h5.mono hb.size)⟩)
  have HZ := Lib.hid (fun (wx : World) => show (convert 47 9 (.slice (some ⟨wx.heap.size, 0, none⟩) 9 9)).run Tryd.prog (wx.alloc (.cells (byt (List.replicate 9 0)).toArray 5)) = .ok (.string (tb (List.replicate 9 0))) (wx.alloc (.cells (byt (List.replicate 9 0)).toArray 5)) from
    text_n (some ⟨wx.heap.size, 0, none⟩) (List.replicate 9 0) 9 9 _ (by simp) (row_reads (Row.new wx 5 _ (0, 0))))
  have HMK := Lib.hid (fun (wx : World) => make_bytes 9 (by omega) 9 rfl wx)
  generalize byt (List.replicate 9 0) = Z9 at *
  generalize tb (List.replicate 9 0) = z9 at *
  generalize tb (one R0 ++ (one R0).take 8) = s2 at *
  generalize tb ((one R0).take 8) = s8 at *
  generalize tb (one R0) = s at *
  clear hrc hT
  go_enter Tryd.func9, Tryd.ntmps9
  go_wp2_with fail
  refine HP.out.mono ?_
  rintro e w1 ⟨rfl, hb1⟩
  have HB1 := Lib.hid (HB0.out.trans (hb1.mono HB0.out.size))
  clear hb1 ho
  go_wp2_with fail
  refine (HS1.out w1 HB1.out).mono ?_
  rintro e w2 ⟨⟨A2, c2, rfl⟩, hb2⟩
  have HB2 := Lib.hid hb2
  have hmk := HMK.out w2
  have hzt := HZ.out w2
  have HB3 := Lib.hid (hb2.alloc hb2.size (.cells Z9.toArray 5))
  clear hb2
  go_wp2_with fail
  refine (HS2.out _ HB3.out).mono ?_
  rintro e w3 ⟨⟨A3, c3, rfl⟩, hb3⟩
  have HB4 := Lib.hid hb3
  clear hb3 hmk hzt
  go_wp2_with fail
  refine (HS3.out w3 HB4.out).mono ?_
  rintro e w4 ⟨⟨A4, c4, rfl⟩, hb4⟩
  have HB5 := Lib.hid hb4
  clear hb4
  go_wp2
  go_ret
  exact ⟨rfl, HB5.out⟩

/-- No more than a statement looks at. -/
def Tiny (l : List Rec) : Prop := l.length ≤ 12 ∧ ∀ r ∈ l, r.d.length ≤ 200
instance (l : List Rec) : Decidable (Tiny l) := inferInstanceAs (Decidable (_ ∧ ∀ r ∈ l, r.d.length ≤ 200))
theorem Tiny.small {l : List Rec} (h : Tiny l) : Small l := fun r hr => by have := h.2 r hr; omega
theorem Tiny.le {l : List Rec} (h : Tiny l) : (allR l).length ≤ 2556 := by
  have : ∀ (l : List Rec), (∀ r ∈ l, r.d.length ≤ 200) → (allR l).length ≤ l.length * 213 := by
    intro l
    induction l with
    | nil => intro _; simp [allR]
    | cons r l ih =>
      intro h
      rw [allR_cons, List.length_append, one_length, List.length_cons]
      have h1 := ih (fun x hx => h x (by simp [hx]))
      have h2 := h r (by simp)
      omega
  have h1 := this l h.2
  have h2 := h.1
  omega

set_option maxRecDepth 100000 in
set_option maxHeartbeats 1000000 in
theorem great_any (A : Option Addr) (l : List Rec) (c : Nat) (w : World) (h : Recs w A l) :
    Calls Tryd.prog 8 #[.slice A l.length c] w fun e w' => e = .returned (.bool (!decide (Tiny l))) ∧ Below w.heap.size w w' := by
  have HR := Lib.hid h
  clear h
  by_cases h12 : l.length ≤ 12
  · have g12 : ¬ (12 : Int) < (l.length : Int) := by omega
    go_enter Tryd.func8, Tryd.ntmps8
    go_wp2_with fail
    go_loopw [3] (fun i wr => ∃ k : Nat, k ≤ l.length ∧ i = .int .i64 k ∧ (∀ r ∈ l.take k, r.d.length ≤ 200) ∧ Below w.heap.size w wr) (fun i _ => l.length - (intOf i).toNat)
    case atStart => exact ⟨0, by omega, rfl, (fun r hr => by cases hr), Below.refl _ _⟩
    case round =>
      obtain ⟨k, hk, rfl, hf, hb⟩ := hrel
      have HF := Lib.hid hf
      have HB := Lib.hid hb
      clear hf
      by_cases hlt : k < l.length
      · obtain ⟨g, off, rfl, _, h1, h2⟩ := (HR.out.keeps hb).at_ k hlt
        have hz : (tb l[k].d).size = l[k].d.length := tb_size _
        by_cases hx : 200 < l[k].d.length
        · have hx2 : (200 : Int) < ((tb l[k].d).size : Int) := by omega
          have HN := Lib.hid (show ¬ Tiny l from fun ht => by have := ht.2 _ (List.getElem_mem hlt); omega)
          generalize tb l[k].d = d at *
          clear hb hx hz
          go_wp2
          go_ret
          exact ⟨by rw [decide_eq_false HN.out]; rfl, HB.out⟩
        · have hx2 : ¬ (200 : Int) < ((tb l[k].d).size : Int) := by omega
          have HFN := Lib.hid (show ∀ r ∈ l.take (k + 1), r.d.length ≤ 200 from by
            rw [List.take_succ_eq_append_getElem hlt]
            intro r hm
            rcases List.mem_append.1 hm with h1 | h1
            · exact HF.out r h1
            · rw [List.mem_singleton] at h1; rw [h1]; omega)
          generalize tb l[k].d = d at *
          clear hb hx hz
          go_wp2
          go_roundw
          case rel => exact ⟨k + 1, by omega, by go_num, HFN.out, HB.out⟩
          case measure => simp [intOf]; omega
      · obtain rfl : k = l.length := by omega
        have HY := Lib.hid (show Tiny l from ⟨h12, by have := HF.out; rwa [List.take_length] at this⟩)
        clear hb
        go_wp2
        go_ret
        exact ⟨by rw [decide_eq_true HY.out]; rfl, HB.out⟩
  · have g12 : (12 : Int) < (l.length : Int) := by omega
    have HN := Lib.hid (show ¬ Tiny l from fun ht => h12 ht.1)
    go_enter Tryd.func8, Tryd.ntmps8
    go_wp2
    go_ret
    exact ⟨by rw [decide_eq_false HN.out]; rfl, Below.refl _ _⟩
end Go.Proofs.YtlhcacancnmhcaaDoor
