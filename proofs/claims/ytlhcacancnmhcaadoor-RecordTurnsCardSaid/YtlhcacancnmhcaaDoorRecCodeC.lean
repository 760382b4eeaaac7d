/-
  The walk over package record, part C: Put.
-/
import Derived.Test.YtlhcacancnmhcaaDoorRecCodeB
namespace Go.Proofs.YtlhcacancnmhcaaDoor
open Go.RowKit

/-- What Put hands back. -/
def Putted (l : List Rec) (w : World) (e : Ending) (w' : World) : Prop :=
  e = .returned (.tuple #[.string (if Fit l then tb (allR l) else ⟨#[]⟩), .int .i64 (if Fit l then 0 else 3)]) ∧ Below w.heap.size w w'

theorem allR_take (l : List Rec) (k : Nat) (hk : k < l.length) : allR (l.take (k + 1)) = (allR (l.take k) ++ headR l[k]) ++ sealed l[k].d := by
  rw [List.take_succ_eq_append_getElem hk, allR_append, allR_cons, allR_nil, List.append_nil, List.append_assoc]; rfl
theorem allR_le : ∀ (l : List Rec) (_ : Sane l), (allR l).length ≤ l.length * 1000013
  | [], _ => by simp [allR]
  | r :: l, h => by
    rw [allR_cons, List.length_append, one_length, List.length_cons]
    have h1 := allR_le l (fun x hx => h x (by simp [hx]))
    have h2 := h r (by simp)
    omega
theorem Sane.take {l : List Rec} (h : Sane l) (k : Nat) : Sane (l.take k) := fun r hr => h r (List.mem_of_mem_take hr)

set_option maxRecDepth 100000 in
set_option maxHeartbeats 2000000 in
theorem put_any (A : Option Addr) (l : List Rec) (c : Nat) (w : World) (hT : Tab w) (h : Recs w A l) (hl : l.length ≤ 1000) (hs : Sane l) :
    Calls Tryd.prog 10 #[.slice A l.length c] w (Putted l w) := by
  obtain ⟨i0, hi0, hz0, hz1, hz2⟩ := info_parts Tryd.info_u8
  have HC := Lib.hid (contains_any A l c w h (by omega) hs)
  have HR := Lib.hid h
  have HT := Lib.hid hT
  have HF := Lib.hid (fun hf : Fit l => show (if Fit l then tb (allR l) else ⟨#[]⟩) = tb (allR l) ∧ (if Fit l then (0 : Int) else 3) = 0 from ⟨if_pos hf, if_pos hf⟩)
  have HF2 := Lib.hid (fun hf : ¬ Fit l => show (if Fit l then tb (allR l) else ⟨#[]⟩) = ⟨#[]⟩ ∧ (if Fit l then (0 : Int) else 3) = 3 from ⟨if_neg hf, if_neg hf⟩)
  have HEND := Lib.hid (show ∀ e w', e = .returned (.tuple #[.string (if Fit l then tb (allR l) else ⟨#[]⟩), .int .i64 (if Fit l then 0 else 3)]) → Below w.heap.size w w' → Putted l w e w' from fun e w' h1 h2 => ⟨h1, h2⟩)
  obtain ⟨Q, hQ⟩ : ∃ Q, Putted l w = Q := ⟨_, rfl⟩
  rw [hQ] at HEND
  rw [hQ]
  clear hQ h hT
  by_cases hf : Fit l
  · obtain ⟨e1, e2⟩ := HF.out hf
    rw [e1, e2] at HEND
    rw [decide_eq_true hf] at HC
    clear hf HF HF2 e1 e2
    go_enter Tryd.func10, Tryd.ntmps10
    go_wp2_with fail
    refine HC.out.mono ?_
    rintro e w1 ⟨rfl, hb1⟩
    have HG := Lib.hid (Grw.nil hb1)
    clear hb1 HC
    go_wp2_with fail
    go_loopw [4, 11] (fun v i wr => ∃ (k : Nat) (u : Value), k ≤ l.length ∧ u = v ∧ i = .int .i64 k ∧ Grw w (allR (l.take k)) u wr) (fun _ i _ => l.length - (intOf i).toNat)
    case atStart => exact ⟨0, _, by omega, rfl, rfl, HG.out⟩
    case round =>
      obtain ⟨k, v, hk, rfl, rfl, hg⟩ := hrel
      have HGK := Lib.hid hg
      clear HG
      by_cases hlt : k < l.length
      · obtain ⟨g, off, rfl, _, h1, h2⟩ := (HR.out.keeps hg.2).at_ k hlt
        have HA := Lib.hid (allR_take l k hlt)
        have HLE := Lib.hid (show (allR (l.take k)).length ≤ 1000 * 1000013 from Nat.le_trans (allR_le _ (hs.take k)) (Nat.mul_le_mul_right _ (by rw [List.length_take]; omega)))
        have hsz := hs.at_ k hlt
        generalize hx : l[k] = x at *
        clear hx hg
        have HAL := Lib.hid (fun (o : Obj) => HGK.out.keeps ((Below.refl wr.heap.size wr).alloc (Nat.le_refl _) o))
        obtain ⟨o, ho⟩ : ∃ o, wr.alloc (.cells #[.int .u8 (x.k.toNat : Int), .string (tb x.d)] 36) = o := ⟨_, rfl⟩
        have HGO := Lib.hid (show Grw w (allR (l.take k)) v o from ho ▸ HAL.out _)
        have HRO := Lib.hid (show Row o wr.heap.size 36 [.int .u8 (x.k.toNat : Int), .string (tb x.d)] (0, 0) from by rw [← ho]; exact Row.new wr 36 [.int .u8 (x.k.toNat : Int), .string (tb x.d)] (0, 0))
        clear HAL
        have HH := Lib.hid (header_any x o (HT.out.keeps HGO.out.2) hsz)
        unfold recV at HH
        have c0 : o.cell? ⟨wr.heap.size, 0, none⟩ = some (.int .u8 (x.k.toNat : Int)) := by rw [HRO.out.cell]; rfl
        have c1 : o.cell? ⟨wr.heap.size, 1, none⟩ = some (.string (tb x.d)) := by rw [HRO.out.cell]; rfl
        generalize hB : allR (l.take k) = B at *
        go_wp2_with fail
        refine HH.out.mono ?_
        rintro e w2 ⟨gh, rfl, hlh, hrh, hbh⟩
        have HG2 := Lib.hid (HGO.out.keeps hbh)
        have HRH := Lib.hid hrh
        have HLH := Lib.hid hlh
        have HC2 := Lib.hid (HRO.out.below hbh HRO.out.lt)
        have HBS := Lib.hid HG2.out.2.size
        clear hbh hrh hlh HH HGO c0 c1
        go_wp2_with (at_builtin; refine wpList_grw rfl (.tmp 15) (.tmp 17) rfl rfl HG2.out ⟨gh, 0, none⟩ 9 9 rfl HLH.out HRH.out (by have := HLE.out; omega) ?_)
        intro v3 w3 hg3 hf3
        have HG3 := Lib.hid hg3
        have HC3 := Lib.hid (hf3 _ _ _ _ (by decide) HC2.out)
        obtain ⟨wF, cF, hcv, hcF⟩ := conv_tb x.d
        obtain ⟨hrd3, hbc3, hcc3⟩ := hcF w3
        have c1 : w3.cell? ⟨wr.heap.size, 1, none⟩ = some (.string (tb x.d)) := by rw [HC3.out.cell]; rfl
        have HG4 := Lib.hid (hg3.keeps hbc3)
        have HS := Lib.hid (seal_new (some ⟨w3.heap.size, 0, none⟩) x.d (cF w3) (wF w3) (HT.out.keeps HG4.out.2) hrd3 hsz)
        clear hg3 hf3 HG2 HRH HC2 HG3 hcF hrd3 hbc3 hcc3
        go_wp2_with fail
        refine HS.out.mono ?_
        rintro e w5 ⟨gs, rfl, hls, hrs, hbs⟩
        have HG5 := Lib.hid (HG4.out.keeps hbs)
        have HRS := Lib.hid hrs
        have HLS := Lib.hid hls
        clear hbs hrs hls HS HG4 c1
        go_wp2_with (at_builtin; refine wpList_grw rfl (.tmp 19) (.tmp 23) rfl rfl HG5.out ⟨gs, 0, none⟩ (x.d.length + 4) (x.d.length + 4) rfl HLS.out HRS.out (by rw [List.length_append, headR_length]; have := HLE.out; omega) ?_)
        intro v6 w6 hg6 _
        have HG6 := Lib.hid (show Grw w (allR (l.take (k + 1))) v6 w6 from by rw [HA.out, List.append_assoc]; exact hg6)
        clear hg6
        go_wp2
        go_roundw
        case rel => exact ⟨k + 1, _, by omega, rfl, by go_num, HG6.out⟩
        case measure => simp [intOf]; omega
      · obtain rfl : k = l.length := by omega
        rw [List.take_length] at HGK
        obtain ⟨A', c', rfl, hc1, hA1, hrd⟩ := HGK.out.reads
        have hcv := text_n A' (allR l) (allR l).length c' wr rfl hrd
        have HE := Lib.hid (HEND.out _ wr rfl HGK.out.2)
        clear hg hrd hc1 hA1
        go_wp2
        exact HE.out
  · obtain ⟨e1, e2⟩ := HF2.out hf
    rw [e1, e2] at HEND
    rw [decide_eq_false hf] at HC
    clear hf HF HF2 e1 e2
    go_enter Tryd.func10, Tryd.ntmps10
    go_wp2_with fail
    refine HC.out.mono ?_
    rintro e w1 ⟨rfl, hb1⟩
    have HE := Lib.hid (HEND.out _ w1 rfl hb1)
    clear hb1
    go_wp2
    exact HE.out
end Go.Proofs.YtlhcacancnmhcaaDoor
