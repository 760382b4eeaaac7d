/-
  The code's Get: over a reader; what is read is written again.
-/
import Derived.Test.YtbganaaiaokfmaaCelGetB
import Derived.Lib.ConvBytes
namespace Go.Proofs.Ytbganaaiaokfmaa
open Go.RowKit

/-- A text made into bytes, whatever the world. -/
theorem conv_c (s : ByteArray) : ∃ (wF : World → World) (cF : World → Nat), (∀ w, (convert 9 58 (.string s)).run Try.prog w = .ok (.slice (some ⟨w.heap.size, 0, none⟩) s.toList.length (cF w)) (wF w)) ∧
    ∀ w, Reads 5 (wF w) (some ⟨w.heap.size, 0, none⟩) s.toList ∧ Below w.heap.size w (wF w) := by
  refine ⟨fun w => Lib.bytesWorld w 5 s, fun w => grownCap w s.size 0 5, fun w => ?_, fun w => ⟨fun _ => ?_, ⟨rfl, rfl, rfl, ?_, fun k hk => Lib.bytesWorld_at_old w _ _ k hk⟩⟩⟩
  · rw [Lib.run_convert_string_bytes (P := Try.prog) w 9 58 5 s Try.underlying9 Try.underlying58 Try.underlying5, len_size]
  · refine ⟨w.heap.size, 0, (Lib.bytesCells w 5 s).toList, ((Lib.bytesCells w 5 s).size, (Lib.bytesCells w 5 s).size + 1), rfl, ?_, fun j hj => ?_⟩
    · unfold Row
      rw [Array.toArray_toList]
      exact Lib.bytesWorld_at_new w _ _
    · rw [byt_get _ _ hj, Nat.zero_add, Array.getElem?_toList]
      have hj2 : j < s.data.size := by rw [len_size] at hj; exact hj
      have hj3 : j < s.size := hj2
      simp only [Lib.bytesCells, ByteArray.toList_eq]
      simp [Array.getElem?_append, hj3]
  · rw [Lib.bytesWorld_size]; omega

theorem rtext_of {S : Txt} {a a' M : Nat} {t : Txt} (h : rdT S a = some (t, a')) (hM : t.length ≤ M) : rtext (some (S.drop a)) 2 (M : Int) = (t, some (S.drop a')) := by
  unfold rdT at h
  split at h
  · rename_i hx
    simp only [Option.some.injEq, Prod.mk.injEq] at h
    obtain ⟨h1, h2⟩ := h
    have hl : t.length = val ((S.drop a).take 2) := by rw [← h1, List.length_take, List.length_drop]; omega
    have hd : (S.drop a).length = S.length - a := List.length_drop
    have hc : isT 2 = true ∧ (2 : Int) ≤ ((S.drop a).length : Int) ∧ (0 : Int) ≤ (M : Int) ∧ (val ((S.drop a).take (2 : Int).toNat) : Int) ≤ (M : Int) ∧ (2 : Int) + (val ((S.drop a).take (2 : Int).toNat) : Int) ≤ ((S.drop a).length : Int) := by
      rw [show (2 : Int).toNat = 2 from rfl]
      exact ⟨rfl, by omega, by omega, by omega, by omega⟩
    show (if isT 2 = true ∧ (2 : Int) ≤ ((S.drop a).length : Int) ∧ (0 : Int) ≤ (M : Int) ∧ (val ((S.drop a).take (2 : Int).toNat) : Int) ≤ (M : Int) ∧ (2 : Int) + (val ((S.drop a).take (2 : Int).toNat) : Int) ≤ ((S.drop a).length : Int) then _ else _) = _
    rw [if_pos hc, show (2 : Int).toNat = 2 from rfl, List.drop_drop, List.drop_drop, h1, ← h2, Nat.add_assoc]
  · cases h
/-- In the middle of reading, over a reader's bytes. -/
def MidR (S : Txt) (n k : Nat) (L : List Cel) (st : Option (List UInt8)) : Prop := ∀ m, getC S = some m → m.length = n ∧ L = m.take k ∧ st = some (S.drop (2 + 4 * n + sizeC (m.take k)))
theorem MidR.step {S : Txt} {n k : Nat} {L : List Cel} {st : Option (List UInt8)} (h : MidR S n k L st) (hk : k < n) : MidR S n (k + 1) (L ++ [((rtext st 2 513).1, (rtext (rtext st 2 513).2 2 2048).1)]) (rtext (rtext st 2 513).2 2 2048).2 := fun m hm => by
  obtain ⟨h1, h2, h3⟩ := h m hm
  subst h1
  obtain ⟨g1, _, g3⟩ := getC_iff.1 hm
  have hf := g1.2 _ (List.getElem_mem hk)
  unfold fitC at hf
  simp only [Bool.and_eq_true, decide_eq_true_eq] at hf
  obtain ⟨r1, r2⟩ := rd_at g1 hk
  rw [g3] at r1 r2
  have e1 : rtext st 2 513 = (m[k].1, some (S.drop (2 + 4 * m.length + sizeC (m.take k) + 2 + m[k].1.length))) := by rw [h3]; exact rtext_of (M := 513) r1 hf.1
  have e2 := rtext_of (M := 2048) r2 hf.2
  rw [e1]
  refine ⟨rfl, ?_, ?_⟩
  · show L ++ [(m[k].1, (rtext (some (S.drop _)) 2 2048).1)] = _
    rw [show rtext (some (S.drop (2 + 4 * m.length + sizeC (m.take k) + 2 + m[k].1.length))) 2 2048 = _ from e2, h2]
    exact (List.take_succ_eq_append_getElem hk).symm
  · show (rtext (some (S.drop _)) 2 2048).2 = _
    rw [show rtext (some (S.drop (2 + 4 * m.length + sizeC (m.take k) + 2 + m[k].1.length))) 2 2048 = _ from e2]
theorem MidR.start (S : Txt) : MidR S (rnum (some S) 2).1 0 [] (rtake (rnum (some S) 2).2 (((rnum (some S) 2).1 : Int) * 4)).2 := fun m hm => by
  obtain ⟨g1, g2, rfl⟩ := getC_iff.1 hm
  have hl := bytesC_length m
  have hv := (bytesC_read g1 g2).1
  have e1 : rnum (some (bytesC m)) 2 = (m.length, some ((bytesC m).drop 2)) := by
    show (if isW 2 = true ∧ (2 : Int) ≤ ((bytesC m).length : Int) then _ else _) = _
    rw [if_pos ⟨rfl, by omega⟩, show (2 : Int).toNat = 2 from rfl, hv]
  rw [e1]
  refine ⟨rfl, by rw [List.take_zero], ?_⟩
  have hd : ((bytesC m).drop 2).length = (bytesC m).length - 2 := List.length_drop
  show (if 0 ≤ ((m.length : Int) * 4) ∧ ((m.length : Int) * 4) ≤ (((bytesC m).drop 2).length : Int) then _ else _ : List UInt8 × Option (List UInt8)).2 = _
  rw [if_pos ⟨by omega, by omega⟩, List.take_zero]
  show some (((bytesC m).drop 2).drop ((m.length : Int) * 4).toNat) = _
  rw [List.drop_drop, show ((m.length : Int) * 4).toNat = 4 * m.length by omega]
  rfl
theorem MidR.whole {S : Txt} {n k : Nat} {L : List Cel} {st : Option (List UInt8)} (h : MidR S n k L st) (hx : k = n ∨ st = none) : getC S = some L ∨ (getC S = none ∧ ¬ (Rgt L ∧ L.length ≤ 65535 ∧ bytesC L = S)) := by
  cases hg : getC S with
  | some m =>
    obtain ⟨h1, h2, h3⟩ := h m hg
    rcases hx with rfl | rfl
    · rw [List.take_of_length_le (by omega)] at h2
      rw [h2]
      exact .inl rfl
    · cases h3
  | none => exact .inr ⟨rfl, fun hx => by rw [getC_iff.2 hx] at hg; cases hg⟩
theorem rnum_lt (S : Txt) : (rnum (some S) 2).1 < 65536 := by
  show (if isW 2 = true ∧ (2 : Int) ≤ (S.length : Int) then (val (S.take (2 : Int).toNat), some (S.drop (2 : Int).toNat)) else (0, none) : Nat × Option (List UInt8)).1 < 65536
  split
  · exact val2_lt S
  · show 0 < 65536; omega

theorem Rdr.grown_c {w w' : World} {g : Nat} {r : Option Nat} (hb : w.grownBy w' r) (hr : ∀ k t cs m, Row w k t cs m → r = some k → t = 38) : ∀ {st : Option (List UInt8)}, Rdr w g st → Rdr w' g st
  | none, ⟨v, h⟩ => ⟨v, h.grown hb (fun e => absurd (hr _ _ _ _ h e.symm) (by decide))⟩
  | some _, ⟨h, off, c, h1, h2, h3, h4⟩ => ⟨h, off, c, h1, h2, h3.grown hb (fun e => absurd (hr _ _ _ _ h3 e.symm) (by decide)), h4.grown hb (fun k t cs m hk e => by
      have := hr k t cs m hk e
      rw [this]
      decide)⟩
theorem GrC.own_t {w0 w : World} {l : List CB} {v : Value} (h : GrC w0 l v w) : ∀ k t cs m, Row w k t cs m → v.ownBlock = some k → t = 38 := fun k t cs m hr e => by
  rcases h.1.2 with ⟨rfl, _⟩ | ⟨k', cap, cur, rfl, _, hk, _⟩
  · cases e
  · simp only [Value.ownBlock, Option.some.injEq] at e
    subst e
    exact Classical.byContradiction fun hne => Row.ne_ (cs' := cur.toList) hr hk hne rfl
theorem GrC.aside {w0 w w' : World} {l : List CB} {v : Value} {g : Nat} (h : GrC w0 l v w) (hb : w.grownBy w' (some g)) (hg : w0.heap.size ≤ g) {st : Option (List UInt8)} (hr : Rdr w g st) : GrC w0 l v w' := by
  obtain ⟨cs', m', hrow⟩ := hr.row
  refine ⟨⟨h.1.1, ?_⟩, h.2.grown hb h.2.size (fun k hk => by injection hk with hk; omega)⟩
  rcases h.1.2 with h0 | ⟨k, cap, cur, rfl, h1, hk, rest⟩
  · exact .inl h0
  · have hne : k ≠ g := fun e => by subst e; exact absurd rfl (Row.ne_ (cs := cur.toList) hk hrow (by decide))
    exact .inr ⟨k, cap, cur, rfl, h1, Row.grown (cs := cur.toList) hk hb (by simpa using hne), rest⟩
theorem below_aside {w0 w w' : World} {g : Nat} (h : Below w0.heap.size w0 w) (hb : w.grownBy w' (some g)) (hg : w0.heap.size ≤ g) : Below w0.heap.size w0 w' := h.grown hb h.size (fun k hk => by injection hk with hk; omega)
theorem kbad_st {g : Nat} {st : Option (List UInt8)} {w : World} (hr : Rdr w g st) : Calls Try.prog 42 #[.pointer (some ⟨g, 0, none⟩)] w fun e w' => e = .returned (.bool st.isNone) ∧ w = w' := by
  match st, hr with
  | none, ⟨v, h⟩ => exact bad_any g false v w h
  | some l, ⟨h, off, c, _, _, h3, _⟩ => exact bad_any g true _ w h3
def lenV : Value → Nat
  | .slice _ n _ => n
  | _ => 0

set_option maxRecDepth 100000 in
set_option maxHeartbeats 4000000 in
theorem kget_any (s : ByteArray) (w : World) (hs : s.size ≤ 300000000) : Calls Try.prog 26 #[.string s] w (CelsO w ((getC s.toList).map unC)) := by
  have hlen := len_size s
  have HNONE := Lib.hid (fun (h : getC s.toList = none) e w' (h2 : e = .returned (.tuple #[.slice none 0 0, .int .i64 100]) ∧ Below w.heap.size w w') => show CelsO w ((getC s.toList).map unC) e w' by rw [h]; exact h2)
  have HSOME := Lib.hid (fun L (h : getC s.toList = some (cels L)) v' w' (hg : GrC w L v' w') => show CelsO w ((getC s.toList).map unC) (.returned (.tuple #[v', .int .i64 0])) w' by
    rw [h]
    show CelsO w (some (unC (cels L))) _ _
    rw [unC_cels]
    obtain ⟨A', c', rfl, hc, hA⟩ := hg.slot
    exact ⟨A', c', rfl, hg.cels, hc, hA, hg.2⟩)
  obtain ⟨Q, hQ⟩ : ∃ Q, CelsO w ((getC s.toList).map unC) = Q := ⟨_, rfl⟩
  rw [hQ] at HNONE HSOME
  rw [hQ]
  clear hQ
  obtain ⟨wF, cF, hcv, hcF⟩ := conv_c s
  obtain ⟨hrd, hbc⟩ := hcF w
  have HOP := Lib.hid (open_any (some ⟨w.heap.size, 0, none⟩) s.toList (cF w) (wF w) hrd (by omega))
  have HBC := Lib.hid hbc
  have HM := Lib.hid (MidR.start s.toList)
  have hn := rnum_lt s.toList
  obtain ⟨n, hnn⟩ : ∃ n, (rnum (some s.toList) 2).1 = n := ⟨_, rfl⟩
  have HNUM := Lib.hid (fun g wx (hr : Rdr wx g (some s.toList)) => num_any g (some s.toList) 2 wx hr)
  rw [hnn] at HM HNUM hn
  obtain ⟨st1, hst1⟩ : ∃ st1, (rnum (some s.toList) 2).2 = st1 := ⟨_, rfl⟩
  rw [hst1] at HM HNUM
  have HTK := Lib.hid (fun g wx (hr : Rdr wx g st1) => take_any g st1 ((n : Int) * 4) wx hr)
  obtain ⟨st2, hst2⟩ : ∃ st2, (rtake st1 ((n : Int) * 4)).2 = st2 := ⟨_, rfl⟩
  rw [hst2] at HM
  have HTK2 := Lib.hid (show ∀ g wx, Rdr wx g st1 → Calls Try.prog 41 #[.pointer (some ⟨g, 0, none⟩), .int .i64 ((n : Int) * 4)] wx (fun e w' => ∃ A c k, e = .returned (.slice A k c) ∧ Now wx g st2 w') from fun g wx hr => (HTK.out g wx hr).mono fun e w' ⟨A, c, h1, _, h3⟩ => ⟨A, c, _, h1, hst2 ▸ h3⟩)
  have HTXT := Lib.hid (show ∀ (M : Nat) g st wx, M ≤ 1000000 → Rdr wx g st → Calls Try.prog 43 #[.pointer (some ⟨g, 0, none⟩), .int .i64 2, .int .i64 (M : Int)] wx (fun e w' => e = .returned (.string (tx (rtext st 2 (M : Int)).1)) ∧ Now wx g (rtext st 2 (M : Int)).2 w') from fun M g st wx hM hr => text_any g st 2 (M : Int) wx hr (by omega))
  have HTXA := Lib.hid (show ∀ g st wx, Rdr wx g st → Calls Try.prog 43 #[.pointer (some ⟨g, 0, none⟩), .int .i64 2, .int .i64 513] wx (fun e w' => e = .returned (.string (tx (rtext st 2 513).1)) ∧ Now wx g (rtext st 2 513).2 w') from fun g st wx hr => HTXT.out 513 g st wx (by omega) hr)
  have HTXB := Lib.hid (show ∀ g st wx, Rdr wx g st → Calls Try.prog 43 #[.pointer (some ⟨g, 0, none⟩), .int .i64 2, .int .i64 2048] wx (fun e w' => e = .returned (.string (tx (rtext st 2 2048).1)) ∧ Now wx g (rtext st 2 2048).2 w') from fun g st wx hr => HTXT.out 2048 g st wx (by omega) hr)
  have HSTEP := Lib.hid (fun k (L : List CB) st (h : MidR s.toList n k (cels L) st) (hk : k < n) => show MidR s.toList n (k + 1) (cels (L ++ [(tx (rtext st 2 513).1, tx (rtext (rtext st 2 513).2 2 2048).1)])) (rtext (rtext st 2 513).2 2 2048).2 by
    have := h.step hk
    unfold cels at this ⊢
    rw [List.map_append]
    show MidR s.toList n (k + 1) (L.map cel ++ [((tx (rtext st 2 513).1).toList, (tx (rtext (rtext st 2 513).2 2 2048).1).toList)]) _
    rw [tx_list, tx_list]
    exact this)
  have hwn : IntKind.i64.wrap (n : Int) = (n : Int) := IntWalk.i64_in _ (by omega)
  have hwm : IntKind.i64.wrap ((n : Int) * 4) = (n : Int) * 4 := IntWalk.i64_in _ (by omega)
  have hcw := hcv w
  clear hcF hrd hbc hnn hst1 hst2 HTK HTXT hlen hs hcv
  go_enter Try.func26, Try.ntmps26
  go_wp2_with fail
  refine HOP.out.mono ?_
  rintro e w1 ⟨g, rfl, hg1, hr1, hb1⟩
  have HB1 := Lib.hid (HBC.out.trans (hb1.mono HBC.out.size))
  have HGG := Lib.hid (show w.heap.size ≤ g from Nat.le_trans HBC.out.size hg1)
  have HN1 := Lib.hid (HNUM.out g w1 hr1)
  clear hb1 hg1 hr1 HOP HNUM
  go_wp2_with fail
  refine HN1.out.mono ?_
  rintro e w2 ⟨rfl, hg2, hr2⟩
  have HB2 := Lib.hid (below_aside HB1.out hg2 HGG.out)
  have HT2 := Lib.hid (HTK2.out g w2 hr2)
  clear hg2 hr2 HN1 HTK2
  go_wp2_with fail
  refine HT2.out.mono ?_
  rintro e w3 ⟨A3, c3, k3, rfl, hg3, hr3⟩
  have HB3 := Lib.hid (below_aside HB2.out hg3 HGG.out)
  have HR3 := Lib.hid hr3
  clear hg3 hr3 HT2
  go_wp2_with fail
  go_loopw [6] (fun u wr => ∃ (k c : Nat) (A : Option Addr) (L : List CB) (st : Option (List UInt8)), k ≤ n ∧ u = .slice A k c ∧ Hid (L.length = k) ∧ Hid (MidR s.toList n k (cels L) st) ∧ Hid (Rdr wr g st) ∧ Hid (GrC w L (.slice A k c) wr)) (fun u _ => n - lenV u)
  case atStart => exact ⟨0, 0, none, [], st2, Nat.zero_le _, rfl, Lib.hid rfl, HM, HR3, Lib.hid (GrC.nil HB3.out)⟩
  case round =>
    obtain ⟨k, c, A, L, st, hk, rfl, HLk, HMk, HRk, HGk⟩ := hrel
    have HEND := Lib.hid (fun (hx : k = n ∨ st = none) => HMk.out.whole hx)
    have HGG2 := Lib.hid (fun w2 (hb : Below wr.heap.size wr w2) => HGk.out.keeps hb)
    have HCB := Lib.hid (kbytes_any A k c L wr (by have h := HGk.out; have h2 := HLk.out; subst h2; exact h.cels) HLk.out (by omega))
    by_cases hlt : k < n
    · have hkI : (k : Int) < (n : Int) := by omega
      have HBA := Lib.hid (kbad_st HRk.out)
      cases st with
      | none =>
        have HW := Lib.hid (HEND.out (.inr rfl))
        clear HEND HMk HRk hlt hk
        go_wp2_with fail
        refine HBA.out.mono ?_
        rintro e w4 ⟨rfl, rfl⟩
        go_wp2_with fail
        rcases HW.out with hG | ⟨hG, hno⟩
        · rw [bytesV_yes hG, tx_of] at HCB
          have hcmp : (s.toList == s.toList) = true := beq_self_eq_true _
          have HS := Lib.hid (fun w2 (hg : GrC w L (.slice A k c) w2) => HSOME.out L hG _ w2 hg)
          clear HNONE HSOME hG
          refine HCB.out.mono ?_
          rintro e w9 ⟨rfl, hb9⟩
          have HE := Lib.hid (HS.out w9 (HGG2.out w9 hb9))
          clear hb9 HCB
          go_wp2_with fail
          exact HE.out
        · have HN := Lib.hid (HNONE.out hG)
          rcases bytesV_no hno with ⟨x, h1, h2⟩ | ⟨X, h1, h2⟩
          · rw [h1] at HCB
            have hx0 : (x == 0) = false := beq_eq_false_iff_ne.2 h2
            have HX := Lib.hid h2
            clear HNONE HSOME hG hno h1 h2
            refine HCB.out.mono ?_
            rintro e w9 ⟨rfl, hb9⟩
            have HB9 := Lib.hid ((HGG2.out w9 hb9).2)
            clear hb9 HCB
            go_wp2_with fail
            all_goals first | exact HN.out _ _ ⟨rfl, HB9.out⟩ | exact absurd (by assumption) HX.out
          · rw [h1] at HCB
            have hcmp : (X.toList == s.toList) = false := beq_eq_false_iff_ne.2 h2
            clear HNONE HSOME hG hno h1 h2
            refine HCB.out.mono ?_
            rintro e w9 ⟨rfl, hb9⟩
            have HB9 := Lib.hid ((HGG2.out w9 hb9).2)
            clear hb9 HCB
            go_wp2_with fail
            exact HN.out _ _ ⟨rfl, HB9.out⟩
      | some x =>
        have HMN := Lib.hid (HSTEP.out k L (some x) HMk.out hlt)
        have HTA := Lib.hid (HTXA.out g (some x) wr HRk.out)
        obtain ⟨T1, hT1⟩ : ∃ T1, tx (rtext (some x) 2 513).1 = T1 := ⟨_, rfl⟩
        obtain ⟨sa, hsa⟩ : ∃ sa, (rtext (some x) 2 513).2 = sa := ⟨_, rfl⟩
        rw [hT1, hsa] at HMN HTA
        obtain ⟨T2, hT2⟩ : ∃ T2, tx (rtext sa 2 2048).1 = T2 := ⟨_, rfl⟩
        obtain ⟨sb, hsb⟩ : ∃ sb, (rtext sa 2 2048).2 = sb := ⟨_, rfl⟩
        have HTB := Lib.hid (fun wx (hr : Rdr wx g sa) => HTXB.out g sa wx hr)
        rw [hT2, hsb] at HMN HTB
        clear HEND HMk hT1 hsa hT2 hsb HTXA HCB HSTEP HGG2
        go_wp2_with fail
        refine HBA.out.mono ?_
        rintro e w4 ⟨rfl, rfl⟩
        go_wp2_with fail
        refine HTA.out.mono ?_
        rintro e w5 ⟨rfl, hg5, hr5⟩
        have HG5 := Lib.hid (HGk.out.aside hg5 HGG.out HRk.out)
        have HR5 := Lib.hid hr5
        have HT5 := Lib.hid (HTB.out w5 hr5)
        clear hg5 hr5 HTA HTB
        go_wp2_with fail
        refine HT5.out.mono ?_
        rintro e w6 ⟨rfl, hg6, hr6⟩
        have HG6 := Lib.hid ((HG5.out.aside hg6 HGG.out HR5.out).alloc (.cells #[.string T1, .string T2] 38))
        have HNEW := Lib.hid (new_cel w6 38 (T1, T2))
        have HR6 := Lib.hid (hr6.below (show Below w6.heap.size w6 (w6.alloc (.cells #[.string T1, .string T2] 38)) from (Below.refl _ _).alloc (Nat.le_refl _) _))
        have HLL := Lib.hid (show L.length ≤ 1000000 by have := HLk.out; omega)
        clear hg6 hr6 HT5
        go_wp2_with (at_builtin; refine wpList_cel (T1, T2) rfl (.tmp 31) (.tmp 36) rfl rfl HG6.out ⟨w6.heap.size, 0, none⟩ 1 rfl HNEW.out HLL.out ?_)
        intro v7 w7 hg7 hgr7
        obtain ⟨A7, c7, h7, -, -⟩ := hg7.slot
        have hl7 : (L ++ [(T1, T2)]).length = k + 1 := by rw [List.length_append, HLk.out]; rfl
        rw [hl7] at h7
        subst h7
        have HG7 := Lib.hid hg7
        have HL7 := Lib.hid hl7
        have HR7 := Lib.hid (Rdr.grown_c hgr7 HG6.out.own_t HR6.out)
        clear hg7 hl7 hgr7
        go_wp2_with fail
        go_roundw
        case rel => exact ⟨k + 1, c7, A7, L ++ [(T1, T2)], sb, by omega, rfl, HL7, HMN, HR7, HG7⟩
        case measure => simp [lenV]; omega
    · have hkI : ¬ (k : Int) < (n : Int) := by omega
      have HW := Lib.hid (HEND.out (.inl (by omega)))
      clear HEND HMk HRk hlt hk
      go_wp2_with fail
      rcases HW.out with hG | ⟨hG, hno⟩
      · rw [bytesV_yes hG, tx_of] at HCB
        have hcmp : (s.toList == s.toList) = true := beq_self_eq_true _
        have HS := Lib.hid (fun w2 (hg : GrC w L (.slice A k c) w2) => HSOME.out L hG _ w2 hg)
        clear HNONE HSOME hG
        refine HCB.out.mono ?_
        rintro e w9 ⟨rfl, hb9⟩
        have HE := Lib.hid (HS.out w9 (HGG2.out w9 hb9))
        clear hb9 HCB
        go_wp2_with fail
        exact HE.out
      · have HN := Lib.hid (HNONE.out hG)
        rcases bytesV_no hno with ⟨x, h1, h2⟩ | ⟨X, h1, h2⟩
        · rw [h1] at HCB
          have hx0 : (x == 0) = false := beq_eq_false_iff_ne.2 h2
          have HX := Lib.hid h2
          clear HNONE HSOME hG hno h1 h2
          refine HCB.out.mono ?_
          rintro e w9 ⟨rfl, hb9⟩
          have HB9 := Lib.hid ((HGG2.out w9 hb9).2)
          clear hb9 HCB
          go_wp2_with fail
          all_goals first | exact HN.out _ _ ⟨rfl, HB9.out⟩ | exact absurd (by assumption) HX.out
        · rw [h1] at HCB
          have hcmp : (X.toList == s.toList) = false := beq_eq_false_iff_ne.2 h2
          clear HNONE HSOME hG hno h1 h2
          refine HCB.out.mono ?_
          rintro e w9 ⟨rfl, hb9⟩
          have HB9 := Lib.hid ((HGG2.out w9 hb9).2)
          clear hb9 HCB
          go_wp2_with fail
          exact HN.out _ _ ⟨rfl, HB9.out⟩
end Go.Proofs.Ytbganaaiaokfmaa
