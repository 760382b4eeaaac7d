/-
  The walk over the statement RecordTurns.
-/
import Derived.Test.YtlhcacancnmhcaaDoorRecCut
namespace Go.Proofs.YtlhcacancnmhcaaDoor
open Go.RowKit

set_option maxRecDepth 100000 in
set_option maxHeartbeats 1000000 in
theorem turns_great (A : Option Addr) (l : List Rec) (c wh a bt : Nat) (w : World) (hT : Tab w) (h : Recs w A l) (hg : ¬ Tiny l ∨ l.length = 0 ∨ bt = 0) :
    Calls Tryd.prog 6 #[.agg #[.slice A l.length c, .int .u8 (wh : Int), .int .u16 (a : Int), .int .u32 (bt : Int)]] w fun e w' => e = .returned (.bool true) ∧ Below w.heap.size w w' := by
  have HG := Lib.hid (fun wx (hbx : Below w.heap.size w wx) => show Calls Tryd.prog 8 #[.slice A l.length c] wx fun e w' => e = .returned (.bool (!decide (Tiny l))) ∧ Below w.heap.size w w' from (great_any A l c wx (h.keeps hbx)).mono fun _ _ ⟨h1, h2⟩ => ⟨h1, hbx.trans (h2.mono hbx.size)⟩)
  have HH := Lib.hid (fun wx (hbx : Below w.heap.size w wx) => show Calls Tryd.prog 9 #[] wx fun e w' => e = .returned (.bool true) ∧ Below w.heap.size w w' from (head_any wx (hT.keeps hbx)).mono fun _ _ ⟨h1, h2⟩ => ⟨h1, hbx.trans (h2.mono hbx.size)⟩)
  have HB0 := Lib.hid (show ∀ n, Below w.heap.size w ((w.alloc (.cells #[.slice A l.length c, .int .u8 (wh : Int), .int .u16 (a : Int), .int .u32 (bt : Int)] 46)).drewN n) from fun n => below_draw ((Below.refl _ _).alloc (Nat.le_refl _) _) n)
  clear hT h
  by_cases hl : Tiny l
  · rw [decide_eq_true hl] at HG
    by_cases h3 : l.length = 0
    · rw [h3] at HG HB0 ⊢
      clear hg hl h3
      go_enter Tryd.func6, Tryd.ntmps6
      go_wp2_with (go_quiet (fail))
      refine (HG.out _ (HB0.out _)).mono ?_
      rintro e w1 ⟨rfl, hb1⟩
      have HB1 := Lib.hid hb1
      clear hb1
      go_wp2_with fail
      refine (HH.out w1 HB1.out).mono ?_
      rintro e wz ⟨rfl, hbz⟩
      have HBZ := Lib.hid hbz
      clear hbz
      go_wp2
      go_ret
      exact ⟨rfl, HBZ.out⟩
    · have h5 : bt = 0 := (hg.resolve_left (fun x => x hl)).resolve_left h3
      subst h5
      clear hg hl
      generalize l.length = n at *
      have h4 : ¬ (n : Int) = 0 := by omega
      have h4' : ((n : Int) == 0) = false := beq_eq_false_iff_ne.2 h4
      clear h3
      go_enter Tryd.func6, Tryd.ntmps6
      go_wp2_with (go_quiet (fail))
      refine (HG.out _ (HB0.out _)).mono ?_
      rintro e w1 ⟨rfl, hb1⟩
      have HB1 := Lib.hid hb1
      clear hb1
      go_wp2_with fail
      refine (HH.out w1 HB1.out).mono ?_
      rintro e wz ⟨rfl, hbz⟩
      have HBZ := Lib.hid hbz
      clear hbz
      go_wp2
      go_ret
      exact ⟨rfl, HBZ.out⟩
  · rw [decide_eq_false hl] at HG
    clear hg hl
    go_enter Tryd.func6, Tryd.ntmps6
    go_wp2_with (go_quiet (fail))
    refine (HG.out _ (HB0.out _)).mono ?_
    rintro e w1 ⟨rfl, hb1⟩
    have HB1 := Lib.hid hb1
    clear hb1
    go_wp2_with fail
    refine (HH.out w1 HB1.out).mono ?_
    rintro e wz ⟨rfl, hbz⟩
    have HBZ := Lib.hid hbz
    clear hbz
    go_wp2
    go_ret
    exact ⟨rfl, HBZ.out⟩

theorem turn_byte (c : UInt8) (j : Nat) : Go.bits .xor .u8 (c.toNat : Int) (2 ^ j % 256) = ((c ^^^ UInt8.ofNat (2 ^ j)).toNat : Int) := by
  have e : ((2 : Int) ^ j % 256) = ((2 ^ j % 256 : Nat) : Int) := by simp
  rw [e, u8_xor_nat _ _ c.toNat_lt (Nat.mod_lt _ (by omega)), UInt8.toNat_xor, UInt8.toNat_ofNat']

theorem frozen_below {w : World} {g : Nat} {T : TypeId} {cs : List Value} {m : Nat × Nat} (h : Row w g T cs m) {i : Nat} (hi : i < m.1) : w.frozen? ⟨g, i, none⟩ = false := by
  unfold Row at h
  unfold World.frozen?
  simp only [h]
  obtain ⟨lo, hi2⟩ := m
  have : ¬ lo ≤ i := by simp only at hi; omega
  simp [this]

/-- Bytes of the call's own, that are turned bit by bit. -/
def TB (w : World) (g M : Nat) (L : List UInt8) (wr : World) : Prop :=
  ∃ (cur : List Value) (m : Nat × Nat), Row wr g 5 cur m ∧ M ≤ m.1 ∧ (∀ j, j < M → cur[j]? = (byt L)[j]?) ∧ L.length = M ∧ w.heap.size ≤ g ∧ Below w.heap.size w wr
section
variable {w wr w' : World} {g M : Nat} {L : List UInt8}
theorem TB.cell (h : TB w g M L wr) {p : Nat} (hp : p < 8 * M) : wr.cell? ⟨g, p / 8, none⟩ = some (.int .u8 ((L.getD (p / 8) 0).toNat : Int)) ∧ wr.frozen? ⟨g, p / 8, none⟩ = false := by
  obtain ⟨cur, m, hr, hm, hc, hl, _, _⟩ := h
  have hk : p / 8 < M := by omega
  refine ⟨?_, frozen_below hr (by omega)⟩
  rw [hr.cell, hc _ hk, byt_get L _ (by omega)]
  simp [List.getD, List.getElem?_eq_getElem (show p / 8 < L.length by omega)]
theorem TB.turn (h : TB w g M L wr) {p : Nat} (hp : p < 8 * M) : TB w g M (flipL L p) (wr.setCell ⟨g, p / 8, none⟩ (.int .u8 (Go.bits .xor .u8 ((L.getD (p / 8) 0).toNat : Int) (2 ^ (p % 8) % 256)))) := by
  obtain ⟨cur, m, hr, hm, hc, hl, hg, hb⟩ := h
  have hk8 : p / 8 < L.length := by omega
  refine ⟨_, m, hr.put (p / 8) _, hm, fun j hj => ?_, by rw [flipL_length]; exact hl, hg, hb.setCell hg _⟩
  rw [byt_get _ _ (by rw [flipL_length]; omega), List.getElem?_set, turn_byte]
  have hlen : p / 8 < cur.length := by
    have := hc _ (by omega : p / 8 < M)
    rw [byt_get L _ hk8] at this
    exact (List.getElem?_eq_some_iff.1 this).1
  by_cases hjk : p / 8 = j
  · subst hjk
    rw [if_pos rfl, if_pos hlen]
    simp [flipL, List.getD, List.getElem?_eq_getElem hk8]
  · rw [if_neg hjk, hc j hj, byt_get L j (by omega)]
    simp [flipL, hjk]
theorem TB.reads (h : TB w g M L wr) : Reads 5 wr (some ⟨g, 0, none⟩) L := by
  obtain ⟨cur, m, hr, hm, hc, hl, hg, hb⟩ := h
  exact fun _ => ⟨g, 0, cur, m, rfl, hr, fun j hj => by rw [Nat.zero_add]; exact hc j (by omega)⟩
theorem TB.below (h : TB w g M L wr) : Below w.heap.size w wr := by
  obtain ⟨cur, m, hr, hm, hc, hl, hg, hb⟩ := h
  exact hb
theorem TB.conv (w1 : World) (hb : Below w.heap.size w w1) (L : List UInt8) : TB w w1.heap.size L.length L (Lib.bytesWorld w1 5 (tb L)) := by
  refine ⟨(Lib.bytesCells w1 5 (tb L)).toList, ((Lib.bytesCells w1 5 (tb L)).size, (Lib.bytesCells w1 5 (tb L)).size + 1), ?_, ?_, fun j hj => ?_, rfl, hb.size, ?_⟩
  · unfold Row
    rw [Array.toArray_toList]
    exact Lib.bytesWorld_at_new w1 _ _
  · simp only [Lib.bytesCells, Array.size_append, Array.size_map]
    have : (tb L).data.size = L.length := tb_size L
    omega
  · rw [byt_get _ _ hj, Array.getElem?_toList]
    simp [Lib.bytesCells, tb, Array.getElem?_append, hj]
  · have h2 : Below w1.heap.size w1 (Lib.bytesWorld w1 5 (tb L)) := ⟨rfl, rfl, rfl, by rw [Lib.bytesWorld_size]; omega, fun k hk => Lib.bytesWorld_at_old w1 _ _ k hk⟩
    exact hb.trans (h2.mono hb.size)
end

set_option maxRecDepth 100000 in
set_option maxHeartbeats 2000000 in
theorem turns_small (A : Option Addr) (l : List Rec) (c wh a bt : Nat) (w : World) (hT : Tab w) (h : Recs w A l) (hlc : l.length ≤ c) (hwh : wh < 256) (ha : a < 65536) (hbt : bt < 4294967296) (hl : Tiny l) (hne : l.length ≠ 0) (hb0 : bt ≠ 0) :
    Calls Tryd.prog 6 #[.agg #[.slice A l.length c, .int .u8 (wh : Int), .int .u16 (a : Int), .int .u32 (bt : Int)]] w fun e w' => e = .returned (.bool true) ∧ Below w.heap.size w w' := by
  have HG := Lib.hid (fun wx (hbx : Below w.heap.size w wx) => show Calls Tryd.prog 8 #[.slice A l.length c] wx fun e w' => e = .returned (.bool (!decide (Tiny l))) ∧ Below w.heap.size w w' from (great_any A l c wx (h.keeps hbx)).mono fun _ _ ⟨h1, h2⟩ => ⟨h1, hbx.trans (h2.mono hbx.size)⟩)
  rw [decide_eq_true hl] at HG
  have HH := Lib.hid (fun wx (hbx : Below w.heap.size w wx) => show Calls Tryd.prog 9 #[] wx fun e w' => e = .returned (.bool true) ∧ Below w.heap.size w w' from (head_any wx (hT.keeps hbx)).mono fun _ _ ⟨h1, h2⟩ => ⟨h1, hbx.trans (h2.mono hbx.size)⟩)
  have HB0 := Lib.hid (show ∀ n, Below w.heap.size w ((w.alloc (.cells #[.slice A l.length c, .int .u8 (wh : Int), .int .u16 (a : Int), .int .u32 (bt : Int)] 46)).drewN n) from fun n => below_draw ((Below.refl _ _).alloc (Nat.le_refl _) _) n)
  have hl12 := hl.1
  have hll := hl.le
  have HT := Lib.hid hT
  have HA := Lib.hid h
  have hPut := fun (B : Option Addr) (m : List Rec) (n d : Nat) (hn : m.length = n) (hm : Small m) (hm12 : m.length ≤ 1000) => (show ∀ wx, Below w.heap.size w wx → Recs wx B m → Calls Tryd.prog 10 #[.slice B n d] wx fun e w' => e = .returned (.tuple #[.string (tb (allR m)), .int .i64 0]) ∧ Below w.heap.size w w' from fun wx hbx hr => by
    subst hn
    exact (put_tiny B m d wx (hT.keeps hbx) hr hm hm12).mono fun _ _ ⟨h1, h2⟩ => ⟨h1, hbx.trans (h2.mono hbx.size)⟩)
  obtain ⟨k, hk⟩ : ∃ k, wh % l.length = k := ⟨_, rfl⟩
  have hkl : k < l.length := by rw [← hk]; exact Nat.mod_lt _ (by omega)
  have hkI : (wh : Int) % (l.length : Int) = (k : Int) := by rw [← hk]; simp
  obtain ⟨r, hr⟩ : ∃ r, l[k] = r := ⟨_, rfl⟩
  have hsr : r.d.length ≤ 200 := hl.2 r (hr ▸ List.getElem_mem hkl)
  have hd1 : (l.drop k).take 1 = [r] := by rw [List.drop_eq_getElem_cons hkl, hr]; rfl
  have hone : allR [r] = one r := by rw [allR_cons, allR_nil, List.append_nil]
  have hsm : ∀ m : List Rec, (∀ x ∈ m, x ∈ l) → Small m := fun m hm x hx => hl.small x (hm x hx)
  have htl : (l.take k).length = k := by rw [List.length_take]; omega
  obtain ⟨R, hR⟩ : ∃ R, l.length - (k + 1) = R := ⟨_, rfl⟩
  have hdl : (l.drop (k + 1)).length = R := by rw [List.length_drop, hR]
  have HPa := Lib.hid (hPut A (l.take k) k c htl (hsm _ fun x hx => List.mem_of_mem_take hx) (by omega))
  have HPo := Lib.hid (fun d => hPut (A.map (·.add (k * 2))) [r] 1 d rfl (hsm _ fun x hx => by rw [List.mem_singleton] at hx; rw [hx, ← hr]; exact List.getElem_mem hkl) (by simp))
  simp only [hone] at HPo
  have HPr := Lib.hid (fun B d => hPut B (l.drop (k + 1)) R d hdl (hsm _ fun x hx => List.mem_of_mem_drop hx) (by omega))
  have HR1 := Lib.hid (show ∀ wx, Below w.heap.size w wx → Recs wx A (l.take k) from fun wx hb => (h.keeps hb).take k)
  have HR2 := Lib.hid (show ∀ wx, Below w.heap.size w wx → Recs wx (A.map (·.add (k * 2))) [r] from fun wx hb => by
    have := ((h.keeps hb).drop k c hlc).take 1
    rwa [hd1, if_neg (by omega)] at this)
  have HR3 := Lib.hid (show ∀ wx, Below w.heap.size w wx → Recs wx (if c = k + 1 then A else A.map (·.add ((k + 1) * 2))) (l.drop (k + 1)) from fun wx hb => (h.keeps hb).drop (k + 1) c hlc)
  have hol := one_length r
  have zo : (tb (one r)).size = (one r).length := tb_size _
  obtain ⟨M, hM⟩ : ∃ M, (one r).length = M := ⟨_, rfl⟩
  have hM13 : 13 ≤ M := by omega
  have hM213 : M ≤ 213 := by omega
  obtain ⟨f, hf⟩ : ∃ f, a % (8 * M - 31) = f := ⟨_, rfl⟩
  have hfl : f < 8 * M - 31 := by rw [← hf]; exact Nat.mod_lt _ (by omega)
  have hfI : (a : Int) % (8 * (M : Int) - 31) = (f : Int) := by
    rw [← hf, show 8 * (M : Int) - 31 = ((8 * M - 31 : Nat) : Int) by omega]; simp
  have w8 : IntKind.i64.wrap (8 * (M : Int)) = 8 * (M : Int) := IntWalk.i64_in _ (by omega)
  have w9 : IntKind.i64.wrap (8 * (M : Int) - 31) = 8 * (M : Int) - 31 := IntWalk.i64_in _ (by omega)
  have n9 : ¬ 8 * (M : Int) - 31 = 0 := by omega
  have n9' : (8 * (M : Int) - 31 == 0) = false := beq_eq_false_iff_ne.2 n9
  have wf : IntKind.i64.wrap (f : Int) = (f : Int) := IntWalk.i64_in _ (by omega)
  have wa : IntKind.i64.wrap (a : Int) = (a : Int) := IntWalk.i64_in _ (by omega)
  have ww : IntKind.i64.wrap (wh : Int) = (wh : Int) := IntWalk.i64_in _ (by omega)
  have wk : IntKind.i64.wrap (k : Int) = (k : Int) := IntWalk.i64_in _ (by omega)
  have wk1 : IntKind.i64.wrap ((k : Int) + 1) = ((k + 1 : Nat) : Int) := (IntWalk.i64_in _ (by omega)).trans (by simp)
  have nl : ¬ (l.length : Int) = 0 := by omega
  have nb : ¬ (bt : Int) = 0 := by omega
  have nb' : ((bt : Int) == 0) = false := beq_eq_false_iff_ne.2 nb
  have nl' : ((l.length : Int) == 0) = false := beq_eq_false_iff_ne.2 nl
  have nM : ¬ (M : Int) < 13 := by omega
  have nck : ¬ c = k := by omega
  have hkc : (k : Int) ≤ (c : Int) := by omega
  have hkc1 : ((k + 1 : Nat) : Int) ≤ (c : Int) := by omega
  have hkn1 : ((k + 1 : Nat) : Int) ≤ (l.length : Int) := by omega
  have hXl := tb_app (allR (l.take k)) (turns bt f 32 (one r))
  have hXr := tb_app (allR (l.take k) ++ turns bt f 32 (one r)) (allR (l.drop (k + 1)))
  have hall : allR l = allR (l.take k) ++ (one r ++ allR (l.drop (k + 1))) := by
    have e : l = l.take k ++ ([r] ++ l.drop (k + 1)) := by
      rw [← hr, List.singleton_append, ← List.drop_eq_getElem_cons hkl, List.take_append_drop]
    conv => lhs; rw [e]
    rw [allR_append, allR_append, hone]
  have hlen := congrArg List.length hall
  simp only [List.length_append] at hlen
  have htlen := turns_length bt f (one r) 32
  have HSC := Lib.hid (fun wx (hbx : Below w.heap.size w wx) => show Calls Tryd.prog 12 #[.string (tb ((allR (l.take k) ++ turns bt f 32 (one r)) ++ allR (l.drop (k + 1))))] wx fun e w' => ∃ A c, e = .returned (.tuple #[.slice A k c, .int .i64 ((allR (l.take k)).length : Int), .int .u8 2]) ∧ Recs w' A (l.take k) ∧ Below w.heap.size w w' from by
    have h1 := scan_turned (l.take k) (fun x hx => hl.small.fit x (List.mem_of_mem_take hx)) r (by omega) bt f (by omega) hbt hb0 (allR (l.drop (k + 1)))
    have h2 := scan_any ((allR (l.take k) ++ turns bt f 32 (one r)) ++ allR (l.drop (k + 1))) wx (hT.keeps hbx) (by simp only [List.length_append]; omega)
    rw [List.append_assoc, h1] at h2
    rw [List.append_assoc]
    exact h2.mono fun e w' ⟨A, c, h1, _, _, h4, h5⟩ => ⟨A, c, by rw [h1, htl]; rfl, h4, hbx.trans (h5.mono hbx.size)⟩)
  have HSM := Lib.hid (fun wx A9 c9 (hbw : Below w.heap.size w wx) (hr : Recs wx A9 (l.take k)) => show Calls Tryd.prog 14 #[.slice A9 k c9, .slice A k c] wx fun e w' => e = .returned (.bool true) ∧ Below w.heap.size w w' from by
    have := rsame_any A9 A (l.take k) (l.take k) c9 c wx hr ((HA.out.keeps hbw).take k) (by omega)
    rw [decide_eq_true rfl, htl] at this
    exact this.mono fun _ _ ⟨h1, h2⟩ => ⟨h1, hbw.trans (h2.mono hbw.size)⟩)
  have za : (tb (allR (l.take k))).size = (allR (l.take k)).length := tb_size _
  have zr : (tb (allR (l.drop (k + 1)))).size = (allR (l.drop (k + 1))).length := tb_size _
  have zt : (tb (turns bt f 32 (one r))).size = M := by rw [tb_size, htlen, hM]
  have zx : (tb (allR (l.take k) ++ turns bt f 32 (one r))).size = (allR (l.take k)).length + M := by rw [tb_size, List.length_append, htlen, hM]
  have hcv := fun (w1 : World) => Lib.run_convert_string_bytes (P := Tryd.prog) w1 9 47 5 (tb (one r)) Tryd.underlying9 Tryd.underlying47 Tryd.underlying5
  have HTB := Lib.hid (fun (w1 : World) (hb : Below w.heap.size w w1) => TB.conv w1 hb (one r))
  have HTT := Lib.hid (fun (g cp : Nat) (wx : World) (hx : TB w g M (turns bt f 32 (one r)) wx) => show (convert 47 9 (.slice (some ⟨g, 0, none⟩) M cp)).run Tryd.prog wx = .ok (.string (tb (turns bt f 32 (one r)))) wx from text_n (some ⟨g, 0, none⟩) (turns bt f 32 (one r)) M cp wx (by rw [htlen, hM]) hx.reads)
  have hTS := fun (j : Nat) => (show turns bt f (j + 1) (one r) = if bt / 2 ^ j % 2 = 1 then flipL (turns bt f j (one r)) (f + j) else turns bt f j (one r) from rfl)
  have HT0 := Lib.hid (show turns bt f 0 (one r) = one r from rfl)
  rw [hM] at HTB zo hlen
  rw [zo] at hcv
  generalize hla : (allR (l.take k)).length = la at *
  generalize hlr : (allR (l.drop (k + 1))).length = lr at *
  have q1 : ¬ 9223372036854775807 < la + M := by omega
  have q2 : ¬ 9223372036854775807 < la + M + lr := by omega
  generalize hgT : turns bt f 32 (one r) = T32 at *
  have HTS := Lib.hid hTS
  have HGT := Lib.hid hgT
  generalize tb ((allR (l.take k) ++ T32) ++ allR (l.drop (k + 1))) = X3 at *
  generalize tb (allR (l.take k) ++ T32) = X2 at *
  generalize tb T32 = X1 at *
  generalize tb (allR (l.take k)) = Sa at *
  generalize tb (allR (l.drop (k + 1))) = Sr at *
  generalize tb (one r) = So at *
  generalize hW : (fun w1 : World => Lib.bytesWorld w1 5 So) = wF at *
  have HW := Lib.hid (show ∀ w1, Lib.bytesWorld w1 5 So = wF w1 from fun w1 => by rw [← hW])
  simp only [HW.out] at hcv HTB
  clear hW
  clear hT h hl hk hr hsr hd1 hone hsm hdl hPut hol hM hf hall hlen htlen hTS hgT hla hlr hb0 hne htl hbt
  generalize l.length = N at *
  by_cases hck : c = k + 1
  · have HR4 := Lib.hid (show ∀ wx, Below w.heap.size w wx → Recs wx A (l.drop (k + 1)) from fun wx hb => by have := HR3.out wx hb; rwa [if_pos hck] at this)
    subst hck
    go_enter Tryd.func6, Tryd.ntmps6
    go_wp2_with (go_quiet (fail))
    refine (HG.out _ (HB0.out _)).mono ?_
    rintro e w1 ⟨rfl, hb1⟩
    have HB1 := Lib.hid hb1
    clear hb1 HG HB0
    go_wp2_with fail
    refine (HPa.out w1 HB1.out (HR1.out w1 HB1.out)).mono ?_
    rintro e w2 ⟨rfl, hb2⟩
    have HB2 := Lib.hid hb2
    clear hb2 HPa
    go_wp2_with fail
    with_reducible refine (HPo.out 1 w2 HB2.out (HR2.out w2 HB2.out)).mono ?_
    rintro e w3 ⟨rfl, hb3⟩
    have HB3 := Lib.hid hb3
    clear hb3 HPo HR2
    go_wp2_with fail
    with_reducible refine (HPr.out A 0 w3 HB3.out (HR4.out w3 HB3.out)).mono ?_
    rintro e w4 ⟨rfl, hb4⟩
    have HB4 := Lib.hid hb4
    have HT4 := Lib.hid (HTB.out w4 hb4)
    clear hb4 HPr HTB HR3
    go_wp2_with fail
    generalize hcap : grownCap w4 M 0 5 = cp at *
    generalize hw5 : wF w4 = w5 at *
    go_loopw [16] (fun i wr => ∃ j : Nat, j ≤ 32 ∧ i = .int .i64 j ∧ TB w w4.heap.size M (turns bt f j (one r)) wr) (fun i _ => 32 - (intOf i).toNat)
    case atStart => exact ⟨0, by omega, rfl, HT4.out⟩
    case round =>
      obtain ⟨j, hj, rfl, ht⟩ := hrel
      have HTJ := Lib.hid ht
      have HTSJ := Lib.hid (HTS.out j)
      clear HT4 ht
      by_cases hlt : j < 32
      · obtain ⟨p, hp⟩ : ∃ p, f + j = p := ⟨_, rfl⟩
        have hpI : (f : Int) + (j : Int) = (p : Int) := by omega
        have hp8 : p < 8 * M := by omega
        have wp : IntKind.i64.wrap (p : Int) = (p : Int) := IntWalk.i64_in _ (by omega)
        have hjI : (j : Int) < 32 := by omega
        have hq : ((bt : Int) / 2 ^ j).tmod 2 = ((bt / 2 ^ j % 2 : Nat) : Int) := by
          rw [show (bt : Int) / 2 ^ j = ((bt / 2 ^ j : Nat) : Int) by simp]; rfl
        by_cases hbit : bt / 2 ^ j % 2 = 1
        · have hb1 : (((bt : Int) / 2 ^ j).tmod 2 == 1) = true := by rw [hq, hbit]; rfl
          have HTN := Lib.hid (show TB w w4.heap.size M (turns bt f (j + 1) (one r)) (wr.setCell ⟨w4.heap.size, p / 8, none⟩ (.int .u8 (Go.bits .xor .u8 (((turns bt f j (one r)).getD (p / 8) 0).toNat : Int) (2 ^ (p % 8) % 256)))) from by
            rw [HTSJ.out, if_pos hbit, hp]
            exact HTJ.out.turn hp8)
          obtain ⟨hcell, hfree⟩ := HTJ.out.cell hp8
          generalize ((turns bt f j (one r)).getD (p / 8) 0).toNat = cb at *
          clear hq hbit hp
          go_wp2
          go_roundw
          case rel => exact ⟨j + 1, by omega, by go_num, HTN.out⟩
          case measure => simp [intOf]; omega
        · have hb1 : (((bt : Int) / 2 ^ j).tmod 2 == 1) = false := by rw [hq]; exact beq_eq_false_iff_ne.2 (by omega)
          have HTN := Lib.hid (show TB w w4.heap.size M (turns bt f (j + 1) (one r)) wr from by
            rw [HTSJ.out, if_neg hbit]
            exact HTJ.out)
          clear hq hbit hp
          go_wp2
          go_roundw
          case rel => exact ⟨j + 1, by omega, by go_num, HTN.out⟩
          case measure => simp [intOf]; omega
      · obtain rfl : j = 32 := by omega
        have HTE := Lib.hid (show TB w w4.heap.size M T32 wr from by rw [← HGT.out]; exact HTJ.out)
        have hct := HTT.out w4.heap.size cp wr HTE.out
        have HB5 := Lib.hid (show Below w.heap.size w wr from HTE.out.below)
        clear HTSJ HTJ HTE HTT HTS HGT
        go_wp2_with fail
        refine (HSC.out wr HB5.out).mono ?_
        rintro e w6 ⟨A6, c6, rfl, hr6, hb6⟩
        have HB6 := Lib.hid hb6
        have HR6 := Lib.hid hr6
        clear hb6 hr6 HSC
        go_wp2_with fail
        refine (HSM.out w6 A6 c6 HB6.out HR6.out).mono ?_
        rintro e w7 ⟨rfl, hb7⟩
        have HB7 := Lib.hid hb7
        clear hb7 HSM
        go_wp2_with fail
        refine (HH.out w7 HB7.out).mono ?_
        rintro e wz ⟨rfl, hbz⟩
        have HBZ := Lib.hid hbz
        clear hbz
        go_wp2
        go_ret
        exact ⟨rfl, HBZ.out⟩
  · have HR4 := Lib.hid (show ∀ wx, Below w.heap.size w wx → Recs wx (A.map (·.add ((k + 1) * 2))) (l.drop (k + 1)) from fun wx hb => by have := HR3.out wx hb; rwa [if_neg hck] at this)
    go_enter Tryd.func6, Tryd.ntmps6
    go_wp2_with (go_quiet (fail))
    refine (HG.out _ (HB0.out _)).mono ?_
    rintro e w1 ⟨rfl, hb1⟩
    have HB1 := Lib.hid hb1
    clear hb1 HG HB0
    go_wp2_with fail
    refine (HPa.out w1 HB1.out (HR1.out w1 HB1.out)).mono ?_
    rintro e w2 ⟨rfl, hb2⟩
    have HB2 := Lib.hid hb2
    clear hb2 HPa
    go_wp2_with fail
    with_reducible refine (HPo.out (c - k) w2 HB2.out (HR2.out w2 HB2.out)).mono ?_
    rintro e w3 ⟨rfl, hb3⟩
    have HB3 := Lib.hid hb3
    clear hb3 HPo HR2
    go_wp2_with fail
    with_reducible refine (HPr.out (A.map (·.add ((k + 1) * 2))) (c - (k + 1)) w3 HB3.out (HR4.out w3 HB3.out)).mono ?_
    rintro e w4 ⟨rfl, hb4⟩
    have HB4 := Lib.hid hb4
    have HT4 := Lib.hid (HTB.out w4 hb4)
    clear hb4 HPr HTB HR3
    go_wp2_with fail
    generalize hcap : grownCap w4 M 0 5 = cp at *
    generalize hw5 : wF w4 = w5 at *
    go_loopw [16] (fun i wr => ∃ j : Nat, j ≤ 32 ∧ i = .int .i64 j ∧ TB w w4.heap.size M (turns bt f j (one r)) wr) (fun i _ => 32 - (intOf i).toNat)
    case atStart => exact ⟨0, by omega, rfl, HT4.out⟩
    case round =>
      obtain ⟨j, hj, rfl, ht⟩ := hrel
      have HTJ := Lib.hid ht
      have HTSJ := Lib.hid (HTS.out j)
      clear HT4 ht
      by_cases hlt : j < 32
      · obtain ⟨p, hp⟩ : ∃ p, f + j = p := ⟨_, rfl⟩
        have hpI : (f : Int) + (j : Int) = (p : Int) := by omega
        have hp8 : p < 8 * M := by omega
        have wp : IntKind.i64.wrap (p : Int) = (p : Int) := IntWalk.i64_in _ (by omega)
        have hjI : (j : Int) < 32 := by omega
        have hq : ((bt : Int) / 2 ^ j).tmod 2 = ((bt / 2 ^ j % 2 : Nat) : Int) := by
          rw [show (bt : Int) / 2 ^ j = ((bt / 2 ^ j : Nat) : Int) by simp]; rfl
        by_cases hbit : bt / 2 ^ j % 2 = 1
        · have hb1 : (((bt : Int) / 2 ^ j).tmod 2 == 1) = true := by rw [hq, hbit]; rfl
          have HTN := Lib.hid (show TB w w4.heap.size M (turns bt f (j + 1) (one r)) (wr.setCell ⟨w4.heap.size, p / 8, none⟩ (.int .u8 (Go.bits .xor .u8 (((turns bt f j (one r)).getD (p / 8) 0).toNat : Int) (2 ^ (p % 8) % 256)))) from by
            rw [HTSJ.out, if_pos hbit, hp]
            exact HTJ.out.turn hp8)
          obtain ⟨hcell, hfree⟩ := HTJ.out.cell hp8
          generalize ((turns bt f j (one r)).getD (p / 8) 0).toNat = cb at *
          clear hq hbit hp
          go_wp2
          go_roundw
          case rel => exact ⟨j + 1, by omega, by go_num, HTN.out⟩
          case measure => simp [intOf]; omega
        · have hb1 : (((bt : Int) / 2 ^ j).tmod 2 == 1) = false := by rw [hq]; exact beq_eq_false_iff_ne.2 (by omega)
          have HTN := Lib.hid (show TB w w4.heap.size M (turns bt f (j + 1) (one r)) wr from by
            rw [HTSJ.out, if_neg hbit]
            exact HTJ.out)
          clear hq hbit hp
          go_wp2
          go_roundw
          case rel => exact ⟨j + 1, by omega, by go_num, HTN.out⟩
          case measure => simp [intOf]; omega
      · obtain rfl : j = 32 := by omega
        have HTE := Lib.hid (show TB w w4.heap.size M T32 wr from by rw [← HGT.out]; exact HTJ.out)
        have hct := HTT.out w4.heap.size cp wr HTE.out
        have HB5 := Lib.hid (show Below w.heap.size w wr from HTE.out.below)
        clear HTSJ HTJ HTE HTT HTS HGT
        go_wp2_with fail
        refine (HSC.out wr HB5.out).mono ?_
        rintro e w6 ⟨A6, c6, rfl, hr6, hb6⟩
        have HB6 := Lib.hid hb6
        have HR6 := Lib.hid hr6
        clear hb6 hr6 HSC
        go_wp2_with fail
        refine (HSM.out w6 A6 c6 HB6.out HR6.out).mono ?_
        rintro e w7 ⟨rfl, hb7⟩
        have HB7 := Lib.hid hb7
        clear hb7 HSM
        go_wp2_with fail
        refine (HH.out w7 HB7.out).mono ?_
        rintro e wz ⟨rfl, hbz⟩
        have HBZ := Lib.hid hbz
        clear hbz
        go_wp2
        go_ret
        exact ⟨rfl, HBZ.out⟩
end Go.Proofs.YtlhcacancnmhcaaDoor
