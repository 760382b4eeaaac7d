/-
  The document's device: New, Write.
-/
import Derived.Test.YtnmfgmlmjbfdcaaBlkPRef
namespace Go.Proofs.Ytnmfgmlmjbfdcaa
open Go.RowKit

theorem NoStr.of {F : Nat → Prop} {w : World} {t : TypeId} (h : ∀ k, F k → ∃ cs, Row w k t cs (0, 0)) (ht : t ≠ 9) : NoStr F w := fun k cs m hr hF => by
  obtain ⟨cs', hr'⟩ := h k hF
  exact hr'.ne_ hr ht rfl

/-- A device that is being made: k blocks are there. -/
def Grow (W : World) (ns k : Nat) (vS : Value) (sv : List Value) (w : World) : Prop :=
  Row w W.heap.size 98 [.int .i64 (ns : Int), vS, .slice none 0 0] (0, 0) ∧ w.ownsRow W.heap.size 99 1 vS k sv ∧ (∀ b, b < k → ∃ v, sv[b]? = some v ∧ BlkV w ns v (List.replicate (ns * 64) 0)) ∧ Below W.heap.size W w
section
variable {W w w' : World} {ns k : Nat} {vS : Value} {sv : List Value}
theorem Grow.keeps (h : Grow W ns k vS sv w) (hb : Below w.heap.size w w') : Grow W ns k vS sv w' := by
  obtain ⟨h1, h2, h3, h4⟩ := h
  refine ⟨h1.below hb h1.lt, ownsRow_only h2 (Only.below hb fun _ => False) (fun _ _ hf => hf), fun b hb2 => ?_, h4.trans (hb.mono h4.size)⟩
  obtain ⟨v, e, hv⟩ := h3 b hb2
  exact ⟨v, e, hv.keeps hb⟩
theorem Grow.more (h : Grow W ns k vS sv w) {v : Value} (hv : BlkV w ns v (List.replicate (ns * 64) 0)) {g c : Nat} (hown : w'.ownsRow W.heap.size 99 1 (.slice (some ⟨g, 0, none⟩) (k + 1) c) (k + 1) (sv ++ [v]))
    (hg : (w.alloc (.cells #[v] 99)).grownBy w' vS.ownBlock) :
    (∃ u, w'.cell? ⟨W.heap.size, 1, none⟩ = some u) ∧ w'.frozen? ⟨W.heap.size, 1, none⟩ = false ∧ Grow W ns (k + 1) (.slice (some ⟨g, 0, none⟩) (k + 1) c) (sv ++ [v]) (w'.setCell ⟨W.heap.size, 1, none⟩ (.slice (some ⟨g, 0, none⟩) (k + 1) c)) := by
  obtain ⟨h1, h2, h3, h4⟩ := h
  have hal : Below w.heap.size w (w.alloc (.cells #[v] 99)) := (Below.refl _ _).alloc (Nat.le_refl _) _
  have ho : Only (fun k => vS.ownBlock = some k) w w' := (Only.below hal _).trans ⟨hg.os, hg.tape, hg.output, hg.size, fun k hk hn => hg.block k hk (fun e => hn e.symm)⟩
  have hrowS : ∀ k, vS.ownBlock = some k → ∃ cs, Row w k 99 cs (0, 0) := fun k hk => RV.ownBlock_row (ownsRow_zero h2) hk
  have hD : Row w' W.heap.size 98 [.int .i64 (ns : Int), vS, .slice none 0 0] (0, 0) := h1.only ho (fun e => by obtain ⟨cs, hr⟩ := hrowS _ e; exact h1.ne_ hr (by decide) rfl)
  have hS : NoStr (fun k => vS.ownBlock = some k) w := NoStr.of hrowS (by decide)
  have hset : Only (· = W.heap.size) w' (w'.setCell ⟨W.heap.size, 1, none⟩ (.slice (some ⟨g, 0, none⟩) (k + 1) c)) := Only.setCell (F := (· = W.heap.size)) (p := ⟨W.heap.size, 1, none⟩) (Only.refl _ w') rfl _
  have hS2 : NoStr (· = W.heap.size) w' := NoStr.of (fun k e => ⟨_, e ▸ hD⟩) (by decide)
  refine ⟨⟨_, hD.cell 1⟩, hD.loose 1, hD.put 1 _, ownsRow_only hown hset (fun k hk e => ?_), fun b hb => ?_, ?_⟩
  · obtain ⟨cs, hr⟩ := RV.ownBlock_row (ownsRow_zero hown) hk
    exact hD.ne_ hr (by decide) e.symm
  · by_cases e : b = k
    · subst e
      have hl : sv.length = b := by have := h2.1; omega
      exact ⟨v, by rw [← hl]; simp, (hv.only ho hS).only hset hS2⟩
    · obtain ⟨u, e1, e2⟩ := h3 b (by omega)
      have hl : sv.length = k := by have := h2.1; omega
      exact ⟨u, by rw [List.getElem?_append_left (by omega)]; exact e1, (e2.only ho hS).only hset hS2⟩
  · have hw' : Below W.heap.size W w' := h4.trans ⟨ho.os, ho.tape, ho.output, ho.size, fun j hj => ho.block j (Nat.lt_of_lt_of_le hj h4.size) (fun e => by have := (h2.lt j e).1; omega)⟩
    exact hw'.setCell (Nat.le_refl _) _
end

set_option maxRecDepth 100000 in
theorem enters_cut : Enters Try.prog 43 := enters_of Try.func43 (by kernel_rfl) rfl

/-- A new one. -/
def RNew (nb ns : Nat) (w : World) (e : Ending) (w' : World) : Prop :=
  ∃ x : RV, e = .returned (.tuple #[x.ptr, .int .i64 0]) ∧ x.In w' ∧ Below w.heap.size w w' ∧ (∀ k, x.mine k → w.heap.size ≤ k) ∧ x.R = ⟨ns, List.replicate nb (List.replicate (ns * 64) 0), []⟩

theorem Grow.done {W w : World} {ns nb : Nat} {vS : Value} {sv : List Value} (h : Grow W ns nb vS sv w) (h1 : 1 ≤ nb) (h8 : nb ≤ 8) (n1 : 1 ≤ ns) (n4 : ns ≤ 4) : RNew nb ns W (.returned (.tuple #[.pointer (some ⟨W.heap.size, 0, none⟩), .int .i64 0])) w := by
  obtain ⟨hd, ho, hb, hB⟩ := h
  refine ⟨⟨W.heap.size, vS, .slice none 0 0, sv, [], ⟨ns, List.replicate nb (List.replicate (ns * 64) 0), []⟩⟩, rfl, ?_, hB, ?_, rfl⟩
  · exact { dev := hd, sown := by simpa using ownsRow_zero ho, oown := World.ownsRow_nil _ _ _ _, ol := rfl, n1 := n1, n4 := n4, b1 := by simpa using h1, b8 := by simpa using h8
            sb := fun b L hL => by
              have hL2 : (List.replicate nb (List.replicate (ns * 64) (0 : UInt8)))[b]? = some L := hL
              rw [List.getElem?_replicate] at hL2
              split at hL2
              · rename_i hlt
                injection hL2 with hL2
                subst hL2
                exact hb b hlt
              · cases hL2
            ob := fun i o hO => by cases hO }
  · rintro k (rfl | hk | hk)
    · exact Nat.le_refl _
    · exact (ho.lt k hk).1
    · cases hk

set_option maxRecDepth 100000 in
theorem rnew_bad (b s : Int) (w : World) (h : ¬ (1 ≤ b ∧ b ≤ 1000 ∧ 1 ≤ s ∧ s ≤ 256)) : Calls Try.prog 17 #[.int .i64 b, .int .i64 s] w fun e w' => e = .returned (.tuple #[.pointer none, .int .i64 2]) ∧ w = w' := by
  have hh : b < 1 ∨ (1 ≤ b ∧ 1000 < b) ∨ (1 ≤ b ∧ b ≤ 1000 ∧ s < 1) ∨ (1 ≤ b ∧ b ≤ 1000 ∧ 1 ≤ s ∧ 256 < s) := by omega
  clear h
  rcases hh with h1 | ⟨h1, h2⟩ | ⟨h1, h2, h3⟩ | ⟨h1, h2, h3, h4⟩
  all_goals
    go_enter Try.func17, Try.ntmps17
    go_wp2
    go_ret2
    exact ⟨rfl, rfl⟩

set_option maxRecDepth 100000 in
set_option maxHeartbeats 2000000 in
theorem rnew_good (nb ns : Nat) (w : World) (h1 : 1 ≤ nb) (h8 : nb ≤ 8) (n1 : 1 ≤ ns) (n4 : ns ≤ 4) : Calls Try.prog 17 #[.int .i64 (nb : Int), .int .i64 (ns : Int)] w (RNew nb ns w) := by
  have HFIN := Lib.hid (fun (w' : World) (vS : Value) (sv : List Value) (h : Grow w ns nb vS sv w') => h.done h1 h8 n1 n4)
  have HG0 := Lib.hid (show Grow w ns 0 (.slice none 0 0) [] (w.alloc (.cells #[.int .i64 (ns : Int), .slice none 0 0, .slice none 0 0] 98)) from
    ⟨Row.new w 98 [.int .i64 (ns : Int), .slice none 0 0, .slice none 0 0] (0, 0), World.ownsRow_nil _ _ _ _, fun b hb => by omega, (Below.refl _ _).alloc (Nat.le_refl _) _⟩)
  have HCUT := Lib.hid (fun (wx : World) => cut_any ⟨#[]⟩ ns wx (Nat.zero_le _) n1 n4)
  have hpad : pad (ns * 64) (txt ⟨#[]⟩) = List.replicate (ns * 64) 0 := by simp [pad, txt]
  have q1 : (1 : Int) ≤ nb := by omega
  have q2 : (nb : Int) ≤ 8 := by omega
  have q3 : (1 : Int) ≤ ns := by omega
  have q4 : (ns : Int) ≤ 4 := by omega
  obtain ⟨P, hP⟩ : ∃ P, RNew nb ns w = P := ⟨_, rfl⟩
  simp only [hP] at HFIN ⊢
  clear hP h1 h8 n1 n4
  have HM := Lib.hid (fun (wr : World) (k : Nat) (vS : Value) (sv : List Value) (h : Grow w ns k vS sv wr) (hk : k < nb) => show
    ∀ wa, Below wr.heap.size wr wa → Below wr.heap.size wr wa ∧ wa.cell? ⟨w.heap.size, 1, none⟩ = some vS ∧ w.heap.size < wa.heap.size ∧ ∀ v, BlkV wa ns v (List.replicate (ns * 64) 0) → (wa.alloc (.cells #[v] 99)).ownsRow w.heap.size 99 1 vS k sv ∧ w.heap.size ≤ (wa.alloc (.cells #[v] 99)).heap.size ∧
      Hid (∀ g c w', w'.ownsRow w.heap.size 99 1 (.slice (some ⟨g, 0, none⟩) (k + 1) c) (k + 1) (sv ++ [v]) → (wa.alloc (.cells #[v] 99)).grownBy w' vS.ownBlock → (∃ u, w'.cell? ⟨w.heap.size, 1, none⟩ = some u) ∧ w'.frozen? ⟨w.heap.size, 1, none⟩ = false ∧ Grow w ns (k + 1) (.slice (some ⟨g, 0, none⟩) (k + 1) c) (sv ++ [v]) (w'.setCell ⟨w.heap.size, 1, none⟩ (.slice (some ⟨g, 0, none⟩) (k + 1) c))) from fun wa hb => by
      have hg := h.keeps hb
      refine ⟨hb, hg.1.cell 1, hg.1.lt, fun v hv => ⟨World.ownsRow.alloc hg.2.1 _, by have := hg.2.2.2.size; simp; omega, Lib.hid fun g c w' ho hgr => hg.more hv ho hgr⟩⟩)
  go_enter Try.func17, Try.ntmps17
  go_wp2_with fail
  go_loopw [7] (fun i wr => ∃ (k : Nat) (vS : Value) (sv : List Value), k ≤ nb ∧ i = .int .i64 k ∧ Hid (Grow w ns k vS sv wr)) (fun i _ => nb - (intOf i).toNat)
  case atStart => exact ⟨0, _, _, by omega, rfl, HG0⟩
  case round =>
    clear HG0
    obtain ⟨k, vS, sv, hk, rfl, HG⟩ := hrel
    by_cases hkn : k = nb
    · subst hkn
      have HE := Lib.hid (HFIN.out _ _ _ HG.out)
      clear HG HM
      go_wp2_with fail
      exact HE.out
    · have g1 : (k : Int) < nb := by omega
      have hk1 : k + 1 ≤ nb := by omega
      have HX := Lib.hid (HM.out wr k vS sv HG.out (by omega))
      have hk0 : Below wr.heap.size wr wr.drew := (Below.refl _ wr).drew
      obtain ⟨-, c1, -, -⟩ := HX.out _ hk0
      clear hkn HM HG hk
      go_wp2_with fail
      go_region_law (first
        | (refine step_calls rfl 43 #[.const (.string ⟨#[]⟩), .tmp 35] _ (by rfl) #[.string ⟨#[]⟩, .int .i64 (ns : Int)] (by simp [Act.eval, Act.put]) enters_cut (HCUT.out _) ?_; rintro e wa ⟨v, rfl, hv, hba⟩; rw [hpad] at hv; obtain ⟨gv, cv, rfl⟩ := hv.lit; obtain ⟨hka, ca, hal, hmk⟩ := HX.out wa (hk0.trans hba); obtain ⟨hown, hsz, HMK⟩ := hmk _ hv; clear hmk; refine ⟨_, rfl, ?_⟩)
        | (refine step_onto (t := 95) (e := 99) Try.underlying95 Try.infoBlk rfl (by decide) (by decide) rfl (.tmp 34) (.tmp 37) (by rfl) w.heap.size vS k sv (by rfl) hown ⟨wa.heap.size, 0, none⟩ 1 [.slice (some ⟨gv, 0, none⟩) ns cv] (by rfl) rfl (new_one wa 99 _) (by intro u hu; rw [List.mem_singleton] at hu; exact hu ▸ BlkV.one hv) (by omega) hsz ?_; intro g c' w3 h5 h6 h7; obtain ⟨⟨u, hu⟩, hf, hgrow⟩ := HMK.out g c' w3 h5 h6; clear h5 h6 h7))
      all_goals
        have HGN := Lib.hid hgrow
        clear hgrow hu hf hv hown HMK ca
        go_wp2
        go_roundw
        case rel => exact ⟨k + 1, _, _, hk1, by go_num, HGN⟩
        case measure => simp [intOf]; omega

/-- What a call that turns it does. -/
def RTurned (x : RV) (w : World) (R' : RS) (a : Value) (e : Ending) (w' : World) : Prop :=
  ∃ x' : RV, e = .returned a ∧ x'.B = x.B ∧ x'.R = R' ∧ x'.In w' ∧ Only x.mine w w' ∧ ∀ k, x'.mine k → x.mine k ∨ w.heap.size ≤ k

section
variable {x : RV} {w w' : World}
theorem RV.In.noStr (h : x.In w) : NoStr x.mine w := fun _ _ _ hr => h.notMine hr (by decide) (by decide) (by decide)
theorem RV.In.oneV (h : x.In w) : ∀ p ∈ x.ov, p.2.oneCell' = true := fun p hp => by
  obtain ⟨i, hi, rfl⟩ := List.mem_iff_getElem.1 hp
  have hio : i < x.R.opens.length := by rw [← h.ol]; exact hi
  obtain ⟨_, v, h1, h2⟩ := h.ob i x.R.opens[i] (List.getElem?_eq_getElem hio)
  rw [List.getElem?_eq_getElem hi] at h1
  injection h1 with h1
  rw [h1]
  exact h2.one
/-- One open write more. -/
theorem RV.In.wrote (h : x.In w) {wa : World} (hwa : Below w.heap.size w wa) {b : Nat} (hb : b < x.R.sure.length) {L : List UInt8} {v : Value} (hv : BlkV wa x.R.ns v L) {g c : Nat}
    (hown : w'.ownsRow 0 114 2 (.slice (some ⟨g, 0, none⟩) (x.R.opens.length + 1) c) (x.R.opens.length + 1) (opv x.ov ++ [.int .i64 (b : Int), v]))
    (hg : (wa.alloc (.cells #[.int .i64 (b : Int), v] 114)).grownBy w' x.vO.ownBlock) (hblk : x.vO.ownBlock = some g ∨ (wa.alloc (.cells #[.int .i64 (b : Int), v] 114)).heap.size ≤ g) (a : Value) :
    (∃ u, w'.cell? ⟨x.B, 2, none⟩ = some u) ∧ w'.frozen? ⟨x.B, 2, none⟩ = false ∧ RTurned x w { x.R with opens := x.R.opens ++ [(b, L)] } a (.returned a) (w'.setCell ⟨x.B, 2, none⟩ (.slice (some ⟨g, 0, none⟩) (x.R.opens.length + 1) c)) := by
  have ha := h.keeps hwa
  have hal : Below wa.heap.size wa (wa.alloc (.cells #[.int .i64 (b : Int), v] 114)) := (Below.refl _ _).alloc (Nat.le_refl _) _
  have ho : Only (fun k => x.vO.ownBlock = some k) wa w' := (Only.below hal _).trans ⟨hg.os, hg.tape, hg.output, hg.size, fun k hk hn => hg.block k hk (fun e => hn e.symm)⟩
  have hS : NoStr (fun k => x.vO.ownBlock = some k) wa := NoStr.of (fun k hk => RV.ownBlock_row ha.oown hk) (by decide)
  have hD : Row w' x.B 98 x.cells (0, 0) := ha.dev.only ho (fun e => by obtain ⟨cs, hr⟩ := RV.ownBlock_row ha.oown e; exact ha.dev.ne_ hr (by decide) rfl)
  have hset : Only (· = x.B) w' (w'.setCell ⟨x.B, 2, none⟩ (.slice (some ⟨g, 0, none⟩) (x.R.opens.length + 1) c)) := Only.setCell (F := (· = x.B)) (p := ⟨x.B, 2, none⟩) (Only.refl _ w') rfl _
  have hS2 : NoStr (· = x.B) w' := NoStr.of (fun k e => ⟨_, e ▸ hD⟩) (by decide)
  have hall : Only x.mine w (w'.setCell ⟨x.B, 2, none⟩ (.slice (some ⟨g, 0, none⟩) (x.R.opens.length + 1) c)) :=
    ((Only.below hwa x.mine).trans (ho.imp fun _ _ e => .inr (.inr e))).trans (hset.imp fun _ _ e => .inl e)
  have hrowS : w'.ownsRow 0 99 1 x.vS x.R.sure.length x.sv := ownsRow_only ha.sown ho fun k hk e => by
    obtain ⟨cs, hr⟩ := RV.ownBlock_row ha.sown hk
    obtain ⟨cs', hr'⟩ := RV.ownBlock_row ha.oown e
    exact hr.ne_ hr' (by decide) rfl
  refine ⟨⟨_, hD.cell 2⟩, hD.loose 2, { x with vO := .slice (some ⟨g, 0, none⟩) (x.R.opens.length + 1) c, ov := x.ov ++ [(b, v)], R := { x.R with opens := x.R.opens ++ [(b, L)] } }, rfl, rfl, rfl, ?_, hall, ?_⟩
  · exact
      { dev := hD.put 2 _
        sown := ownsRow_only hrowS hset fun k hk e => by obtain ⟨cs, hr⟩ := RV.ownBlock_row hrowS hk; exact hD.ne_ hr (by decide) e.symm
        oown := by
          have e1 : opv (x.ov ++ [(b, v)]) = opv x.ov ++ [.int .i64 (b : Int), v] := by rw [opv_append]; rfl
          have e2 : (x.R.opens ++ [(b, L)]).length = x.R.opens.length + 1 := by simp
          show World.ownsRow _ _ _ _ _ (x.R.opens ++ [(b, L)]).length (opv (x.ov ++ [(b, v)]))
          rw [e1, e2]
          exact ownsRow_only hown hset fun k hk e => by obtain ⟨cs, hr⟩ := RV.ownBlock_row hown hk; exact hD.ne_ hr (by decide) e.symm
        ol := by simp [h.ol]
        sb := fun b' L' hL => by obtain ⟨u, e1, e2⟩ := ha.sb b' L' hL; exact ⟨u, e1, (e2.only ho hS).only hset hS2⟩
        ob := fun i o hO => by
          have hO2 : (x.R.opens ++ [(b, L)])[i]? = some o := hO
          by_cases hi : i < x.R.opens.length
          · rw [List.getElem?_append_left hi] at hO2
            obtain ⟨e0, u, e1, e2⟩ := ha.ob i o hO2
            refine ⟨e0, u, ?_, (e2.only ho hS).only hset hS2⟩
            show (x.ov ++ [(b, v)])[i]? = _
            rw [List.getElem?_append_left (by rw [h.ol]; exact hi)]; exact e1
          · rw [List.getElem?_append_right (by omega)] at hO2
            obtain ⟨hi2, rfl⟩ : i = x.R.opens.length ∧ o = (b, L) := by
              have : i - x.R.opens.length < 1 := by have := (List.getElem?_eq_some_iff.1 hO2).1; simpa using this
              have hz : i - x.R.opens.length = 0 := by omega
              rw [hz] at hO2
              exact ⟨by omega, by simpa using hO2.symm⟩
            subst hi2
            refine ⟨hb, v, ?_, (hv.only ho hS).only hset hS2⟩
            show (x.ov ++ [(b, v)])[x.R.opens.length]? = _
            rw [← h.ol]; simp
        n1 := h.n1, n4 := h.n4, b1 := h.b1, b8 := h.b8 }
  · rintro k (e | e | e)
    · exact .inl (.inl e)
    · exact .inl (.inr (.inl e))
    · injection e with e
      obtain rfl : g = k := e
      rcases hblk with e2 | e2
      · exact .inl (.inr (.inr e2))
      · refine .inr ?_
        have := hwa.size
        simp at e2
        omega
end

theorem new_pair (w : World) (t : TypeId) (u v : Value) : ∀ j y, ([u, v] : List Value)[j]? = some y → (w.alloc (.cells #[u, v] t)).cell? ((⟨w.heap.size, 0, none⟩ : Addr).add j) = some y := fun j y hj => by
  have hr : Row (w.alloc (.cells #[u, v] t)) w.heap.size t [u, v] (0, 0) := Row.new w t [u, v] (0, 0)
  rw [Addr.add_lit, hr.cell, Nat.zero_add]
  exact hj

/-- The error of a write, or of a read. -/
def rchk (x : RV) (b : Int) : Int := if 0 ≤ b ∧ b < x.R.sure.length then 0 else 2

set_option maxRecDepth 100000 in
theorem rwrite_bad (x : RV) (b : Int) (s : ByteArray) (w : World) (h : x.In w) (hb : ¬ (0 ≤ b ∧ b < x.R.sure.length)) : Calls Try.prog 29 #[x.ptr, .int .i64 b, .string s] w fun e w' => e = .returned (.int .i64 2) ∧ w = w' := by
  have c1 := h.c1
  obtain ⟨g, cap, cs, e, -⟩ := h.slot
  rw [e] at c1
  have h8 := h.b8
  have hb' : b < 0 ∨ (0 ≤ b ∧ (x.R.sure.length : Int) ≤ b) := by omega
  have h8' : (x.R.sure.length : Int) ≤ 8 := by omega
  clear h e hb
  unfold RV.ptr
  rcases hb' with h1 | ⟨h1, h2⟩
  all_goals
    go_enter Try.func29, Try.ntmps29
    go_wp2
    go_ret
    exact ⟨rfl, rfl⟩

set_option maxRecDepth 100000 in
theorem rwrite_long (x : RV) (b : Nat) (s : ByteArray) (w : World) (h : x.In w) (hb : b < x.R.sure.length) (hs : x.R.ns * 64 < s.size) (hsm : s.size ≤ 9223372036854775807) : Calls Try.prog 29 #[x.ptr, .int .i64 (b : Int), .string s] w fun e w' => e = .returned (.int .i64 3) ∧ w = w' := by
  have c0 := h.c0
  have c1 := h.c1
  obtain ⟨g, cap, cs, e, -⟩ := h.slot
  rw [e] at c1
  have h8 := h.b8
  have h4 := h.n4
  have g1 : (b : Int) < x.R.sure.length := by omega
  have g2 : (x.R.sure.length : Int) ≤ 8 := by omega
  have g3 : 64 * (x.R.ns : Int) < s.size := by omega
  have g4 : (x.R.ns : Int) ≤ 4 := by omega
  have g5 : (s.size : Int) ≤ 9223372036854775807 := by omega
  clear h e hb hs
  unfold RV.ptr
  go_enter Try.func29, Try.ntmps29
  go_wp2
  go_ret
  exact ⟨rfl, rfl⟩

set_option maxRecDepth 100000 in
set_option maxHeartbeats 2000000 in
theorem rwrite_good (x : RV) (b : Nat) (s : ByteArray) (w : World) (h : x.In w) (hb : b < x.R.sure.length) (hs : s.size ≤ x.R.ns * 64) (hm : x.R.opens.length ≤ 1000000) : Calls Try.prog 29 #[x.ptr, .int .i64 (b : Int), .string s] w (RTurned x w { x.R with opens := x.R.opens ++ [(b, pad (x.R.ns * 64) (txt s))] } (.int .i64 0)) := by
  have c0 := h.c0
  have c1 := h.c1
  have c2 := h.c2
  obtain ⟨g, cap, cs, e, -⟩ := h.slot
  rw [e] at c1
  have h8 := h.b8
  have h4 := h.n4
  have g1 : (b : Int) < x.R.sure.length := by omega
  have g2 : (x.R.sure.length : Int) ≤ 8 := by omega
  have g3 : (s.size : Int) ≤ 64 * (x.R.ns : Int) := by omega
  have g4 : (x.R.ns : Int) ≤ 4 := by omega
  have HCUT := Lib.hid (fun (wx : World) => cut_any s x.R.ns wx hs h.n1 h4)
  have HX := Lib.hid (show ∀ wa, Below w.heap.size w wa → wa.cell? ⟨x.B, 0, none⟩ = some (.int .i64 (x.R.ns : Int)) ∧ wa.cell? ⟨x.B, 2, none⟩ = some x.vO ∧ x.B < wa.heap.size ∧ ∀ v, BlkV wa x.R.ns v (pad (x.R.ns * 64) (txt s)) → (wa.alloc (.cells #[.int .i64 (b : Int), v] 114)).ownsRow 0 114 2 x.vO x.R.opens.length (opv x.ov) ∧
      Hid (∀ g c w', w'.ownsRow 0 114 2 (.slice (some ⟨g, 0, none⟩) (x.R.opens.length + 1) c) (x.R.opens.length + 1) (opv x.ov ++ [.int .i64 (b : Int), v]) → (wa.alloc (.cells #[.int .i64 (b : Int), v] 114)).grownBy w' x.vO.ownBlock → (x.vO.ownBlock = some g ∨ (wa.alloc (.cells #[.int .i64 (b : Int), v] 114)).heap.size ≤ g) →
        (∃ u, w'.cell? ⟨x.B, 2, none⟩ = some u) ∧ w'.frozen? ⟨x.B, 2, none⟩ = false ∧ RTurned x w { x.R with opens := x.R.opens ++ [(b, pad (x.R.ns * 64) (txt s))] } (.int .i64 0) (.returned (.int .i64 0)) (w'.setCell ⟨x.B, 2, none⟩ (.slice (some ⟨g, 0, none⟩) (x.R.opens.length + 1) c))) from fun wa hwa => by
    have ha := h.keeps hwa
    exact ⟨ha.c0, ha.c2, ha.dev.lt, fun v hv => ⟨World.ownsRow.alloc ha.oown _, Lib.hid fun g c w' h5 h6 h7 => h.wrote hwa hb hv h5 h6 h7 _⟩⟩)
  have hk0 : Below w.heap.size w w.drew := (Below.refl _ w).drew
  obtain ⟨POST, hPO⟩ : ∃ POST, RTurned x w { x.R with opens := x.R.opens ++ [(b, pad (x.R.ns * 64) (txt s))] } (.int .i64 0) = POST := ⟨_, rfl⟩
  simp only [hPO] at HX ⊢
  have HM := Lib.hid hm
  obtain ⟨ov2, cov2, hov2⟩ : ∃ (a : Option Addr) (c : Nat), x.vO = .slice a x.R.opens.length c := by
    rcases h.oslot with ⟨e1, e2⟩ | ⟨g, c, e1, _⟩
    · exact ⟨none, 0, by rw [e1, e2]; rfl⟩
    · exact ⟨_, _, e1⟩
  generalize x.vO = vO at *
  subst hov2
  clear hPO h e hb hs hm h8 h4
  unfold RV.ptr
  go_enter Try.func29, Try.ntmps29
  go_wp2_with fail
  obtain ⟨d0, d2, -, -⟩ := HX.out _ hk0
  go_region_law (first
    | (refine step_calls rfl 43 #[.tmp 32, .tmp 36] _ (by rfl) #[.string s, .int .i64 (x.R.ns : Int)] (by simp [Act.eval]) enters_cut (HCUT.out _) ?_; rintro e wa ⟨v, rfl, hv, hba⟩; obtain ⟨gv, cv, rfl⟩ := hv.lit; obtain ⟨ca0, ca, hal, hmk⟩ := HX.out wa (hk0.trans hba); obtain ⟨hown, HMK⟩ := hmk _ hv; clear hmk; refine ⟨_, rfl, ?_⟩)
    | (refine step_onto (t := 96) (e := 114) Try.underlying96 Try.infoWrt rfl (by decide) (by decide) rfl (.tmp 30) (.tmp 39) (by rfl) 0 (.slice ov2 x.R.opens.length cov2) x.R.opens.length (opv x.ov) (by rfl) hown ⟨wa.heap.size, 0, none⟩ 1 [.int .i64 (b : Int), .slice (some ⟨gv, 0, none⟩) x.R.ns cv] (by rfl) rfl (new_pair wa 114 _ _) (by intro u hu; simp at hu; rcases hu with rfl | rfl <;> rfl) HM.out (Nat.zero_le _) ?_; intro g' c' w3 h5 h6 h7; obtain ⟨⟨u, hu⟩, hf, hpost⟩ := HMK.out g' c' w3 h5 h6 h7; clear h5 h6 h7))
  all_goals
    have HP := Lib.hid hpost
    clear hpost hu hf hv hown HMK
    go_wp2
    exact HP.out
end Go.Proofs.Ytnmfgmlmjbfdcaa
