/-
  The document's device: zeros, cut; one cell more onto a row of its own.
-/
import Derived.Test.YtnmfgmlmjbfdcaaBlkPBase
namespace Go.Proofs.Ytnmfgmlmjbfdcaa
open Go.RowKit

theorem ownsRow_zero {w : World} {base : Nat} {e : TypeId} {sz n : Nat} {v : Value} {xs : List Value} (h : w.ownsRow base e sz v n xs) : w.ownsRow 0 e sz v n xs := by
  refine ⟨h.1, ?_⟩
  rcases h.2 with h2 | ⟨g, cap, cur, h2, _, h3⟩
  · exact .inl h2
  · exact .inr ⟨g, cap, cur, h2, Nat.zero_le _, h3⟩

section
variable {t e : TypeId} {z : Value} {sz bytes : Nat}
/-- One more, onto a row of the call's own. -/
theorem run_onto (ht : Try.prog.underlying t = some (.slice e)) (hin : (Try.prog.info? e).map (fun i => (i.zero, i.size, i.bytes)) = some (some z, sz, bytes)) (hzs : z.cells.size = sz) (hsz : 0 < sz) (hby : bytes ≤ 64)
    (w : World) (ty : TypeId) (base : Nat) (v : Value) (n : Nat) (xs : List Value) (hown : w.ownsRow base e sz v n xs) (ad : Addr) (c : Nat) (news : List Value) (hl : news.length = sz) (hnews : ∀ j u, news[j]? = some u → w.cell? (ad.add j) = some u) (h1 : ∀ u ∈ news, u.oneCell' = true) (hle : n ≤ 1000000) (hbase : base ≤ w.heap.size) :
    ∃ (g cap : Nat) (w' : World), (Builtin.append_ #[t, t] ty #[v, .slice (some ad) 1 c]).run Try.prog w = .ok (.slice (some ⟨g, 0, none⟩) (n + 1) cap) w' ∧ w'.ownsRow base e sz (.slice (some ⟨g, 0, none⟩) (n + 1) cap) (n + 1) (xs ++ news) ∧ w.grownBy w' v.ownBlock ∧ (v.ownBlock = some g ∨ w.heap.size ≤ g) := by
  obtain ⟨i0, hi0, hz0, hz1, hz2⟩ := info_parts hin
  have hb : (n + 1) * bytes ≤ 1000001 * 64 := Nat.mul_le_mul (by omega) hby
  obtain ⟨v', w', hr, h2, h3, h4, h5⟩ := run_append_own_at (P := Try.prog) w base t ty e i0 z sz bytes ht hi0 hz0 hz1 hz2 hzs hsz v n xs hown ad 1 c news (by rw [hl, Nat.one_mul]) hnews h1 (by unfold maxLen; omega) (by omega) hbase
  have hv : v' ≠ .slice none 0 0 := fun e => by
    have := (h4.1 e).2
    cases this
  obtain ⟨g, cap, rfl⟩ : ∃ g cap, v' = .slice (some ⟨g, 0, none⟩) (n + 1) cap := by
    rcases h2.2 with ⟨h0, _⟩ | ⟨g, cap, cur, hv', _⟩
    · exact absurd h0 hv
    · exact ⟨g, cap, hv'⟩
  refine ⟨g, cap, w', hr, h2, h3, ?_⟩
  rcases h5 with h5 | h5
  · exact .inl h5.symm
  · have : some g = some w.heap.size := h5
    injection this with this
    exact .inr (by omega)
theorem step_onto {ops : Array Oper} {o : Oper} {a : Act} {w : World} {K : Act → World → Prop} {Q : Exit → Act → World → Prop} {E : Prop} (ht : Try.prog.underlying t = some (.slice e)) (hin : (Try.prog.info? e).map (fun i => (i.zero, i.size, i.bytes)) = some (some z, sz, bytes)) (hzs : z.cells.size = sz) (hsz : 0 < sz) (hby : bytes ≤ 64)
    (hgd : o.guard = none) (s x : Operand) (ho : o.op = .call { callee := .builtin .append, args := #[s, x], argTypes := #[t, t] }) (base : Nat) (v : Value) (n : Nat) (xs : List Value) (hs : a.eval s = v) (hown : w.ownsRow base e sz v n xs)
    (ad : Addr) (c : Nat) (news : List Value) (hx : a.eval x = .slice (some ad) 1 c) (hl : news.length = sz) (hnews : ∀ j u, news[j]? = some u → w.cell? (ad.add j) = some u) (h1 : ∀ u ∈ news, u.oneCell' = true) (hle : n ≤ 1000000) (hbase : base ≤ w.heap.size)
    (h : ∀ g c' w', w'.ownsRow base e sz (.slice (some ⟨g, 0, none⟩) (n + 1) c') (n + 1) (xs ++ news) → w.grownBy w' v.ownBlock → (v.ownBlock = some g ∨ w.heap.size ≤ g) → K (a.put o.dst (.slice (some ⟨g, 0, none⟩) (n + 1) c')) w') :
    if Region.wanted o (yielded ops a.tmps) = true then Oper.wp Try.prog o a w K Q else E := by
  have hw : Region.wanted o (yielded ops a.tmps) = true := by simp [Region.wanted, hgd]
  rw [if_pos hw]
  obtain ⟨g, cap, w', hr, h2, h3, h4⟩ := run_onto ht hin hzs hsz hby w o.type base v n xs hown ad c news hl hnews h1 hle hbase
  unfold Oper.wp execOp
  simp only [ho, resolve, invoke, builtin, Sem.run_bind, Sem.run_pure, Result.andThen_ok, List.map_toArray, List.map_cons, List.map_nil, hs, hx, hr]
  exact h g cap w' h2 h3 h4
theorem wpList_onto {ops : Array Oper} {rest : List Oper} {o : Oper} {a : Act} {w : World} {Q : Exit → Act → World → Prop} (ht : Try.prog.underlying t = some (.slice e)) (hin : (Try.prog.info? e).map (fun i => (i.zero, i.size, i.bytes)) = some (some z, sz, bytes)) (hzs : z.cells.size = sz) (hsz : 0 < sz) (hby : bytes ≤ 64)
    (hgd : o.guard = none) (s x : Operand) (ho : o.op = .call { callee := .builtin .append, args := #[s, x], argTypes := #[t, t] }) (base : Nat) (v : Value) (n : Nat) (xs : List Value) (hs : a.eval s = v) (hown : w.ownsRow base e sz v n xs)
    (ad : Addr) (c : Nat) (news : List Value) (hx : a.eval x = .slice (some ad) 1 c) (hl : news.length = sz) (hnews : ∀ j u, news[j]? = some u → w.cell? (ad.add j) = some u) (h1 : ∀ u ∈ news, u.oneCell' = true) (hle : n ≤ 1000000) (hbase : base ≤ w.heap.size)
    (h : ∀ g c' w', w'.ownsRow base e sz (.slice (some ⟨g, 0, none⟩) (n + 1) c') (n + 1) (xs ++ news) → w.grownBy w' v.ownBlock → (v.ownBlock = some g ∨ w.heap.size ≤ g) → wpList Try.prog ops Q rest (a.put o.dst (.slice (some ⟨g, 0, none⟩) (n + 1) c')) w') :
    wpList Try.prog ops Q (o :: rest) a w := by
  refine wpList_plain hgd fun K hK => ?_
  obtain ⟨g, cap, w', hr, h2, h3, h4⟩ := run_onto ht hin hzs hsz hby w o.type base v n xs hown ad c news hl hnews h1 hle hbase
  unfold Oper.wp execOp
  simp only [ho, resolve, invoke, builtin, Sem.run_bind, Sem.run_pure, Result.andThen_ok, List.map_toArray, List.map_cons, List.map_nil, hs, hx, hr]
  exact hK _ _ (h g cap w' h2 h3 h4)
end

set_option maxRecDepth 100000 in
theorem Try.infoBlk : (Try.prog.info? 99).map (fun i => (i.zero, i.size, i.bytes)) = some (some (.slice none 0 0), 1, 24) := by kernel_rfl
set_option maxRecDepth 100000 in
theorem Try.infoWrt : (Try.prog.info? 114).map (fun i => (i.zero, i.size, i.bytes)) = some (some (.agg #[.int .i64 0, .slice none 0 0]), 2, 32) := by kernel_rfl

set_option maxRecDepth 100000 in
theorem zeros_any (n : Nat) (hn : n ≤ 100000) (w : World) : Calls Try.prog 72 #[.int .i64 (n : Int)] w fun e w' => e = .returned (.string (rep 0 n)) ∧ Below w.heap.size w w' := by
  obtain ⟨o, h1, h2⟩ := zeros_made n hn (n : Int) rfl
  go_enter Try.func72, Try.ntmps72
  go_wp2
  go_ret
  exact ⟨rfl, (Below.refl _ _).alloc (Nat.le_refl _) _⟩

/-- What cut hands back. -/
def CutV (ns : Nat) (s : ByteArray) (w : World) (e : Ending) (w' : World) : Prop := ∃ v, e = .returned v ∧ BlkV w' ns v (pad (ns * 64) (txt s)) ∧ Below w.heap.size w w'
theorem cut_text (ns : Nat) (s : ByteArray) (hs : s.size ≤ ns * 64) : s ++ rep 0 (ns * 64 - s.size) = ⟨(pad (ns * 64) (txt s)).toArray⟩ := by
  apply txt_inj
  rw [txt_append, txt_mk]
  unfold pad
  rw [List.take_of_length_le (by rw [txt_length]; exact hs)]
  rfl
theorem new_one (w : World) (t : TypeId) (u : Value) : ∀ j v, ([u] : List Value)[j]? = some v → (w.alloc (.cells #[u] t)).cell? ((⟨w.heap.size, 0, none⟩ : Addr).add j) = some v := fun j v hj => by
  have hr : Row (w.alloc (.cells #[u] t)) w.heap.size t [u] (0, 0) := Row.new w t [u] (0, 0)
  rw [Addr.add_lit, hr.cell, Nat.zero_add]
  exact hj

set_option maxRecDepth 100000 in
set_option maxHeartbeats 1000000 in
theorem cut_any (s : ByteArray) (ns : Nat) (w : World) (hs : s.size ≤ ns * 64) (h1 : 1 ≤ ns) (h4 : ns ≤ 4) : Calls Try.prog 43 #[.string s, .int .i64 (ns : Int)] w (CutV ns s w) := by
  have hsz : (s.size : Int) ≤ (ns : Int) * 64 := by omega
  have HZ := Lib.hid (zeros_any (ns * 64 - s.size) (by omega) w)
  have hcast : ((ns * 64 - s.size : Nat) : Int) = 64 * (ns : Int) - (s.size : Int) := by omega
  rw [hcast] at HZ
  have HT := cut_text ns s hs
  have n4 : (ns : Int) ≤ 4 := by omega
  obtain ⟨X, hX⟩ : ∃ X, s ++ rep 0 (ns * 64 - s.size) = X := ⟨_, rfl⟩
  rw [hX] at HT
  have hrs : ((rep 0 (ns * 64 - s.size)).size : Int) ≤ 256 := by rw [rep_size]; omega
  generalize rep 0 (ns * 64 - s.size) = Z at *
  obtain ⟨P, hP⟩ : ∃ P, pad (ns * 64) (txt s) = P := ⟨_, rfl⟩
  have hPl : P.length = ns * 64 := by rw [← hP]; exact pad_length _ _
  have hXs : (X.size : Int) = (ns : Int) * 64 := by
    have : X.size = P.length := by rw [HT, hP]; simp [ByteArray.size]
    rw [this, hPl]; omega
  rw [hP] at HT
  have HXE := Lib.hid (show ∀ k, k < ns → X.extract (64 * k) (64 * k + 64) = ⟨(seg P (k * 64) 64).toArray⟩ from fun k hk => by
    rw [HT, extract_list, Nat.mul_comm 64 k]; congr 3; omega)
  have HFIN := Lib.hid (show ∀ v w', w'.ownsRow w.heap.size 9 1 v ns (strs (secs ns P)) → Below w.heap.size w w' → CutV ns s w (.returned v) w' from fun v w' ho hb => ⟨v, rfl, by rw [hP]; exact BlkV.of (ownsRow_zero ho) (by omega) hPl, hb⟩)
  obtain ⟨POST, hPO⟩ : ∃ POST, CutV ns s w = POST := ⟨_, rfl⟩
  simp only [hPO] at HFIN ⊢
  have hssz : (s.size : Int) ≤ 256 := by omega
  clear hPO hP HT hcast hs hPl
  go_enter Try.func43, Try.ntmps43
  go_wp2_with fail
  refine HZ.out.mono ?_
  rintro e w1 ⟨rfl, hb1⟩
  have HO := Lib.hid (show w1.ownsRow w.heap.size 9 1 (.slice none 0 0) 0 (strs (secs 0 P)) ∧ Below w.heap.size w w1 from ⟨World.ownsRow_nil _ _ _ _, hb1⟩)
  clear hb1 HZ
  go_wp2_with fail
  go_loopw [5, 6] (fun b i wr => ∃ k : Nat, k ≤ ns ∧ i = .int .i64 k ∧ Hid (wr.ownsRow w.heap.size 9 1 b k (strs (secs k P)) ∧ Below w.heap.size w wr)) (fun _ i _ => ns - (intOf i).toNat)
  case atStart => exact ⟨0, by omega, rfl, HO⟩
  case round =>
    clear HO
    obtain ⟨k, hk, rfl, HW⟩ := hrel
    by_cases hkn : k = ns
    · subst hkn
      have HE := Lib.hid (HFIN.out _ _ HW.out.1 HW.out.2)
      clear HW
      go_wp2_with fail
      exact HE.out
    · have hk2 : k < ns := by omega
      have g1 : (k : Int) < (ns : Int) := by omega
      have g2 : (k : Int) < 4 := by omega
      have g3 : 64 * (k : Int) + 64 ≤ (X.size : Int) := by rw [hXs]; omega
      have w0 : IntKind.i64.wrap (64 * (k : Int)) = ((64 * k : Nat) : Int) := (IntWalk.i64_in _ (by omega)).trans (by simp)
      have w2 : IntKind.i64.wrap (((64 * k : Nat) : Int) + 64) = ((64 * k + 64 : Nat) : Int) := (IntWalk.i64_in _ (by omega)).trans (by simp)
      have HX1 := HXE.out k hk2
      have hk1 : k + 1 ≤ ns := by omega
      obtain ⟨T, hT⟩ : ∃ T : ByteArray, (⟨(seg P (k * 64) 64).toArray⟩ : ByteArray) = T := ⟨_, rfl⟩
      rw [hT] at HX1
      have HSU := Lib.hid (show strs (secs k P) ++ [.string T] = strs (secs (k + 1) P) from by rw [secs_succ, hT]; simp [strs])
      have HOW := Lib.hid (fun (w' : World) (hg : (wr.alloc (.cells #[.string T] 9)).grownBy w' (Value.ownBlock _)) => Below.grown (HW.out.2.alloc HW.out.2.size (.cells #[.string T] 9)) hg (Nat.le_trans HW.out.2.size (by simp)) (fun g hg2 => (HW.out.1.lt g hg2).1))
      clear hT hkn
      go_wp2_with (at_builtin; refine wpList_onto (t := 99) (e := 9) Try.underlying99 Try.infoStr rfl (by decide) (by decide) rfl (.tmp 20) (.tmp 28) (by rfl) w.heap.size _ k (strs (secs k P)) (by rfl) (World.ownsRow.alloc HW.out.1 _) ⟨wr.heap.size, 0, none⟩ 1 [.string T] (by rfl) rfl (new_one wr 9 (.string T)) (by simp [Value.oneCell']) (by omega) (by have := HW.out.2.size; simp; omega) ?_)
      intro g c' w2 h5 h6 h7
      rw [HSU.out] at h5
      have HN := Lib.hid (show w2.ownsRow w.heap.size 9 1 (.slice (some ⟨g, 0, none⟩) (k + 1) c') (k + 1) (strs (secs (k + 1) P)) ∧ Below w.heap.size w w2 from ⟨h5, HOW.out w2 h6⟩)
      clear h5 h6 h7 HSU HOW HX1
      go_wp2
      go_roundw
      case rel => exact ⟨k + 1, hk1, by go_num, HN⟩
      case measure => simp [intOf]; omega
end Go.Proofs.Ytnmfgmlmjbfdcaa
