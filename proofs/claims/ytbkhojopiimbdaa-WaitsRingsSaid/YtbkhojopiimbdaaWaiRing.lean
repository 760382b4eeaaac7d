/-
  The landed Ring: a search forwards.
-/
import Derived.Test.YtbkhojopiimbdaaWaiWay
import Derived.Test.YtbkhojopiimbdaaWaiBfs
import Derived.Test.YtbkhojopiimbdaaWaiLaw
namespace Go.Proofs.Ytbkhojopiimbdaa
open Go.RowKit

def ptrs (gs : List Nat) : List Value := gs.map fun g => .pointer (some ⟨g, 0, none⟩)
theorem ptrs_length (gs : List Nat) : (ptrs gs).length = gs.length := by simp [ptrs]
theorem ptrs_append (a b : List Nat) : ptrs (a ++ b) = ptrs a ++ ptrs b := by simp [ptrs]
theorem Try.infoStepP : (Try.prog.info? 42).map (fun i => (i.zero, i.size, i.bytes)) = some (some (.pointer none), 1, 8) := by kernel_rfl

theorem own_noRow {w : World} {base : Nat} {n : Nat} {e T' : TypeId} {v : Value} {xs : List Value} (h : w.ownsRow base e 1 v n xs) (he : e ≠ T') : ∀ g T cs m, v.ownBlock = some g → Row w g T cs m → T ≠ T' := by
  intro g T cs m hg hr
  rcases h.2 with ⟨rfl, _⟩ | ⟨g', cap, cur, rfl, _, hg', _⟩
  · cases hg
  · injection hg with hg
    subst hg
    have e1 := hg'.symm.trans hr
    injection e1 with e1
    injection e1 with _ e1 _
    subst e1
    exact he
theorem map_noRow {w : World} {P : Program} {k : TypeId} {R : Value → Option (DataW Unit × List MemPlace)} {b n : Nat} {D : DataW Unit} (h : w.ownsMap P k R b n D) : ∀ g T cs m, some b = some g → Row w g T cs m → False := by
  intro g T cs m hg hr
  injection hg with hg
  subst hg
  obtain ⟨es, clock, hb, _⟩ := h
  have e1 := hb.symm.trans hr
  injection e1 with e1
  cases e1

/-- The steps of a search, in memory of the call's own. -/
structure Stp (W : World) (tx : Nat) (Q : List (Nat × List Nat)) (v : Value) (gs : List Nat) (wr : World) : Prop where
  len : gs.length = Q.length
  row : wr.ownsRow W.heap.size 42 1 v Q.length (ptrs gs)
  way : ∀ (j g : Nat) (q : Nat × List Nat), gs[j]? = some g → Q[j]? = some q → Chain wr (some ⟨g, 0, none⟩) (tx :: q.2).reverse
/-- Those that have been reached. -/
structure Seen (W : World) (tx : Nat) (Q : List (Nat × List Nat)) (b m : Nat) (D : DataW Unit) (wr : World) : Prop where
  map : wr.ownsMap Try.prog 23 unitElem b m D
  low : W.heap.size ≤ b
  has : ∀ k, k < 18446744073709551616 → k ≠ tx → (Go.Maps.has D (kL k) = true ↔ ∃ p, (k, p) ∈ Q)

section
variable {W w w' : World} {tx b m : Nat} {Q : List (Nat × List Nat)} {v : Value} {gs : List Nat} {D : DataW Unit}
theorem Stp.keeps (h : Stp W tx Q v gs w) (hb : Below w.heap.size w w') : Stp W tx Q v gs w' := ⟨h.len, h.row.keeps hb, fun j g q hg hq => (h.way j g q hg hq).keeps hb⟩
theorem Seen.keeps (h : Seen W tx Q b m D w) (hb : Below w.heap.size w w') : Seen W tx Q b m D w' := ⟨h.map.kept (row := none) (only_below hb none) (by simp), h.low, h.has⟩
/-- The map is written. -/
theorem Stp.aside (h : Stp W tx Q v gs w) (hm : w.ownsMap Try.prog 23 unitElem b m D) (hg : w.grownBy w' (some b)) : Stp W tx Q v gs w' := by
  refine ⟨h.len, h.row.kept hg ?_, fun j g q h1 h2 => (h.way j g q h1 h2).grown hg fun g T cs m' e hr => (map_noRow hm g T cs m' e hr).elim⟩
  cases hv : v.ownBlock with
  | none => exact .inl rfl
  | some g =>
    refine .inr fun e => ?_
    rcases h.row.2 with ⟨rfl, _⟩ | ⟨g', cap, cur, rfl, _, hg', _⟩
    · cases hv
    · injection hv with hv
      subst hv
      exact map_noRow hm g' _ cur.toList (0, 0) e.symm hg'
/-- The steps' row is written. -/
theorem Seen.aside {n : Nat} {xs : List Value} {base : Nat} {T : TypeId} (h : Seen W tx Q b m D w) (hr : w.ownsRow base T 1 v n xs) (hg : w.grownBy w' v.ownBlock) : Seen W tx Q b m D w' := by
  refine ⟨h.map.kept hg fun e => ?_, h.low, h.has⟩
  rcases hr.2 with ⟨rfl, _⟩ | ⟨g', cap, cur, rfl, _, hg', _⟩
  · cases e
  · exact map_noRow h.map g' _ cur.toList (0, 0) e hg'
/-- The step at a place: its address, its node. -/
theorem Stp.at_ (h : Stp W tx Q v gs w) {j : Nat} (hj : j < Q.length) : ∃ A c g off, v = .slice A Q.length c ∧ A = some ⟨g, off, none⟩ ∧ Q.length ≤ c ∧ ∃ s q, gs[j]? = some s ∧ Q[j]? = some q ∧
    w.cell? ⟨g, off + j, none⟩ = some (.pointer (some ⟨s, 0, none⟩)) ∧ Chain w (some ⟨s, 0, none⟩) (tx :: q.2).reverse := by
  obtain ⟨A, c, hv, hc, _, hl⟩ := ownsRow_lit h.row
  have hgl : j < gs.length := by rw [h.len]; exact hj
  obtain ⟨g, off, hA, hcell⟩ := hl.cells (by rw [ptrs_length]; omega)
  refine ⟨A, c, g, off, hv, hA, hc, gs[j], Q[j], List.getElem?_eq_getElem hgl, List.getElem?_eq_getElem hj, hcell j _ (by simp [ptrs, List.getElem?_eq_getElem hgl]), h.way j _ _ (List.getElem?_eq_getElem hgl) (List.getElem?_eq_getElem hj)⟩
/-- One step more. -/
theorem Stp.push (h : Stp W tx Q v gs w) {n z s g0 : Nat} {q : Nat × List Nat} {v' : Value} (hs : gs[n]? = some s) (hq : Q[n]? = some q) (h0 : Row w g0 44 [.int .u64 (z : Int), .pointer (some ⟨s, 0, none⟩)] (0, 0))
    (ho : w'.ownsRow W.heap.size 42 1 v' (Q.length + 1) (ptrs gs ++ [.pointer (some ⟨g0, 0, none⟩)])) (hg : w.grownBy w' v.ownBlock) : Stp W tx (Q ++ [(z, q.2 ++ [z])]) v' (gs ++ [g0]) w' := by
  have hno := own_noRow (T' := 44) h.row (by decide)
  have hn : n < Q.length := (List.getElem?_eq_some_iff.1 hq).1
  refine ⟨by simp [h.len], by rw [List.length_append, ptrs_append]; exact ho, fun j g q' h1 h2 => ?_⟩
  by_cases hj : j < Q.length
  · rw [List.getElem?_append_left (by rw [h.len]; exact hj)] at h1
    rw [List.getElem?_append_left hj] at h2
    exact (h.way j g q' h1 h2).grown hg hno
  · have hl := (List.getElem?_eq_some_iff.1 h2).1
    rw [List.length_append, List.length_singleton] at hl
    obtain rfl : j = Q.length := by omega
    rw [List.getElem?_append_right (by rw [h.len]; exact Nat.le_refl _), h.len, Nat.sub_self] at h1
    rw [List.getElem?_append_right (Nat.le_refl _), Nat.sub_self] at h2
    obtain rfl : g0 = g := by simpa using h1
    obtain rfl : (z, q.2 ++ [z]) = q' := by simpa using h2
    have e : (tx :: (q.2 ++ [z])).reverse = z :: (tx :: q.2).reverse := by simp
    rw [e]
    exact ⟨g0, _, rfl, h0.grown hg (fun e => hno g0 _ _ _ e.symm h0 rfl), (h.way n s q hs hq).grown hg hno⟩
theorem Seen.push (h : Seen W tx Q b m D w) {z : Nat} (hz : z < 18446744073709551616) (p : List Nat) (hm : w'.ownsMap Try.prog 23 unitElem b (m + 1) (D.put (kL z) (.agg []))) : Seen W tx (Q ++ [(z, p)]) b (m + 1) (D.put (kL z) (.agg [])) w' := by
  refine ⟨hm, h.low, fun k hk hne => ?_⟩
  by_cases e : k = z
  · subst e
    rw [Go.Maps.has_put_same h.map.isMap (kL_key hk)]
    exact ⟨fun _ => ⟨p, by simp⟩, fun _ => rfl⟩
  · rw [Go.Maps.has_put_other (kL_ne e), h.has k hk hne]
    constructor
    · rintro ⟨p', hp⟩
      exact ⟨p', List.mem_append_left _ hp⟩
    · rintro ⟨p', hp⟩
      rcases List.mem_append.1 hp with hp | hp
      · exact ⟨p', hp⟩
      · rw [List.mem_singleton] at hp
        injection hp with h1 _
        exact (e h1).elim
end

/-- A way ends at its last node. -/
theorem Goes.back {l : List Edge} {a y : Nat} {r : List Nat} (h : Goes l a r y) : ∃ t, (a :: r).reverse = y :: t := by
  by_cases hne : r = []
  · subst hne
    have h : a = y := h
    subst h
    exact ⟨[], rfl⟩
  · obtain ⟨s, z, rfl⟩ : ∃ s z, r = s ++ [z] := ⟨r.dropLast, r.getLast hne, (List.dropLast_concat_getLast hne).symm⟩
    obtain ⟨_, _, _, rfl⟩ := h.parts
    exact ⟨(a :: s).reverse, by simp⟩

/-- Where the search stands. -/
structure BS (W : World) (tx b : Nat) (Q : List (Nat × List Nat)) (v : Value) (wr : World) : Prop where
  steps : ∃ gs, Stp W tx Q v gs wr
  seen : ∃ m D, m ≤ Q.length ∧ Seen W tx Q b m D wr
  keep : Below W.heap.size W wr
  small : ∀ q ∈ Q, q.1 < 18446744073709551616 ∧ q.2.length < Q.length
theorem BS.keeps {W w w' : World} {tx b : Nat} {Q : List (Nat × List Nat)} {v : Value} (h : BS W tx b Q v w) (hb : Below w.heap.size w w') : BS W tx b Q v w' := by
  obtain ⟨gs, hs⟩ := h.steps
  obtain ⟨m, D, hm, hse⟩ := h.seen
  exact ⟨⟨gs, hs.keeps hb⟩, ⟨m, D, hm, hse.keeps hb⟩, h.keep.trans (hb.mono h.keep.size), h.small⟩
theorem BS.start (W : World) (tx : Nat) (ht : tx < 18446744073709551616) :
    BS W tx (W.heap.size + 1 + 1) [(tx, [])] (.slice (some ⟨W.heap.size + 1, 0, none⟩) 1 1) (((W.alloc (.cells #[.int .u64 (tx : Int), .pointer none] 44)).alloc (.cells #[.pointer (some ⟨W.heap.size, 0, none⟩)] 42)).alloc (.map #[] 0)) := by
  have h1 : Row (W.alloc (.cells #[.int .u64 (tx : Int), .pointer none] 44)) W.heap.size 44 [.int .u64 (tx : Int), .pointer none] (0, 0) := Row.new W 44 [.int .u64 (tx : Int), .pointer none] (0, 0)
  obtain ⟨w1, hw1⟩ : ∃ x, W.alloc (.cells #[.int .u64 (tx : Int), .pointer none] 44) = x := ⟨_, rfl⟩
  have hz : w1.heap.size = W.heap.size + 1 := by rw [← hw1]; simp
  have hk1 : Below W.heap.size W w1 := hw1 ▸ below_new W _
  rw [hw1] at h1 ⊢
  have h2 : (w1.alloc (.cells #[.pointer (some ⟨W.heap.size, 0, none⟩)] 42)).ownsRow w1.heap.size 42 1 (.slice (some ⟨w1.heap.size, 0, none⟩) 1 1) 1 (ptrs [W.heap.size]) := World.ownsRow_lit w1 #[.pointer (some ⟨W.heap.size, 0, none⟩)] 1 (Nat.le_refl _) (by decide) rfl
  have h3 := h1.alloc (.cells #[.pointer (some ⟨W.heap.size, 0, none⟩)] 42)
  have hk2 := Below.alloc hk1 hk1.size (.cells #[.pointer (some ⟨W.heap.size, 0, none⟩)] 42)
  obtain ⟨w2, hw2⟩ : ∃ x, w1.alloc (.cells #[.pointer (some ⟨W.heap.size, 0, none⟩)] 42) = x := ⟨_, rfl⟩
  have hz2 : w2.heap.size = W.heap.size + 1 + 1 := by rw [← hw2, ← hz]; simp
  rw [hw2] at h2 h3 hk2 ⊢
  rw [hz] at h2
  rw [← hz2]
  have h4 : (w2.alloc (.map #[] 0)).ownsRow W.heap.size 42 1 (.slice (some ⟨W.heap.size + 1, 0, none⟩) 1 1) 1 (ptrs [W.heap.size]) := by
    refine ⟨h2.1, ?_⟩
    rcases (World.ownsRow.alloc h2 (.map #[] 0)).2 with ⟨h, _⟩ | ⟨g, cap, cur, hv, hg, rest⟩
    · cases h
    · exact .inr ⟨g, cap, cur, hv, by omega, rest⟩
  refine ⟨⟨[W.heap.size], rfl, h4, fun j g q hg hq => ?_⟩, ⟨0, .map [], Nat.zero_le _, World.ownsMap_made _ _ _ _, by omega, fun k hk hne => ?_⟩, Below.alloc hk2 hk2.size _, fun q hq => ?_⟩
  · match j, hg, hq with
    | 0, hg, hq =>
      obtain rfl : W.heap.size = g := by simpa using hg
      obtain rfl : (tx, []) = q := by simpa using hq
      exact ⟨_, none, rfl, h3.alloc _, rfl⟩
    | j + 1, hg, _ => simp at hg
  · constructor
    · intro h
      cases h
    · rintro ⟨p, hp⟩
      rw [List.mem_singleton] at hp
      injection hp with h1 _
      exact (hne h1).elim
  · rw [List.mem_singleton] at hq
    subst hq
    exact ⟨ht, by simp⟩

theorem ptr_one (a : Option Addr) : ∀ u ∈ ([.pointer a] : List Value), u.oneCell' = true := by
  intro u hu
  rw [List.mem_singleton] at hu
  subst hu
  rfl
theorem take_le {L : List Nat} (h : L.Pairwise (· ≤ ·)) {m : Nat} (hm : m < L.length) : ∀ d ∈ L.take m, d ≤ L[m] := by
  intro d hd
  obtain ⟨i, hi, rfl⟩ := List.getElem_of_mem hd
  rw [List.length_take] at hi
  rw [List.getElem_take]
  exact List.pairwise_iff_getElem.1 h i m (by omega) hm (by omega)
theorem Try.zero_unit (w : World) : (zeroValue 47).run Try.prog w = .ok (.agg #[]) w := by kernel_rfl

set_option maxRecDepth 100000 in
set_option maxHeartbeats 4000000 in
theorem ring_any (l : List Edge) (G : Nat → List Nat) (bg base ng tx : Nat) (DG : DataW Value) (w : World) (h : GM w bg base ng DG G) (hG : ∀ k, k < 18446744073709551616 → (G k).Perm (outs l k) ∧ (G k).Pairwise (· ≤ ·))
    (hn : l.length ≤ 200) (ht : tx < 18446744073709551616) (hu : ∀ e ∈ l, e.1 < 18446744073709551616 ∧ e.2 < 18446744073709551616) :
    Calls Try.prog 12 #[.map (some bg), .int .u64 (tx : Int)] w (RingV l tx w) := by
  obtain ⟨POST, hPO⟩ : ∃ POST, RingV l tx w = POST := ⟨_, rfl⟩
  have HFIN := Lib.hid (fun (r : List Nat) (hr : RingOf l tx r) e w1 w' (h : WayV r.reverse w1 e w') (hk : Below w.heap.size w w1) => show POST e w' from by
    obtain ⟨v, rfl, ho, hb⟩ := h
    rw [List.reverse_reverse] at ho
    obtain ⟨A, c, rfl, hc, hc0, hl⟩ := ownsRow_lit ho
    rw [← hPO]
    exact ⟨A, _, c, r, rfl, rfl, hc, hc0, hl, hr, hk.trans (hb.mono hk.size)⟩)
  rw [hPO]
  clear hPO
  have HGM := Lib.hid h
  have HGG := Lib.hid hG
  have HU := Lib.hid hu
  clear h hG hu
  have hmm := @run_makeMap Try.prog
  go_enter Try.func12, Try.ntmps12
  have H0 := Lib.hid (BS.start w tx ht)
  go_wp2_with fail
  go_step3
  go_wp2_with fail
  go_step3
  go_wp2_with fail
  obtain ⟨b, hb⟩ : ∃ x, w.heap.size + 1 + 1 = x := ⟨_, rfl⟩
  rw [hb] at H0 ⊢
  clear hb
  go_loopw [5, 7, 8] (fun v p i wr => ∃ (n : Nat) (Q : List (Nat × List Nat)), n ≤ Q.length ∧ p = .pointer none ∧ i = .int .i64 n ∧ Hid (Queue l tx Q n ∧ Kin Q n) ∧ Hid (BS w tx b Q v wr)) (fun _ _ i _ => l.length + 2 - (intOf i).toNat)
  case atStart => exact ⟨0, [(tx, [])], by simp, rfl, rfl, Lib.hid ⟨Queue.start l tx, Kin.start tx⟩, H0⟩
  case round =>
    clear H0
    obtain ⟨n, Q, hnQ, rfl, rfl, HQ, HB⟩ := hrel
    have hql := HQ.out.1.len
    obtain ⟨gs, hst⟩ := HB.out.steps
    by_cases hlt : n < Q.length
    · have hI : (n : Int) < (Q.length : Int) := by omega
      obtain ⟨A, c, g, off, hv, rfl, hcc, s, q, hs, hq, cs, hch⟩ := hst.at_ hlt
      subst hv
      have hqm := List.mem_of_getElem? hq
      obtain ⟨t, ht2⟩ := (HQ.out.1.goes q hqm).back
      rw [ht2] at hch
      obtain ⟨gq, pq, e1, hrow, _⟩ := hch
      injection e1 with e1
      injection e1 with e1 _ _
      subst e1
      have c0 : wr.cell? ⟨s, 0, none⟩ = some (.int .u64 (q.1 : Int)) := hrow.cell 0
      have hq64 := (HB.out.small q hqm).1
      obtain ⟨vg, hrun, hat, _⟩ := (HGM.out.keeps HB.out.keep).look hq64 (Try.zero_row wr)
      obtain ⟨v1, hv1, hgo⟩ := HGM.out.row q.1 hq64
      rw [hat] at hv1
      injection hv1 with hv1
      subst hv1
      obtain ⟨Ag, cg, rfl, hcg, _, hlg⟩ := ownsRow_lit hgo
      have HW := Lib.hid (HQ.out.1.begin HQ.out.2 hq)
      have HKN := Lib.hid (HQ.out.2.mono (Nat.le_succ n))
      obtain ⟨hper, hsrt⟩ := HGG.out q.1 hq64
      have HM := Lib.hid (show ∀ z, z ∈ G q.1 ↔ (q.1, z) ∈ l from fun z => hper.mem_iff.trans mem_outs)
      have HSO := Lib.hid hsrt
      have HLG := Lib.hid hlg
      have HLN := Lib.hid (show (G q.1).length ≤ 200 from by have := hper.length_eq; have := outs_length l q.1; omega)
      obtain ⟨Lq, hLq⟩ : ∃ x, G q.1 = x := ⟨_, rfl⟩
      rw [hLq] at hcg HM HSO HLG HLN hrun
      obtain ⟨x, hx⟩ : ∃ x, q.1 = x := ⟨_, rfl⟩
      rw [hx] at c0 hrun HM
      have HX := Lib.hid hx
      clear hLq hrow hgo hper hsrt hlg ht2 hst hs hx hq64 hat
      have HQQ := Lib.hid (⟨hq, hqm⟩ : Q[n]? = some q ∧ q ∈ Q)
      clear hq hqm
      have hlq : Lq.length ≤ 200 := HLN.out
      go_wp2_with fail
      clear cs c0 hrun
      obtain ⟨wo, rfl⟩ : ∃ wo, wo = wr := ⟨wr, rfl⟩
      go_loopw [5, 7, 34] (fun v p m wr2 => ∃ (j : Nat) (Q2 : List (Nat × List Nat)), j ≤ Lq.length ∧ p = .pointer none ∧ m = .int .i64 j ∧ Hid (Within l tx Q2 n q (Lq.take j) ∧ Kin Q2 (n + 1)) ∧ Hid (BS w tx b Q2 v wr2)) (fun _ _ m _ => Lq.length - (intOf m).toNat)
      case atStart => exact ⟨0, Q, by omega, rfl, rfl, Lib.hid ⟨HW.out, HKN.out⟩, HB⟩
      case round =>
        clear HB HW HKN HQQ HQ hI hcc hlt hnQ hql
        obtain ⟨j, Q2, hj, rfl, rfl, HWI, HB⟩ := hrel
        have hql := HWI.out.1.queue.len
        have hqn := HWI.out.1.at_
        have hlt : n < Q2.length := (List.getElem?_eq_some_iff.1 hqn).1
        have hI : (n : Int) < (Q2.length : Int) := by omega
        by_cases hjl : j < Lq.length
        · have hJ : (j : Int) < (Lq.length : Int) := by omega
          obtain ⟨g3, off3, rfl, cz⟩ := (HLG.out.keep HB.out.keep).num hjl
          have HLE := Lib.hid (take_le HSO.out hjl)
          have HTK := Lib.hid (List.take_succ_eq_append_getElem hjl)
          have HZL := Lib.hid ((HM.out _).1 (List.getElem_mem hjl))
          obtain ⟨z, hz⟩ : ∃ z, Lq[j] = z := ⟨_, rfl⟩
          rw [hz] at cz HLE HTK HZL
          clear hz
          have HZ := Lib.hid (HU.out _ HZL.out).2
          obtain ⟨gs2, hst⟩ := HB.out.steps
          obtain ⟨A2, c2, g2, off2, hv, rfl, hcc, s2, q2, hs, hq, cs, hch⟩ := hst.at_ hlt
          rw [hqn] at hq
          injection hq with hq
          subst hq hv
          by_cases hzt : z = tx
          · have bz : ((z : Int) == (tx : Int)) = true := by simp [hzt]
            have HWY := Lib.hid (way_any (tx :: q.2).reverse (some ⟨s2, 0, none⟩) _ hch (by
              have := (HB.out.small q (List.mem_of_getElem? hqn)).2
              simp
              omega))
            have HF := Lib.hid (HFIN.out _ (Within.found HWI.out.1.queue hqn (by rw [← hzt, HX.out]; exact HZL.out)))
            have HK := Lib.hid HB.out.keep
            clear hst hs hch hqn hzt HB HWI HM HSO HLG HLE HTK HZL HZ HX HGM HGG HU HFIN
            go_wp2_with fail
            refine HWY.out.mono ?_
            rintro e w3 hw3
            have HE := Lib.hid (HF.out e _ w3 hw3 HK.out)
            obtain ⟨vv, rfl, _, _⟩ := hw3
            clear HWY HF HK
            go_wp2_with fail
            try rw [Exit.noGoto_ret]
            first
              | exact HE.out
              | (trace_state; sorry)
          · have bz : ((z : Int) == (tx : Int)) = false := beq_false_of_ne (by omega)
            obtain ⟨m, D, hm, hse⟩ := HB.out.seen
            have HSE := Lib.hid hse
            have HST := Lib.hid hst
            have HNE := Lib.hid hzt
            have HCH := Lib.hid (⟨hs, hqn⟩ : gs2[n]? = some s2 ∧ Q2[n]? = some q)
            have HKZ := Lib.hid (key64 HZ.out)
            clear hse hst hzt hs hqn hch
            by_cases hh : Go.Maps.has D (kL z) = true
            · have HNW := Lib.hid (show Within l tx Q2 n q (Lq.take (j + 1)) from by
                rw [HTK.out]
                exact HWI.out.1.old HNE.out HLE.out ((HSE.out.has z HZ.out HNE.out).1 hh))
              have HKI := Lib.hid HWI.out.2
              clear HLE HTK HZL HWI HCH HNE
              go_wp2_with (first | (at_lookup; refine wpList_lookup_own_unit _ rfl (.tmp 46) (.tmp 47) 46 (by rfl) 23 47 law64 Try.underlying46 (Try.zero_unit _) b m D (by rfl) HSE.out.map (.int .u64 (z : Int)) (kL z) (by rfl) HKZ.out ?_) | fail)
              exact ⟨⟨j + 1, Q2, by omega, rfl, by go_num, Lib.hid ⟨HNW.out, HKI.out⟩, Lib.hid (HB.out.keeps (below_new wr _))⟩, by simp [intOf]; omega⟩
            · have hh : Go.Maps.has D (kL z) = false := by simpa using hh
              have HNO := Lib.hid (show ∀ p, (z, p) ∉ Q2 from fun p hp => by
                have := (HSE.out.has z HZ.out HNE.out).2 ⟨p, hp⟩
                rw [hh] at this
                cases this)
              have HNW := Lib.hid (show Within l tx (Q2 ++ [(z, q.2 ++ [z])]) n q (Lq.take (j + 1)) from by
                rw [HTK.out]
                exact HWI.out.1.new (by rw [HX.out]; exact HZL.out) HNE.out HLE.out HNO.out)
              have HKI := Lib.hid (HWI.out.2.new HWI.out.1.at_ z)
              have HMB := Lib.hid (HSE.out.keeps (below_new wr (.cells #[] 47)))
              have HSB := Lib.hid (HST.out.keeps (below_new wr (.cells #[] 47)))
              have HKB := Lib.hid (Below.alloc HB.out.keep HB.out.keep.size (.cells #[] 47))
              have HSM := Lib.hid HB.out.small
              clear HLE HTK HZL HWI HNE HNO HB
              have HP3 := Lib.hid (fun w3 (hg : (wr.alloc (.cells #[] 47)).grownBy w3 (some b)) => HSB.out.aside HMB.out.map hg)
              have HK3 := Lib.hid (fun w3 (hg : (wr.alloc (.cells #[] 47)).grownBy w3 (some b)) => show Below w.heap.size w w3 from Below.grown HKB.out hg HKB.out.size (fun g hg => by injection hg with hg; have := HMB.out.low; omega))
              have HC3 := Lib.hid (show ∀ w3, (wr.alloc (.cells #[] 47)).grownBy w3 (some b) → w3.cell? ⟨g2, off2 + n, none⟩ = some (.pointer (some ⟨s2, 0, none⟩)) from fun w3 hg => by
                obtain ⟨A', c', g', off', hv', hA', _, s', q', hs', hq', cs', _⟩ := (HP3.out w3 hg).at_ hlt
                injection hv' with hv1 _ _
                rw [← hv1] at hA'
                injection hA' with hA'
                injection hA' with hA1 hA2 _
                rw [HCH.out.1] at hs'
                injection hs' with hs'
                rw [hA1, hA2, hs']
                exact cs')
              obtain ⟨iP, hiP, hzP, hsP, hbP⟩ := info_parts Try.infoStepP
              have HQ3 := Lib.hid (fun w3 (hg : (wr.alloc (.cells #[] 47)).grownBy w3 (some b)) => show ((w3.alloc (.cells #[.int .u64 (z : Int), .pointer (some ⟨s2, 0, none⟩)] 44)).alloc (.cells #[.pointer (some ⟨w3.heap.size, 0, none⟩)] 42)).ownsRow w.heap.size 42 1 (.slice (some ⟨g2, off2, none⟩) Q2.length c2) Q2.length (ptrs gs2) ∧ w.heap.size ≤ ((w3.alloc (.cells #[.int .u64 (z : Int), .pointer (some ⟨s2, 0, none⟩)] 44)).alloc (.cells #[.pointer (some ⟨w3.heap.size, 0, none⟩)] 42)).heap.size from
                ⟨World.ownsRow.alloc (World.ownsRow.alloc (HP3.out w3 hg).row _) _, by have := (HK3.out w3 hg).size; simp; omega⟩)
              have HN3 := Lib.hid (fun (w3 : World) => show ∀ j u, ([.pointer (some ⟨w3.heap.size, 0, none⟩)] : List Value)[j]? = some u → ((w3.alloc (.cells #[.int .u64 (z : Int), .pointer (some ⟨s2, 0, none⟩)] 44)).alloc (.cells #[.pointer (some ⟨w3.heap.size, 0, none⟩)] 42)).cell? ((⟨w3.heap.size + 1, 0, none⟩ : Addr).add j) = some u from fun j u hj => by
                have := new_one (w3.alloc (.cells #[.int .u64 (z : Int), .pointer (some ⟨s2, 0, none⟩)] 44)) 42 (.pointer (some ⟨w3.heap.size, 0, none⟩)) j u hj
                rwa [size_new] at this)
              have hq2 : Q2.length ≤ 201 := by omega
              go_wp2_with (first
                | (at_lookup; refine wpList_lookup_own_unit _ rfl (.tmp 46) (.tmp 47) 46 (by rfl) 23 47 law64 Try.underlying46 (Try.zero_unit _) b m D (by rfl) HSE.out.map (.int .u64 (z : Int)) (kL z) (by rfl) HKZ.out ?_)
                | (at_mapUpdate; refine wpList_mapUpdate_own _ rfl (.tmp 53) (.tmp 54) (.tmp 55) 46 (by rfl) 23 47 law64 Try.underlying46 unitElem b m D (by rfl) HMB.out.map (by unfold maxLen; omega) (.int .u64 (z : Int)) _ (kL z) (by rfl) rfl HKZ.out (.agg []) [] unitElem_mk ?_; intro w3 hm3 hg3; have c3 := HC3.out w3 hg3)
                | (at_builtin; refine wpList_append_own_at _ rfl (.tmp 56) (.tmp 64) 45 (by rfl) w.heap.size 42 iP _ 1 8 Try.underlying45 hiP hzP hsP hbP rfl (by decide) _ Q2.length (ptrs gs2) (by rfl) (HQ3.out w3 hg3).1 ⟨w3.heap.size + 1, 0, none⟩ 1 1 [.pointer (some ⟨w3.heap.size, 0, none⟩)] (by rfl) rfl (HN3.out w3) (ptr_one _) (by unfold maxLen; omega) (by omega) (HQ3.out w3 hg3).2 ?_; intro v' w4 h5 h6 h7 h8)
                | fail)
              have HBN := Lib.hid (show BS w tx b (Q2 ++ [(z, q.2 ++ [z])]) v' w4 from by
                have hb3 := (Below.refl w3.heap.size w3).alloc (Nat.le_refl _) (.cells #[.int .u64 (z : Int), .pointer (some ⟨s2, 0, none⟩)] 44)
                have hr3 : Row (w3.alloc (.cells #[.int .u64 (z : Int), .pointer (some ⟨s2, 0, none⟩)] 44)) w3.heap.size 44 [.int .u64 (z : Int), .pointer (some ⟨s2, 0, none⟩)] (0, 0) := Row.new w3 44 [.int .u64 (z : Int), .pointer (some ⟨s2, 0, none⟩)] (0, 0)
                have hb4 := below_new (w3.alloc (.cells #[.int .u64 (z : Int), .pointer (some ⟨s2, 0, none⟩)] 44)) (.cells #[.pointer (some ⟨w3.heap.size, 0, none⟩)] 42)
                have hst3 := ((HP3.out w3 hg3).keeps hb3).keeps hb4
                have hse3 := ((HMB.out.push HZ.out (q.2 ++ [z]) hm3).keeps hb3).keeps hb4
                have hk3 := Below.alloc (Below.alloc (HK3.out w3 hg3) (HK3.out w3 hg3).size (.cells #[.int .u64 (z : Int), .pointer (some ⟨s2, 0, none⟩)] 44)) (Nat.le_trans (HK3.out w3 hg3).size hb3.size) (.cells #[.pointer (some ⟨w3.heap.size, 0, none⟩)] 42)
                refine ⟨⟨_, hst3.push HCH.out.1 HCH.out.2 (hr3.alloc _) h5 h6⟩, ⟨m + 1, _, by simp; omega, hse3.aside hst3.row h6⟩, Below.grown hk3 h6 hk3.size (fun g hg => (hst3.row.lt g hg).1), fun q' hq' => ?_⟩
                rcases List.mem_append.1 hq' with hq' | hq'
                · have := HSM.out q' hq'
                  exact ⟨this.1, by rw [List.length_append]; have := this.2; omega⟩
                · rw [List.mem_singleton] at hq'
                  subst hq'
                  have := (HSM.out q (List.mem_of_getElem? HCH.out.2)).2
                  exact ⟨HZ.out, by simp; omega⟩)
              exact ⟨⟨j + 1, _, by omega, rfl, by go_num, Lib.hid ⟨HNW.out, HKI.out⟩, HBN⟩, by simp [intOf]; omega⟩
        · have hJ : ¬ (j : Int) < (Lq.length : Int) := by omega
          obtain rfl : j = Lq.length := by omega
          have HQN := Lib.hid (show Queue l tx Q2 (n + 1) ∧ Kin Q2 (n + 1) from ⟨HWI.out.1.next fun z hz => by rw [List.take_length, HM.out, ← HX.out]; exact hz, HWI.out.2⟩)
          clear hqn HWI HM HSO HLG HX HGM HGG HU HFIN
          go_wp2_with fail
          go_roundw
          case rel => exact ⟨n + 1, Q2, by omega, rfl, by go_num, HQN, HB⟩
          case measure => simp [intOf]; omega
    · have hI : ¬ (n : Int) < (Q.length : Int) := by omega
      obtain rfl : n = Q.length := by omega
      obtain ⟨A, c, hv, _⟩ := ownsRow_lit hst.row
      subst hv
      have HWY := Lib.hid (way_any [] none wr rfl (by simp))
      have HF := Lib.hid (HFIN.out [] HQ.out.1.none)
      have HK := Lib.hid HB.out.keep
      clear hst HQ HB HGM HGG HU HFIN
      go_wp2_with fail
      refine HWY.out.mono ?_
      rintro e w3 hw3
      have HE := Lib.hid (HF.out e _ w3 hw3 HK.out)
      obtain ⟨vv, rfl, _, _⟩ := hw3
      clear HWY HF HK
      go_wp2_with fail
      try rw [Exit.noGoto_ret]
      first
        | exact HE.out
        | (trace_state; sorry)

set_option maxRecDepth 100000 in
set_option maxHeartbeats 4000000 in
theorem ring_held : RingC := by
  intro l A c tx w h hc hc2 hnil hn ht hu
  obtain ⟨POST, hPO⟩ : ∃ POST, RingV l tx w = POST := ⟨_, rfl⟩
  have HGR := Lib.hid (graph_any l A c w h hc hn hu)
  have HRI := Lib.hid (fun b base n D G (w1 : World) (h1 : GM w1 b base n D G) (h2 : ∀ k, k < 18446744073709551616 → (G k).Perm (outs l k) ∧ (G k).Pairwise (· ≤ ·)) => ring_any l G b base n tx D w1 h1 h2 hn ht hu)
  have HFIN := Lib.hid (fun (w1 : World) (hb : Below w.heap.size w w1) e w' (h : RingV l tx w1 e w') => show POST e w' from by
    obtain ⟨A, n, c, r, he, h1, h2, h3, h4, h5, h6⟩ := h
    rw [← hPO]
    exact ⟨A, n, c, r, he, h1, h2, h3, h4, h5, hb.trans (h6.mono hb.size)⟩)
  rw [hPO]
  clear hPO h hu
  have hn2 : ¬ (5000 : Int) < (l.length : Int) := by omega
  go_enter Try.func8, Try.ntmps8
  go_wp2_with fail
  refine HGR.out.mono ?_
  rintro e w1 ⟨b, base, n, D, G, rfl, hgm, hG, hb⟩
  have HR := Lib.hid (HRI.out b base n D G w1 hgm hG)
  have HB := Lib.hid hb
  clear hgm hG hb HGR HRI
  go_wp2_with fail
  refine HR.out.mono ?_
  rintro e w2 hr
  have HE := Lib.hid (HFIN.out w1 HB.out e w2 hr)
  obtain ⟨A, n, c, r, rfl, _⟩ := hr
  clear HFIN HR
  go_wp2_with fail
  exact HE.out

end Go.Proofs.Ytbkhojopiimbdaa
