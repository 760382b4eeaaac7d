/-
  A map from transactions to rows of their own, plainly: where each key's slice lies is what the map reads as; what it holds, and that no two lie in one block, stands beside it. A row sorted in place.
-/
import Derived.Test.YtbkhojopiimbdaaWaiSortL
import Derived.Maps.RangeWalk
import Derived.Maps.AppendAt
namespace Go.Proofs.Ytbkhojopiimbdaa
open Go.RowKit
open Go.Maps (Keyed)

/-- An element of such a map reads as itself. -/
abbrev tokR (v : Value) : Option (DataW Value × List MemPlace) := some (.held v, [])
def nilS : Value := .slice none 0 0
abbrev kL (k : Nat) : Lit := .int .u64 (k : Int)
theorem law64 : Keyed Try.prog 23 := Go.Maps.int_keyed Try.underlying23
theorem wf64 {k : Nat} (h : k < 18446744073709551616) : (kL k).wf = true := WalkArith.wf_u64 (by omega)
theorem key64 {k : Nat} (h : k < 18446744073709551616) : keyOf Try.prog 23 (.int .u64 (k : Int)) = some (kL k) := Go.Maps.keyOf_int_mk Try.underlying23 (wf64 h)
theorem kL_key {k : Nat} (h : k < 18446744073709551616) : WideAt.IsKeyLit (kL k) := law64.key (key64 h)
theorem kL_inj {k j : Nat} (h : kL k = kL j) : k = j := by
  injection h with _ h
  omega
theorem kL_ne {k j : Nat} (h : k ≠ j) : kL k ≠ kL j := fun e => h (kL_inj e)
theorem kL_same {k j : Nat} (h : k < 18446744073709551616) : (kL k).sameKey (kL j) = decide (k = j) := by
  by_cases e : k = j
  · subst e
    rw [WideAt.sameKey_self (kL_key h)]; simp
  · rw [Go.Maps.sameKey_ne (kL_ne e)]; simp [e]

/-- Block b is a map that reads as D; the slice at a key holds that key's numbers in memory from base on; no two keys' slices lie in one block. -/
structure GM (w : World) (b base n : Nat) (D : DataW Value) (G : Nat → List Nat) : Prop where
  map : w.ownsMap Try.prog 23 tokR b n D
  low : b < base
  row : ∀ k, k < 18446744073709551616 → ∃ v, D.atKey (kL k) (.held nilS) = .held v ∧ w.ownsRow base 23 1 v (G k).length (nv (G k))
  apart : ∀ k j v u, k < 18446744073709551616 → j < 18446744073709551616 → k ≠ j → D.atKey (kL k) (.held nilS) = .held v → D.atKey (kL j) (.held nilS) = .held u → v.ownBlock = none ∨ v.ownBlock ≠ u.ownBlock

theorem ownsRow_ge {w : World} {base n : Nat} {e : TypeId} {v : Value} {xs : List Value} (h : w.ownsRow base e 1 v n xs) {g : Nat} (hg : v.ownBlock = some g) : base ≤ g := (h.lt g hg).1

section
variable {w w1 w2 : World} {b base n : Nat} {D : DataW Value} {G : Nat → List Nat}

theorem GM.made (w : World) : GM (w.alloc (.map #[] 0)) w.heap.size (w.heap.size + 1) 0 (.map []) (fun _ => []) :=
  ⟨World.ownsMap_made _ _ _ _, Nat.lt_succ_self _, fun k _ => ⟨nilS, rfl, World.ownsRow_nil _ _ _ _⟩, fun k j v u _ _ _ hv _ => by
    obtain rfl : v = nilS := by
      have : DataW.held nilS = DataW.held v := hv
      injection this with h
      exact h.symm
    exact .inl rfl⟩

theorem GM.keeps (h : GM w b base n D G) (hb : Below w.heap.size w w1) : GM w1 b base n D G :=
  ⟨h.map.kept (row := none) (only_below hb none) (by simp), h.low, fun k hk => by
    obtain ⟨v, hv, ho⟩ := h.row k hk
    exact ⟨v, hv, ho.keeps hb⟩, h.apart⟩

/-- One number more at a key. -/
theorem GM.push (h : GM w b base n D G) {k z : Nat} {v v' : Value} (hk : k < 18446744073709551616) (hv : D.atKey (kL k) (.held nilS) = .held v)
    (hg : w.grownBy w1 v.ownBlock) (ho : w1.ownsRow base 23 1 v' ((G k).length + 1) (nv (G k ++ [z]))) (hloc : v'.ownBlock = v.ownBlock ∨ ∃ g, v'.ownBlock = some g ∧ w.heap.size ≤ g)
    (hm : w2.ownsMap Try.prog 23 tokR b (n + 1) (D.put (kL k) (.held v'))) (hg2 : w1.grownBy w2 (some b)) :
    GM w2 b base (n + 1) (D.put (kL k) (.held v')) (fun j => if j = k then G k ++ [z] else G j) := by
  have hfar : ∀ {u : Value} {m : Nat} {xs : List Value}, w1.ownsRow base 23 1 u m xs → w2.ownsRow base 23 1 u m xs := fun {u m xs} hu => by
    refine hu.kept hg2 ?_
    cases hx : u.ownBlock with
    | none => exact .inl rfl
    | some g =>
      refine .inr fun e => ?_
      injection e with e
      have := ownsRow_ge hu hx
      have := h.low
      omega
  have hold : ∀ {j : Nat} {u : Value}, j < 18446744073709551616 → j ≠ k → D.atKey (kL j) (.held nilS) = .held u → u.ownBlock = none ∨ u.ownBlock ≠ v'.ownBlock := fun {j u} hj hne hu => by
    rcases hloc with e | ⟨g, e, hgg⟩
    · rw [e]
      exact h.apart j k u v hj hk hne hu hv
    · obtain ⟨u', hu', hr⟩ := h.row j hj
      rw [hu] at hu'
      injection hu' with hu'
      subst hu'
      cases hx : u.ownBlock with
      | none => exact .inl rfl
      | some g' =>
        refine .inr fun e' => ?_
        rw [e] at e'
        injection e' with e'
        have := (hr.lt g' hx).2
        omega
  refine ⟨hm, h.low, fun j hj => ?_, fun i j u u' hi hj hij hu hu' => ?_⟩
  · by_cases e : j = k
    · subst e
      refine ⟨v', Go.Maps.atKey_put_same h.map.isMap (kL_key hj) _ _, ?_⟩
      simp only [if_pos]
      rw [List.length_append]
      exact hfar ho
    · obtain ⟨u, hu, hr⟩ := h.row j hj
      refine ⟨u, (Go.Maps.atKey_put_other (kL_ne e) _ _).trans hu, ?_⟩
      simp only [if_neg e]
      exact hfar (hr.kept hg (h.apart j k u v hj hk e hu hv))
  · by_cases ei : i = k
    · subst ei
      rw [Go.Maps.atKey_put_same h.map.isMap (kL_key hi)] at hu
      injection hu with hu
      subst hu
      rw [Go.Maps.atKey_put_other (kL_ne (Ne.symm hij))] at hu'
      cases hx : v'.ownBlock with
      | none => exact .inl rfl
      | some g =>
        refine .inr fun e => ?_
        rcases hold hj (Ne.symm hij) hu' with h1 | h1
        · rw [h1] at e; cases e
        · exact h1 (by rw [hx, e])
    · rw [Go.Maps.atKey_put_other (kL_ne ei)] at hu
      by_cases ej : j = k
      · subst ej
        rw [Go.Maps.atKey_put_same h.map.isMap (kL_key hj)] at hu'
        injection hu' with hu'
        subst hu'
        exact hold hi ei hu
      · rw [Go.Maps.atKey_put_other (kL_ne ej)] at hu'
        exact h.apart i j u u' hi hj hij hu hu'

/-- A key's row is turned in place. -/
theorem GM.turn (h : GM w b base n D G) {k : Nat} {v : Value} {l' : List Nat} (hk : k < 18446744073709551616) (hv : D.atKey (kL k) (.held nilS) = .held v)
    (hg : w.grownBy w1 v.ownBlock) (ho : w1.ownsRow base 23 1 v l'.length (nv l')) : GM w1 b base n D (fun j => if j = k then l' else G j) := by
  refine ⟨h.map.kept hg fun e => ?_, h.low, fun j hj => ?_, h.apart⟩
  · have := ownsRow_ge ho e.symm
    have := h.low
    omega
  · by_cases e : j = k
    · subst e
      exact ⟨v, hv, by simp only [if_pos]; exact ho⟩
    · obtain ⟨u, hu, hr⟩ := h.row j hj
      exact ⟨u, hu, by simp only [if_neg e]; exact hr.kept hg (h.apart j k u v hj hk e hu hv)⟩

/-- What is not there holds nothing. -/
theorem GM.gone (h : GM w b base n D G) {k : Nat} (hk : k < 18446744073709551616) (hn : Go.Maps.has D (kL k) = false) : G k = [] := by
  obtain ⟨v, hv, ho⟩ := h.row k hk
  rw [Go.Maps.atKey_of_not_has hn] at hv
  injection hv with hv
  subst hv
  rcases ho.2 with ⟨_, h0⟩ | ⟨g, cap, cur, hx, _⟩
  · exact List.eq_nil_of_length_eq_zero h0
  · cases hx

/-- The slice at a key, for the walk. -/
theorem GM.look (h : GM w b base n D G) {k : Nat} (hk : k < 18446744073709551616) (hz : (zeroValue 26).run Try.prog w = .ok nilS w) :
    ∃ v, (Instr.lookup 34 (.map (some b)) (.int .u64 (k : Int)) false).run Try.prog w = .ok v w ∧ D.atKey (kL k) (.held nilS) = .held v ∧ w.ownsRow base 23 1 v (G k).length (nv (G k)) := by
  obtain ⟨v, hv, ho⟩ := h.row k hk
  obtain ⟨u, ps, hrun, hu⟩ := h.map.lookup law64 Try.underlying34 hz (zd := .held nilS) (zp := []) rfl (key64 hk)
  rw [hv] at hu
  obtain rfl : u = v := by
    have : some (DataW.held u, ([] : List MemPlace)) = some (DataW.held v, ps) := hu
    injection this with this
    injection this with this _
    injection this
  exact ⟨u, hrun, hv, ho⟩
end
theorem Try.zero_row (w : World) : (zeroValue 26).run Try.prog w = .ok nilS w := by kernel_rfl

/-- A row of numbers of the call's own, sorted in place. -/
theorem sort_own (w : World) (base : Nat) (v : Value) (l : List Nat) (h : w.ownsRow base 23 1 v l.length (nv l)) (hl : l.length ≤ 1000) :
    Calls Try.prog 14 #[v] w fun e w' => e = .returned (.tuple #[]) ∧ ∃ l' : List Nat, l'.Perm l ∧ l'.Pairwise (· ≤ ·) ∧ w'.ownsRow base 23 1 v l'.length (nv l') ∧ w.grownBy w' v.ownBlock := by
  obtain ⟨hlen, h0 | ⟨g, cap, cur, rfl, hg, hb, hc, hm, hsz, ht⟩⟩ := h
  · obtain ⟨rfl, hl0⟩ := h0
    obtain rfl := List.eq_nil_of_length_eq_zero hl0
    refine (sort_nil w).mono fun e w' ⟨he, hw⟩ => ⟨he, [], List.Perm.refl _, List.Pairwise.nil, ?_, ?_⟩
    · rw [hw]; exact ⟨hlen, .inl ⟨rfl, rfl⟩⟩
    · rw [hw]; exact only_refl _ _
  · rw [Nat.mul_one] at ht hsz
    obtain ⟨rest, hrest⟩ : ∃ rest, cur.toList.drop l.length = rest := ⟨_, rfl⟩
    have hcur : cur = (nv l.toArray.toList ++ rest).toArray := by
      rw [← hrest, List.toList_toArray, ← ht, List.take_append_drop]
    have hrow : Row w g 23 (nv l.toArray.toList ++ rest) (0, 0) := by
      show w.heap[g]? = _
      rw [hb, hcur]
    have hs : SD w g rest l.toArray w := ⟨hrow, only_refl _ _⟩
    refine (sort_row w g l.length cap rest l.toArray w hs (by simp) (by omega)).mono fun e w' ⟨he, d, hd, hp, hso, hsd⟩ => ?_
    obtain ⟨hd2, hpl⟩ := perm_list rfl hp
    have hdl : d.toList.length = l.length := by simpa using hd2
    refine ⟨he, d.toList, hpl, sorted_list hd2 hso, ⟨by rw [nv_length, Nat.mul_one], .inr ⟨g, cap, _, by rw [hdl], hg, hsd.row, by rw [hdl]; exact hc, hm, ?_, ?_⟩⟩, hsd.grow⟩
    · have h1 : cur.size = cap := hsz
      rw [hcur] at h1
      simp only [List.size_toArray, List.length_append, nv_length] at h1 ⊢
      try simp only [List.toList_toArray] at h1
      omega
    · rw [Nat.mul_one]
      show (nv d.toList ++ rest).take _ = _
      rw [List.take_append_of_le_length (by rw [nv_length]; exact Nat.le_refl _), List.take_of_length_le (by rw [nv_length]; exact Nat.le_refl _)]

end Go.Proofs.Ytbkhojopiimbdaa
