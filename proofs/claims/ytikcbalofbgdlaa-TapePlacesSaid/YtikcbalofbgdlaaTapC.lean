/-
  The walks over package tape: Read, Drop, Cut, Crash, Copy.
-/
import Derived.Test.YtikcbalofbgdlaaTapB
import Derived.Laws.BytesArg
import Derived.Laws.BytesString
import Derived.Lib.SliceRun
namespace Go.Proofs.Ytikcbalofbgdlaa
open Go.RowKit

theorem run_text_ {P : Program} {T src : TypeId} {e : TypeId} (hs : P.underlying src = some (.slice e)) (he : P.underlying e = some (.int .u8)) (w : World) (A : Option Addr) (l : List UInt8) (n c : Nat) (hn : l.length = n) (hr : Reads T w A l) :
    ∀ dst, P.underlying dst = some .string → (convert src dst (.slice A n c)).run P w = .ok (.string ⟨l.toArray⟩) w := by
  subst hn
  intro dst hd
  rcases Nat.eq_zero_or_pos l.length with h0 | h0
  · obtain rfl : l = [] := List.eq_nil_of_length_eq_zero h0
    rw [run_convert_bytes_string w src dst e A _ c hs he hd]
    cases A with
    | none => simp [Conv.bytesToString]; rfl
    | some a =>
      have := run_bytesToString (P := P) w a 0 c [] (by simp [loadCells]; rfl)
      exact this
  · obtain ⟨g, off, cs, m, rfl, hrow, hc⟩ := hr h0
    have h := run_convert_bytes_arg (P := P) w src e hs he g off l.length c (l.map fun b => (b.toNat : Int)) (by simp) (fun i hi => by
      rw [hrow.cell, hc i hi, byt_get l i hi]
      simp [List.getD, List.getElem?_eq_getElem hi]) dst hd
    have e : strOfNums (l.map fun b => (b.toNat : Int)) = ⟨l.toArray⟩ := by
      unfold strOfNums
      rw [List.map_map, show ((fun n : Int => UInt8.ofNat n.toNat) ∘ fun b : UInt8 => (b.toNat : Int)) = id from funext fun b => by simp, List.map_id]
    rw [h, e]

section
variable (d : TV) (w : World)
/-- What a call asks of the offsets: in a world that has come since. -/
theorem keep_three (h : d.In w) : ∀ wx, Below w.heap.size w wx → Below w.heap.size w wx ∧ wx.cell? ⟨d.A, 3, none⟩ = some (.int .u64 (d.s.base : Int)) ∧ wx.cell? ⟨d.A, 4, none⟩ = some (.int .u64 (d.s.sure : Int)) := fun _ hb => ⟨hb, (h.keeps hb).c3, (h.keeps hb).c4⟩
theorem end_since (h : d.In w) : ∀ wx, Below w.heap.size w wx → Calls Try.prog 35 #[d.ptr] wx fun e w' => e = .returned (.int .u64 (d.s.fin : Int)) ∧ Below w.heap.size w w' := fun wx hb =>
  (end_any d wx (h.keeps hb)).mono fun _ _ hh => ⟨hh.1, hh.2 ▸ hb.drew⟩
theorem order_since (l : List Nat) (n : Nat) (hl : l.length = n) (hn : n ≤ 1000) (b : Bool) (hb : inOrd l = b) (cs : Array Value) (hcs : cs = (nums64 l).toArray) : ∀ wx, Below w.heap.size w wx → Calls Try.prog 39 #[.slice (some ⟨wx.heap.size, 0, none⟩) n n] (wx.alloc (.cells cs 48)) fun e w' => e = .returned (.bool b) ∧ Below w.heap.size w w' := fun wx hw =>
  (order_new l n wx hl hn cs hcs).mono fun _ _ hh => ⟨by rw [hh.1, hb], hw.trans (hh.2.mono hw.size)⟩
end

set_option maxRecDepth 100000 in
set_option maxHeartbeats 2000000 in
theorem read_any (d : TV) (a b : Nat) (w : World) (h : d.In w) : Calls Try.prog 19 #[d.ptr, .int .u64 (a : Int), .int .u64 (b : Int)] w fun e w' => e = .returned (.tuple #[.string (d.s.read a b), .int .i64 (if d.s.reads a b then 0 else 2)]) ∧ Below w.heap.size w w' := by
  have HN := Lib.hid (isNone_any d w h)
  have HC := Lib.hid (keep_three d w h)
  have HE := Lib.hid (end_since d w h)
  have HO := Lib.hid (order_since w [d.s.base, a, b, d.s.fin] 4 rfl (by omega) (decide (d.s.reads a b)) (by rw [inOrd_four]; rfl) _ rfl)
  have hk0 : Below w.heap.size w w.drew := (Below.refl _ w).drew
  simp only [nums64, List.map_cons, List.map_nil] at HO
  by_cases hrd : d.s.reads a b
  · have HP := Lib.hid (fun (wx : World) (hb : Below w.heap.size w wx) => piece_any d a b wx (h.keeps hb) hrd.1 hrd.2.1 hrd.2.2)
    have HT := Lib.hid (show ∀ wx, Below w.heap.size w wx → ∀ wy, wy = wx.drew → (convert 47 9 (.slice (if b - d.s.base = a - d.s.base then d.v else d.v.map (·.add (a - d.s.base))) ((b - d.s.base) - (a - d.s.base)) ((b - d.s.base) - (a - d.s.base)))).run Try.prog wy = .ok (.string (d.s.read a b)) wy ∧ Below w.heap.size w wy from fun wx hb wy hy => by
      subst hy
      have hf := hrd.2.2
      unfold ST.fin at hf
      obtain ⟨h1, h2, h3⟩ := hrd
      have hpc := (h.keeps hb).drew.bts.piece (a - d.s.base) (b - d.s.base) (by omega) (by omega)
      have := run_text_ Try.underlying47 Try.underlying5 wx.drew _ _ ((b - d.s.base) - (a - d.s.base)) ((b - d.s.base) - (a - d.s.base)) (by rw [List.length_drop, List.length_take]; omega) hpc.reads _ Try.underlying9
      rw [this]
      exact ⟨by rw [ST.read, if_pos ⟨h1, h2, h3⟩], hb.drew⟩)
    rw [show decide (d.s.reads a b) = true by simpa using hrd] at HO
    rw [if_pos hrd]
    generalize (if b - d.s.base = a - d.s.base then d.v else d.v.map (·.add (a - d.s.base))) = V at *
    generalize (b - d.s.base) - (a - d.s.base) = N at *
    generalize d.s.read a b = X at *
    clear hrd h
    unfold TV.ptr at HN HE HP ⊢
    go_enter Try.func19, Try.ntmps19
    go_wp2_with fail
    refine HN.out.mono ?_
    rintro e w1 ⟨rfl, rfl⟩
    go_wp2_with fail
    go_region_held3 (fun wx => Below w.heap.size w wx ∧ wx.cell? ⟨d.A, 3, none⟩ = some (.int .u64 (d.s.base : Int)) ∧ wx.cell? ⟨d.A, 4, none⟩ = some (.int .u64 (d.s.sure : Int))) (first | exact HC.out _ (by assumption) | exact HC.out _ (Below.alloc (by assumption) (Below.size (by assumption)) _) | go_keep)
      (first
        | ((with_reducible refine (HE.out _ (by assumption)).mono ?_); rintro e wa ⟨rfl, hka⟩)
        | ((with_reducible refine (HO.out _ (by assumption)).mono ?_); rintro e wb ⟨rfl, hkb⟩))
    go_wp2_with fail
    refine (HP.out _ hkb).mono ?_
    rintro e wc ⟨rfl, hc⟩
    obtain ⟨hcv, hkc⟩ := HT.out wb hkb wc hc
    have HK := Lib.hid hkc
    clear hc hkb hkc hka
    go_wp2
    go_ret2
    exact ⟨rfl, HK.out⟩
  · rw [show decide (d.s.reads a b) = false by simpa using hrd] at HO
    rw [if_neg hrd, show d.s.read a b = ⟨#[]⟩ from if_neg hrd]
    clear hrd h
    unfold TV.ptr at HN HE ⊢
    go_enter Try.func19, Try.ntmps19
    go_wp2_with fail
    refine HN.out.mono ?_
    rintro e w1 ⟨rfl, rfl⟩
    go_wp2_with fail
    go_region_held3 (fun wx => Below w.heap.size w wx ∧ wx.cell? ⟨d.A, 3, none⟩ = some (.int .u64 (d.s.base : Int)) ∧ wx.cell? ⟨d.A, 4, none⟩ = some (.int .u64 (d.s.sure : Int))) (first | exact HC.out _ (by assumption) | exact HC.out _ (Below.alloc (by assumption) (Below.size (by assumption)) _) | go_keep)
      (first
        | ((with_reducible refine (HE.out _ (by assumption)).mono ?_); rintro e wa ⟨rfl, hka⟩)
        | ((with_reducible refine (HO.out _ (by assumption)).mono ?_); rintro e wb ⟨rfl, hkb⟩))
    go_wp2
    go_ret2
    exact ⟨rfl, hkb⟩

set_option maxRecDepth 100000 in
set_option maxHeartbeats 2000000 in
theorem cut_any (d : TV) (to : Nat) (w : World) (h : d.In w) : Calls Try.prog 25 #[d.ptr, .int .u64 (to : Int)] w (d.Turned w (d.s.cut to) (.int .i64 (if d.s.cuts to then 0 else 2))) := by
  have HN := Lib.hid (isNone_any d w h)
  have HC := Lib.hid (keep_three d w h)
  have HE := Lib.hid (end_since d w h)
  have HO := Lib.hid (order_since w [d.s.base, to, d.s.fin] 3 rfl (by omega) (decide (d.s.cuts to)) (by rw [inOrd_three]; rfl) _ rfl)
  have hk0 : Below w.heap.size w w.drew := (Below.refl _ w).drew
  simp only [nums64, List.map_cons, List.map_nil] at HO
  by_cases hrd : d.s.cuts to
  · have HS := Lib.hid (fun (wx : World) (hb : Below w.heap.size w wx) => shorten_any d to wx (h.keeps hb) hrd.1 hrd.2)
    have HT := Lib.hid (show ∀ wx, Below w.heap.size w wx → ∀ e wy, d.Turned wx (d.s.shorten to) (.tuple #[]) e wy → e = .returned (.tuple #[]) ∧ d.Turned w (d.s.cut to) (.int .i64 0) (.returned (.int .i64 0)) wy from fun wx hb e wy hy => by
      obtain ⟨d', e1, e2, e3, h4, h5, h6⟩ := hy
      refine ⟨e1, turned_then (Only.below hb _) rfl (fun k hk => .inl hk) ⟨d', rfl, e2, ?_, h4, h5, h6⟩⟩
      rw [e3]; exact (if_pos hrd).symm)
    rw [show decide (d.s.cuts to) = true by simpa using hrd] at HO
    rw [if_pos hrd]
    obtain ⟨P, hP⟩ : ∃ P, d.Turned w (d.s.cut to) (.int .i64 0) = P := ⟨_, rfl⟩
    simp only [hP] at HT ⊢
    obtain ⟨Q, hQ⟩ : ∃ Q : World → Ending → World → Prop, (fun wx => d.Turned wx (d.s.shorten to) (.tuple #[])) = Q := ⟨_, rfl⟩
    have HS1 := Lib.hid (show ∀ wx, Below w.heap.size w wx → Calls Try.prog 37 #[d.ptr, .int .u64 (to : Int)] wx (Q wx) from fun wx hb => by rw [← hQ]; exact HS.out wx hb)
    have HT1 := Lib.hid (show ∀ wx, Below w.heap.size w wx → ∀ e wy, Q wx e wy → e = .returned (.tuple #[]) ∧ P (.returned (.int .i64 0)) wy from fun wx hb e wy hy => by rw [← hQ] at hy; exact HT.out wx hb e wy hy)
    clear hrd h hP hQ HS HT
    unfold TV.ptr at HN HE HS1 ⊢
    go_enter Try.func25, Try.ntmps25
    go_wp2_with fail
    refine HN.out.mono ?_
    rintro e w1 ⟨rfl, rfl⟩
    go_wp2_with fail
    go_region_held3 (fun wx => Below w.heap.size w wx ∧ wx.cell? ⟨d.A, 3, none⟩ = some (.int .u64 (d.s.base : Int)) ∧ wx.cell? ⟨d.A, 4, none⟩ = some (.int .u64 (d.s.sure : Int))) (first | exact HC.out _ (by assumption) | exact HC.out _ (Below.alloc (by assumption) (Below.size (by assumption)) _) | go_keep)
      (first
        | ((with_reducible refine (HE.out _ (by assumption)).mono ?_); rintro e wa ⟨rfl, hka⟩)
        | ((with_reducible refine (HO.out _ (by assumption)).mono ?_); rintro e wb ⟨rfl, hkb⟩))
    go_wp2_with fail
    refine (HS1.out _ hkb).mono ?_
    intro e wc hc
    obtain ⟨rfl, hpost⟩ := HT1.out wb hkb e wc hc
    have HP := Lib.hid hpost
    clear hc hkb hka hpost
    go_wp2
    exact HP.out
  · rw [show decide (d.s.cuts to) = false by simpa using hrd] at HO
    rw [if_neg hrd, show d.s.cut to = d.s from if_neg hrd]
    have HF := Lib.hid (show ∀ wx, Below w.heap.size w wx → d.Turned w d.s (.int .i64 2) (.returned (.int .i64 2)) wx from fun wx hb => ⟨d, rfl, rfl, rfl, h.keeps hb, Only.below hb _, fun k hk => .inl hk⟩)
    obtain ⟨P, hP⟩ : ∃ P, d.Turned w d.s (.int .i64 2) = P := ⟨_, rfl⟩
    simp only [hP] at HF ⊢
    clear hrd h hP
    unfold TV.ptr at HN HE ⊢
    go_enter Try.func25, Try.ntmps25
    go_wp2_with fail
    refine HN.out.mono ?_
    rintro e w1 ⟨rfl, rfl⟩
    go_wp2_with fail
    go_region_held3 (fun wx => Below w.heap.size w wx ∧ wx.cell? ⟨d.A, 3, none⟩ = some (.int .u64 (d.s.base : Int)) ∧ wx.cell? ⟨d.A, 4, none⟩ = some (.int .u64 (d.s.sure : Int))) (first | exact HC.out _ (by assumption) | exact HC.out _ (Below.alloc (by assumption) (Below.size (by assumption)) _) | go_keep)
      (first
        | ((with_reducible refine (HE.out _ (by assumption)).mono ?_); rintro e wa ⟨rfl, hka⟩)
        | ((with_reducible refine (HO.out _ (by assumption)).mono ?_); rintro e wb ⟨rfl, hkb⟩))
    go_wp2
    exact HF.out _ hkb

theorem drop_set {d : TV} {to : Nat} {w : World} (h : d.In w) (hrd : d.s.drops to) (V : Option Addr) (N : Nat) (hV : (if d.s.fin - d.s.base = to - d.s.base then d.v else d.v.map (·.add (to - d.s.base))) = V) (hN : (d.s.fin - d.s.base) - (to - d.s.base) = N) :
    d.Turned w (d.s.drop to) (.int .i64 0) (.returned (.int .i64 0)) ((w.setCell ⟨d.A, 2, none⟩ (.slice V N N)).setCell ⟨d.A, 3, none⟩ (.int .u64 (to : Int))) := by
  have hsf := h.ok.sf
  obtain ⟨h1, h2⟩ := hrd
  have hdr : d.s.drop to = { d.s with base := to, l := d.s.l.drop (to - d.s.base) } := if_pos ⟨h1, h2⟩
  have hok := h.ok.drop to
  rw [hdr] at hok ⊢
  have hfl : d.s.fin - d.s.base = d.s.l.length := by unfold ST.fin; omega
  have hpc := h.bts.piece (to - d.s.base) (d.s.fin - d.s.base) (by omega) (by omega)
  rw [hV, hN, hfl, List.take_length] at hpc
  have hl : (d.s.l.drop (to - d.s.base)).length = N := by rw [List.length_drop]; omega
  have hb : ∀ k, blk V = some k → blk d.v = some k := fun k hk => blk_piece (a := to - d.s.base) (b := d.s.fin - d.s.base) (by rw [hV]; exact hk)
  refine set_in (s := { d.s with base := to, l := d.s.l.drop (to - d.s.base) }) (c := N) (v := V) h (((Only.refl d.mine w).setCell (.inl rfl) _).setCell (.inl rfl) _) ((h.dev.put 2 _).put 3 _) (by rw [hl]) rfl rfl ?_ hok (fun k hk => .inl (.inr (hb k hk))) _
  exact hpc.only (F := (· = d.A)) (((Only.refl (· = d.A) w).setCell rfl _).setCell rfl _) (fun k hk e => h.ne (hb k hk) e.symm)

set_option maxRecDepth 100000 in
set_option maxHeartbeats 2000000 in
theorem drop_any (d : TV) (to : Nat) (w : World) (h : d.In w) : Calls Try.prog 24 #[d.ptr, .int .u64 (to : Int)] w (d.Turned w (d.s.drop to) (.int .i64 (if d.s.drops to then 0 else 2))) := by
  have HN := Lib.hid (isNone_any d w h)
  have HC := Lib.hid (keep_three d w h)
  have HO := Lib.hid (order_since w [d.s.base, to, d.s.sure] 3 rfl (by omega) (decide (d.s.drops to)) (by rw [inOrd_three]; rfl) _ rfl)
  have hk0 : Below w.heap.size w w.drew := (Below.refl _ w).drew
  simp only [nums64, List.map_cons, List.map_nil] at HO
  by_cases hrd : d.s.drops to
  · have HE := Lib.hid (fun (wx : World) (hb : Below w.heap.size w wx) => end_any d wx (h.keeps hb))
    have HP := Lib.hid (fun (wx : World) (hb : Below w.heap.size w wx) => piece_any d to d.s.fin wx.drew (h.keeps hb).drew hrd.1 (by have := hrd.2; have := h.ok.sf; omega) (Nat.le_refl _))
    have HT := Lib.hid (show ∀ wx, Below w.heap.size w wx → ∀ V N, (if d.s.fin - d.s.base = to - d.s.base then d.v else d.v.map (·.add (to - d.s.base))) = V → (d.s.fin - d.s.base) - (to - d.s.base) = N → wx.cell? ⟨d.A, 2, none⟩ = some (.slice d.v d.s.l.length d.c) ∧ wx.frozen? ⟨d.A, 2, none⟩ = false ∧ wx.cell? ⟨d.A, 3, none⟩ = some (.int .u64 (d.s.base : Int)) ∧ wx.frozen? ⟨d.A, 3, none⟩ = false ∧ ∀ wy, wy = (((wx.drewN 2).setCell ⟨d.A, 2, none⟩ (.slice V N N)).setCell ⟨d.A, 3, none⟩ (.int .u64 (to : Int))) → d.Turned w (d.s.drop to) (.int .i64 0) (.returned (.int .i64 0)) wy from fun wx hb V N hV hN =>
      ⟨(h.keeps hb).c2, (h.keeps hb).free 2, (h.keeps hb).c3, (h.keeps hb).free 3, fun wy hy => hy ▸ turned_then (w1 := wx.drewN 2) ((Only.below hb d.mine).drewN 2) rfl (fun k hk => .inl hk) (drop_set ((h.keeps hb).drewN 2) hrd V N hV hN)⟩)
    rw [show decide (d.s.drops to) = true by simpa using hrd] at HO
    have HO0 := Lib.hid (show Calls Try.prog 39 #[.slice (some ⟨w.heap.size, 0, none⟩) 3 3] (w.alloc (.cells #[.int .u64 (d.s.base : Int), .int .u64 (to : Int), .int .u64 (d.s.sure : Int)] 48)).drew fun e w' => e = .returned (.bool true) ∧ Below w.heap.size w w' from HO.out w.drew hk0)
    rw [if_pos hrd]
    obtain ⟨V, hV⟩ : ∃ V, (if d.s.fin - d.s.base = to - d.s.base then d.v else d.v.map (·.add (to - d.s.base))) = V := ⟨_, rfl⟩
    obtain ⟨N, hN⟩ : ∃ N, (d.s.fin - d.s.base) - (to - d.s.base) = N := ⟨_, rfl⟩
    have HT1 := Lib.hid (fun wx hb => HT.out wx hb V N hV hN)
    simp only [hV, hN] at HP
    obtain ⟨P, hP⟩ : ∃ P, d.Turned w (d.s.drop to) (.int .i64 0) = P := ⟨_, rfl⟩
    simp only [hP] at HT1 ⊢
    clear hrd h hP HT hV hN
    unfold TV.ptr at HN HE HP ⊢
    go_enter Try.func24, Try.ntmps24
    go_wp2_with fail
    refine HN.out.mono ?_
    rintro e w1 ⟨rfl, rfl⟩
    go_wp2_with fail
    go_region_held3 (fun wx => Below w.heap.size w wx ∧ wx.cell? ⟨d.A, 3, none⟩ = some (.int .u64 (d.s.base : Int)) ∧ wx.cell? ⟨d.A, 4, none⟩ = some (.int .u64 (d.s.sure : Int))) (first | exact HC.out _ (by assumption) | exact HC.out _ (Below.alloc (by assumption) (Below.size (by assumption)) _) | go_keep)
      (first
        | ((with_reducible refine HO0.out.mono ?_); rintro e wb ⟨rfl, hkb⟩)
        | fail "none")
    go_wp2_with fail
    refine (HE.out _ hkb).mono ?_
    rintro e wc ⟨rfl, rfl⟩
    go_wp2_with fail
    refine (HP.out _ hkb).mono ?_
    rintro e wc ⟨rfl, rfl⟩
    obtain ⟨c2, f2, c3, f3, hpost⟩ := HT1.out wb hkb
    have HQ := Lib.hid hpost
    clear hkb hpost
    go_wp2
    exact HQ.out _ rfl
  · rw [show decide (d.s.drops to) = false by simpa using hrd] at HO
    have HO0 := Lib.hid (show Calls Try.prog 39 #[.slice (some ⟨w.heap.size, 0, none⟩) 3 3] (w.alloc (.cells #[.int .u64 (d.s.base : Int), .int .u64 (to : Int), .int .u64 (d.s.sure : Int)] 48)).drew fun e w' => e = .returned (.bool false) ∧ Below w.heap.size w w' from HO.out w.drew hk0)
    rw [if_neg hrd, show d.s.drop to = d.s from if_neg hrd]
    have HF := Lib.hid (show ∀ wx, Below w.heap.size w wx → d.Turned w d.s (.int .i64 2) (.returned (.int .i64 2)) wx from fun wx hb => ⟨d, rfl, rfl, rfl, h.keeps hb, Only.below hb _, fun k hk => .inl hk⟩)
    obtain ⟨P, hP⟩ : ∃ P, d.Turned w d.s (.int .i64 2) = P := ⟨_, rfl⟩
    simp only [hP] at HF ⊢
    clear hrd h hP
    unfold TV.ptr at HN ⊢
    go_enter Try.func24, Try.ntmps24
    go_wp2_with fail
    refine HN.out.mono ?_
    rintro e w1 ⟨rfl, rfl⟩
    go_wp2_with fail
    go_region_held3 (fun wx => Below w.heap.size w wx ∧ wx.cell? ⟨d.A, 3, none⟩ = some (.int .u64 (d.s.base : Int)) ∧ wx.cell? ⟨d.A, 4, none⟩ = some (.int .u64 (d.s.sure : Int))) (first | exact HC.out _ (by assumption) | exact HC.out _ (Below.alloc (by assumption) (Below.size (by assumption)) _) | go_keep)
      (first
        | ((with_reducible refine HO0.out.mono ?_); rintro e wb ⟨rfl, hkb⟩)
        | fail "none")
    go_wp2
    exact HF.out _ hkb

theorem shut_below {w wx wy : World} (h : Below w.heap.size w wx) (hy : wy = wx.drew) : Below w.heap.size w wy := hy ▸ h.drew

set_option maxRecDepth 100000 in
set_option maxHeartbeats 2000000 in
theorem crash_any (d : TV) (keep : Int) (w : World) (h : d.In w) (hk : keep ≤ 9223372036854775807) : Calls Try.prog 18 #[d.ptr, .int .i64 keep] w (d.Turned w (d.s.crash keep) (.tuple #[])) := by
  have HN := Lib.hid (isNone_any d w h)
  have HC := Lib.hid (keep_three d w h)
  have HE := Lib.hid (end_since d w h)
  have hsf := h.ok.sf
  have hsm := h.ok.small
  have hkl := d.s.kept_le keep
  have hke : ((d.s.kept keep : Nat) : Int) = min (max keep 0) ((d.s.fin - d.s.sure : Nat) : Int) := by unfold ST.kept; omega
  have HT := Lib.hid (fun wx => to_any d.s.sure d.s.fin wx hsf (by omega))
  have HPL := Lib.hid (fun wx => plus_any d.s.sure (d.s.kept keep) wx (by omega))
  have HS := Lib.hid (fun (wx : World) (hb : Below w.heap.size w wx) => shorten_any d (d.s.sure + d.s.kept keep) wx (h.keeps hb) (by have := h.ok.bs; omega) (by omega))
  have HZ := Lib.hid (show ∀ wx, Below w.heap.size w wx → ∀ e wy, d.Turned wx (d.s.shorten (d.s.sure + d.s.kept keep)) (.tuple #[]) e wy → e = .returned (.tuple #[]) ∧ ∃ f : Nat, Calls Try.prog 35 #[d.ptr] wy (fun e w' => e = .returned (.int .u64 (f : Int)) ∧ w' = wy.drew) ∧ (∃ u, wy.cell? ⟨d.A, 4, none⟩ = some u) ∧ wy.frozen? ⟨d.A, 4, none⟩ = false ∧ d.Turned w (d.s.crash keep) (.tuple #[]) (.returned (.tuple #[])) (wy.drew.setCell ⟨d.A, 4, none⟩ (.int .u64 (f : Int))) from fun wx hb e wy hy => by
    obtain ⟨d', e1, e2, e3, h4, h5, h6⟩ := hy
    have hptr : d'.ptr = d.ptr := by unfold TV.ptr; rw [e2]
    refine ⟨e1, d'.s.fin, hptr ▸ end_any d' wy h4, ⟨_, e2 ▸ h4.c4⟩, e2 ▸ h4.free 4, ?_⟩
    have hf := force_set h4 (.tuple #[])
    rw [e3] at hf
    rw [e2, ← e3] at hf
    refine turned_then (d1 := d') (w1 := wy) ?_ e2 ?_ ?_
    · exact (Only.below hb d.mine).trans h5
    · intro k hk
      rcases h6 k hk with h7 | h7
      · exact .inl h7
      · exact .inr (Nat.le_trans hb.size h7)
    · rw [e3] at hf ⊢
      exact hf)
  have hk0 : Below w.heap.size w w.drew := (Below.refl _ w).drew
  have c4 := h.c4
  generalize d.s.kept keep = K at *
  obtain ⟨P, hP⟩ : ∃ P, d.Turned w (d.s.crash keep) (.tuple #[]) = P := ⟨_, rfl⟩
  simp only [hP] at HZ ⊢
  obtain ⟨Q, hQ⟩ : ∃ Q : World → Ending → World → Prop, (fun wx => d.Turned wx (d.s.shorten (d.s.sure + K)) (.tuple #[])) = Q := ⟨_, rfl⟩
  have HS1 := Lib.hid (show ∀ wx, Below w.heap.size w wx → Calls Try.prog 37 #[d.ptr, .int .u64 ((d.s.sure + K : Nat) : Int)] wx (Q wx) from fun wx hb => by rw [← hQ]; exact HS.out wx hb)
  have HZ1 := Lib.hid (show ∀ wx, Below w.heap.size w wx → ∀ e wy, Q wx e wy → _ from fun wx hb e wy hy => HZ.out wx hb e wy (by rw [← hQ] at hy; exact hy))
  have hu : ((d.s.fin - d.s.sure : Nat) : Int) ≤ 9223372036854775807 := by omega
  clear h hsf hsm hkl hP hQ HS HZ
  generalize (d.s.fin - d.s.sure : Nat) = U at *
  generalize (d.s.sure + K : Nat) = T at *
  unfold TV.ptr at HN HE HS1 HZ1 ⊢
  go_enter Try.func18, Try.ntmps18
  go_wp2_with fail
  refine HN.out.mono ?_
  rintro e w1 ⟨rfl, rfl⟩
  go_wp2_with fail
  go_region_held3 (fun wx => Below w.heap.size w wx ∧ wx.cell? ⟨d.A, 3, none⟩ = some (.int .u64 (d.s.base : Int)) ∧ wx.cell? ⟨d.A, 4, none⟩ = some (.int .u64 (d.s.sure : Int))) (first | exact HC.out _ (by assumption) | go_keep)
    (first
      | ((with_reducible refine (HE.out _ (by assumption)).mono ?_); rintro e wa ⟨rfl, hka⟩)
      | ((with_reducible refine (HT.out _).mono ?_); rintro e wb ⟨rfl, rfl⟩))
  have c4a := (HC.out _ hka).2.2
  go_wp2_with fail
  rw [← hke]
  refine (HPL.out _).mono ?_
  rintro e wb ⟨rfl, rfl⟩
  go_wp2_with fail
  refine (HS1.out _ hka).mono ?_
  intro e wc hc
  obtain ⟨rfl, f, HEF, ⟨u, hu4⟩, f4, hpost⟩ := HZ1.out _ hka e wc hc
  have HP := Lib.hid hpost
  have HEF1 := Lib.hid HEF
  clear hpost HEF hc hka c4a
  go_wp2_with fail
  refine HEF1.out.mono ?_
  rintro e wd ⟨rfl, rfl⟩
  go_wp2
  exact bodyPost_ret (v := .tuple #[]) (by simp [results, Try.results18, go_sem]) rfl HP.out

/-- A copy. -/
def CopyTape (d : TV) (w : World) (e : Ending) (w' : World) : Prop :=
  ∃ c : TV, e = .returned c.ptr ∧ c.In w' ∧ Below w.heap.size w w' ∧ (∀ k, c.mine k → w.heap.size ≤ k) ∧ c.s = d.s

set_option maxRecDepth 100000 in
set_option maxHeartbeats 1000000 in
theorem cloneB_any (v : Option Addr) (c : Nat) (l : List UInt8) (w : World) (hb : Bts w v l c) (hn : l.length ≤ 100000000) :
    Calls Try.prog 28 #[.slice v l.length c] w fun e w' => ∃ (v' : Option Addr) (c' : Nat), e = .returned (.slice v' l.length c') ∧ Bts w' v' l c' ∧ Below w.heap.size w w' ∧ ∀ k, blk v' = some k → w.heap.size ≤ k := by
  have q22 : ∀ (w : World) (a : Option Addr) (n c n' c' : Nat), (binOp .eql 47 (.slice a n c) (.slice none n' c')).run Try.prog w = .ok (.bool a.isNone) w := fun w a n c n' c' => Lib.run_eql_slice_nil w _ _ a n c n' c' Try.underlying47
  rcases hb.at_ with ⟨rfl, rfl⟩ | ⟨g, o, cs, rfl, hr, h1, h2⟩
  · obtain rfl : l = [] := List.eq_nil_of_length_eq_zero (by have := hb.le; omega)
    clear hb hn
    go_enter Try.func28, Try.ntmps28
    go_wp2
    go_ret
    exact ⟨none, 0, rfl, Bts.nil _, Below.refl _ _, fun k hk => by cases hk⟩
  · obtain ⟨i0, hi0, hz0, hz1, hz2⟩ := info_parts Try.infoU8
    have HNW := Lib.hid (show ∀ j u, (byt l)[j]? = some u → (w.alloc (.cells #[] 5)).cell? ((⟨g, o, none⟩ : Addr).add j) = some u from fun j u hj => by
      have hjl : j < l.length := by have := (List.getElem?_eq_some_iff.1 hj).1; rwa [byt_length] at this
      rw [Addr.add_lit, (hr.alloc _).cell, h2 j hjl]
      exact hj)
    have HO := Lib.hid (World.ownsRow_made (base := w.heap.size) (e := 5) (size := 1) w #[] 0 (Nat.le_refl _) (Nat.zero_le _) rfl)
    have HB := Lib.hid (show Below w.heap.size w (w.alloc (.cells #[] 5)) from (Below.refl _ _).alloc (Nat.le_refl _) _)
    have HLN := Lib.hid (show (byt l).length = l.length * 1 by rw [byt_length, Nat.mul_one])
    have HMX := Lib.hid (show 0 + l.length ≤ maxLen by unfold maxLen; omega)
    have HN := Lib.hid hn
    have HFIN := Lib.hid (fun (u : Value) (w1 : World) (hown : w1.ownsRow w.heap.size 5 1 u l.length (byt l)) =>
      show ∃ (v' : Option Addr) (c' : Nat), u = .slice v' l.length c' ∧ Bts w1 v' l c' ∧ ∀ k, blk v' = some k → w.heap.size ≤ k from by
        rcases hown.2 with ⟨h0, h3⟩ | ⟨g, cap, cur, hv, hb, hg, hc, hm, hs, ht⟩
        · obtain rfl : l = [] := List.eq_nil_of_length_eq_zero h3
          exact ⟨none, 0, h0, Bts.nil _, fun k hk => by cases hk⟩
        · refine ⟨some ⟨g, 0, none⟩, cap, hv, ⟨hc, .inr ⟨g, 0, cur.toList, rfl, hg, by simp at hs ⊢; omega, fun j hj => ?_⟩⟩, fun k hk => by injection hk with hk; exact hk ▸ hb⟩
          rw [Nat.zero_add, ← ht, Nat.mul_one, List.getElem?_take, if_pos hj])
    clear hb hr h1 h2 hn
    go_enter Try.func28, Try.ntmps28
    go_wp2_with (at_builtin; refine wpList_append_own _ rfl (.tmp 5) (.tmp 6) 47 rfl w.heap.size 5 i0 _ 1 1 Try.underlying47 hi0 hz0 hz1 hz2 rfl (by decide) (.slice (some ⟨w.heap.size, 0, none⟩) 0 0) 0 [] rfl HO.out ⟨g, o, none⟩ l.length c (byt l) rfl HLN.out HNW.out (byt_one l) HMX.out (by have := HN.out; omega) HB.out.size ?_)
    intro u w1 hown hgr _
    obtain ⟨v', c', rfl, h1, h2⟩ := HFIN.out u w1 (by simpa using hown)
    have HB1 := Lib.hid (show Below w.heap.size w w1 from HB.out.grown hgr HB.out.size (fun k hk => by simp [Value.ownBlock] at hk; omega))
    have H1 := Lib.hid h1
    have H2 := Lib.hid h2
    clear hown hgr h1 h2
    go_wp2
    go_ret
    exact ⟨v', c', rfl, H1.out, HB1.out, H2.out⟩

set_option maxRecDepth 100000 in
set_option maxHeartbeats 2000000 in
theorem copy_any (d : TV) (w : World) (h : d.In w) : Calls Try.prog 13 #[d.ptr] w (CopyTape d w) := by
  have HN := Lib.hid (isNone_any d w h)
  have c0 := h.c0
  have c1 := h.c1
  have c2 := h.c2
  have c3 := h.c3
  have c4 := h.c4
  have c2' : (w.alloc (.cells #[.bool true, .int .i64 (d.s.room : Int), .slice d.v d.s.l.length d.c, .int .u64 (d.s.base : Int), .int .u64 (d.s.sure : Int)] 50)).cell? ⟨d.A, 2, none⟩ = some (.slice d.v d.s.l.length d.c) := (h.alloc _).c2
  have HK := Lib.hid (cloneB_any d.v d.c d.s.l (w.alloc (.cells #[.bool true, .int .i64 (d.s.room : Int), .slice d.v d.s.l.length d.c, .int .u64 (d.s.base : Int), .int .u64 (d.s.sure : Int)] 50)) (h.alloc _).bts (by have := h.ok.small; unfold ST.fin at this; omega))
  have HF := Lib.hid (fun (w2 : World) (v' : Option Addr) (c' : Nat) (hb : Bts w2 v' d.s.l c') (hk : Below (w.alloc (.cells #[.bool true, .int .i64 (d.s.room : Int), .slice d.v d.s.l.length d.c, .int .u64 (d.s.base : Int), .int .u64 (d.s.sure : Int)] 50)).heap.size (w.alloc (.cells #[.bool true, .int .i64 (d.s.room : Int), .slice d.v d.s.l.length d.c, .int .u64 (d.s.base : Int), .int .u64 (d.s.sure : Int)] 50)) w2) (hv : ∀ k, blk v' = some k → (w.alloc (.cells #[.bool true, .int .i64 (d.s.room : Int), .slice d.v d.s.l.length d.c, .int .u64 (d.s.base : Int), .int .u64 (d.s.sure : Int)] 50)).heap.size ≤ k) =>
    show (∃ u, w2.cell? ⟨w.heap.size, 2, none⟩ = some u) ∧ w2.frozen? ⟨w.heap.size, 2, none⟩ = false ∧ CopyTape d w (.returned (.pointer (some ⟨w.heap.size, 0, none⟩))) (w2.setCell ⟨w.heap.size, 2, none⟩ (.slice v' d.s.l.length c')) from by
      have hr0 : Row (w.alloc (.cells #[.bool true, .int .i64 (d.s.room : Int), .slice d.v d.s.l.length d.c, .int .u64 (d.s.base : Int), .int .u64 (d.s.sure : Int)] 50)) w.heap.size 50 d.cells (0, 0) := Row.new w 50 d.cells (0, 0)
      have hsz : (w.alloc (.cells #[.bool true, .int .i64 (d.s.room : Int), .slice d.v d.s.l.length d.c, .int .u64 (d.s.base : Int), .int .u64 (d.s.sure : Int)] 50)).heap.size = w.heap.size + 1 := by simp
      have hr := hr0.below hk hr0.lt
      rw [hsz] at hv
      refine ⟨⟨_, hr.cell 2⟩, hr.loose 2, ⟨w.heap.size, v', c', d.s⟩, rfl, ⟨hr.put 2 _, ?_, h.ok⟩, ?_, ?_, rfl⟩
      · exact hb.only (F := (· = w.heap.size)) ((Only.refl (· = w.heap.size) w2).setCell rfl _) (fun k hk2 e => by have := hv k hk2; omega)
      · have hb2 : Below w.heap.size w w2 := ((Below.refl _ w).alloc (Nat.le_refl _) _).trans (hk.mono (by rw [hsz]; omega))
        exact hb2.setCell (Nat.le_refl _) _
      · rintro k (rfl | hk2)
        · exact Nat.le_refl _
        · have := hv k hk2; omega)
  obtain ⟨P, hP⟩ : ∃ P, CopyTape d w = P := ⟨_, rfl⟩
  simp only [hP] at HF ⊢
  clear hP h
  unfold TV.ptr at HN ⊢
  go_enter Try.func13, Try.ntmps13
  go_wp2_with fail
  refine HN.out.mono ?_
  rintro e w1 ⟨rfl, rfl⟩
  go_wp2_with fail
  refine HK.out.mono ?_
  rintro e w2 ⟨v', c', rfl, hb, hk, hv⟩
  obtain ⟨⟨u, hu⟩, hf, hpost⟩ := HF.out w2 v' c' hb hk hv
  have HP := Lib.hid hpost
  clear hb hk hv hpost
  go_wp2
  exact HP.out
end Go.Proofs.Ytikcbalofbgdlaa
