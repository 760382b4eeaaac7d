/-
  The walks over package tape: New, piece, shorten, Force, Append.
-/
import Derived.Test.YtjahkaockjhibaaDoorMTapA
import Derived.RegionTactic
import Derived.ChangeAlike
import Derived.Deep.RegionHeld3
import Derived.Laws.BytesArg
import Derived.Laws.BytesString
import Derived.Lib.SliceRun
namespace Go.Proofs.YtjahkaockjhibaaDoor
open Go.RowKit

/-- A new tape. -/
def NewTape (room : Int) (w : World) (e : Ending) (w' : World) : Prop :=
  ∃ d : TV, e = .returned d.ptr ∧ d.In w' ∧ Below w.heap.size w w' ∧ (∀ k, d.mine k → w.heap.size ≤ k) ∧ d.s = ⟨room.toNat, 0, 0, []⟩

set_option maxRecDepth 100000 in
theorem new_any (room : Int) (w : World) (hr : room ≤ 9223372036854775807) : Calls Tryd.prog 9 #[.int .i64 room] w (NewTape room w) := by
  have HF := Lib.hid (show ∀ (k : Int), k = max room 0 → NewTape room w (.returned (.pointer (some ⟨w.heap.size, 0, none⟩))) (w.alloc (.cells #[.bool true, .int .i64 k, .slice none 0 0, .int .u64 0, .int .u64 0] 83)) from fun k hk => by
    have e : ((room.toNat : Nat) : Int) = k := by omega
    refine ⟨⟨w.heap.size, none, 0, ⟨room.toNat, 0, 0, []⟩⟩, rfl, ⟨?_, Bts.nil _, ⟨Nat.le_refl _, Nat.le_refl _, Nat.zero_le _, by show room.toNat ≤ _; omega, by show 0 + 0 ≤ _; omega⟩⟩, (Below.refl _ _).alloc (Nat.le_refl _) _, ?_, rfl⟩
    · have := Row.new w 83 [.bool true, .int .i64 k, .slice none 0 0, .int .u64 0, .int .u64 0] (0, 0)
      unfold TV.cells
      show Row _ _ _ [.bool true, .int .i64 ((room.toNat : Nat) : Int), .slice none 0 0, .int .u64 0, .int .u64 0] _
      rw [e]; exact this
    · rintro k (rfl | hk)
      · exact Nat.le_refl _
      · cases hk)
  obtain ⟨P, hP⟩ : ∃ P, NewTape room w = P := ⟨_, rfl⟩
  rw [hP] at HF ⊢
  clear hP
  go_enter Tryd.func9, Tryd.ntmps9
  go_wp2
  exact HF.out _ rfl

set_option maxRecDepth 100000 in
theorem run_piece {v : Option Addr} {n c a b : Nat} (w : World) (h1 : a ≤ b) (h2 : b ≤ c) :
    (Instr.slice 80 (.slice v n c) (some (.int .i64 (a : Int))) (some (.int .i64 (b : Int))) (some (.int .i64 (b : Int)))).run Tryd.prog w = .ok (.slice (if b = a then v else v.map (·.add a)) (b - a) (b - a)) w := by
  rw [run_slice_lhm (w := w) 80 _ n c Tryd.underlying80 .i64 .i64 .i64 (a : Int) (b : Int) (b : Int) (by omega) (by omega) (by omega) (by omega), show (sizeOf (Tryd.prog.elem 80)).run Tryd.prog w = .ok 1 w by kernel_rfl]
  simp only [Result.andThen, sliced, Nat.mul_one, Int.toNat_natCast]

set_option maxRecDepth 100000 in
set_option maxHeartbeats 2000000 in
/-- The bytes between two places. -/
theorem piece_any (d : TV) (a b : Nat) (w : World) (h : d.In w) (h0 : d.s.base ≤ a) (h1 : a ≤ b) (h2 : b ≤ d.s.fin) :
    Calls Tryd.prog 65 #[d.ptr, .int .u64 (a : Int), .int .u64 (b : Int)] w fun e w' => e = .returned (.slice (if b - d.s.base = a - d.s.base then d.v else d.v.map (·.add (a - d.s.base))) ((b - d.s.base) - (a - d.s.base)) ((b - d.s.base) - (a - d.s.base))) ∧ w' = w.drew := by
  have c2 := h.drew.c2
  have c3 := h.c3
  have hs := h.ok.small
  have hle := h.bts.le
  have HA := Lib.hid (fun wx => to_any d.s.base a wx h0 (by omega))
  have HB := Lib.hid (fun wx => to_any d.s.base b wx (by omega) (by omega))
  have hrun := run_piece (v := d.v) (n := d.s.l.length) (c := d.c) (a := a - d.s.base) (b := b - d.s.base) w.drew (by omega) (by unfold ST.fin at h2; omega)
  generalize (if b - d.s.base = a - d.s.base then d.v else d.v.map (·.add (a - d.s.base))) = V at *
  clear h h0 h1 h2 hs hle
  unfold TV.ptr
  go_enter Tryd.func65, Tryd.ntmps65
  go_wp2_with fail
  go_region_held3 (fun wx => wx = w.drew ∧ wx.cell? ⟨d.A, 2, none⟩ = some (.slice d.v d.s.l.length d.c)) (first | exact ⟨rfl, c2⟩ | go_keep)
    (first
      | ((with_reducible refine (HA.out _).mono ?_); rintro e wa ⟨rfl, rfl⟩)
      | ((with_reducible refine (HB.out _).mono ?_); rintro e wa ⟨rfl, rfl⟩))
  go_wp2
  go_ret
  exact ⟨rfl, rfl⟩

section
variable {d : TV} {w : World}
theorem set_in {u2 u3 u4 : Value} {w1 : World} {v : Option Addr} {c : Nat} {s : ST} (_ : d.In w) (ho : Only d.mine w w1) (hA : Row w1 d.A 83 [.bool true, .int .i64 (s.room : Int), u2, u3, u4] (0, 0))
    (e2 : u2 = .slice v s.l.length c) (e3 : u3 = .int .u64 (s.base : Int)) (e4 : u4 = .int .u64 (s.sure : Int)) (hb : Bts w1 v s.l c) (hok : s.Ok) (hv : ∀ k, blk v = some k → d.mine k ∨ w.heap.size ≤ k) (a : Value) : d.Turned w s a (.returned a) w1 := by
  subst e2 e3 e4
  refine ⟨⟨d.A, v, c, s⟩, rfl, rfl, rfl, ⟨hA, hb, hok⟩, ho, ?_⟩
  rintro k (rfl | hk)
  · exact .inl (.inl rfl)
  · exact hv k hk
theorem blk_piece {v : Option Addr} {a b k : Nat} (hk : blk (if b = a then v else v.map (·.add a)) = some k) : blk v = some k := by
  split at hk
  · exact hk
  · cases v with
    | none => cases hk
    | some p =>
      have e : (p.add a).block = p.block := by unfold Addr.add; split <;> rfl
      have hk2 : some (p.add a).block = some k := hk
      rw [e] at hk2
      exact hk2
theorem Turned_mono {s : ST} {a : Value} {e : Ending} {w' : World} (h : d.Turned w s a e w') : ∃ d' : TV, e = .returned a ∧ d'.A = d.A ∧ d'.s = s ∧ d'.In w' ∧ Only d.mine w w' ∧ ∀ k, d'.mine k → d.mine k ∨ w.heap.size ≤ k := h
end

set_option maxRecDepth 100000 in
set_option maxHeartbeats 1000000 in
theorem shorten_any (d : TV) (to : Nat) (w : World) (h : d.In w) (h1 : d.s.base ≤ to) (h2 : to ≤ d.s.fin) :
    Calls Tryd.prog 59 #[d.ptr, .int .u64 (to : Int)] w (d.Turned w (d.s.shorten to) (.tuple #[])) := by
  have HP := Lib.hid (piece_any d d.s.base to w h (Nat.le_refl _) h1 h2)
  have hin := h.bts.piece 0 (to - d.s.base) (Nat.zero_le _) (by unfold ST.fin at h2; omega)
  simp only [Nat.sub_self, Nat.sub_zero, List.drop_zero] at HP hin
  have hV : ∀ k, blk (if to - d.s.base = 0 then d.v else d.v.map (·.add 0)) = some k → blk d.v = some k := fun k hk => blk_piece hk
  generalize (if to - d.s.base = 0 then d.v else d.v.map (·.add 0)) = V at *
  have hl : (d.s.shorten to).l.length = to - d.s.base := by show (d.s.l.take (to - d.s.base)).length = _; rw [List.length_take]; unfold ST.fin at h2; omega
  have c3 := h.c3
  have HF := Lib.hid (show ∀ x : Int, x = ((min d.s.sure to : Nat) : Int) → d.Turned w (d.s.shorten to) (.tuple #[]) (.returned (.tuple #[])) ((w.drew.setCell ⟨d.A, 2, none⟩ (.slice V (to - d.s.base) (to - d.s.base))).setCell ⟨d.A, 4, none⟩ (.int .u64 x)) from fun x hx => by
    have ho : Only d.mine w ((w.drew.setCell ⟨d.A, 2, none⟩ (.slice V (to - d.s.base) (to - d.s.base))).setCell ⟨d.A, 4, none⟩ (.int .u64 x)) := ((Only.refl d.mine w).drew.setCell (.inl rfl) _).setCell (.inl rfl) _
    have hA := (h.drew.dev.put 2 (.slice V (to - d.s.base) (to - d.s.base))).put 4 (.int .u64 x)
    refine set_in (s := d.s.shorten to) (c := to - d.s.base) h ho hA (by rw [hl]) rfl (by rw [hx]; rfl) ?_ (h.ok.shorten h1 h2).1 (fun k hk => .inl (.inr (hV k hk))) _
    have hb := hin.only (F := (· = d.A)) (w' := (w.drew.setCell ⟨d.A, 2, none⟩ (.slice V (to - d.s.base) (to - d.s.base))).setCell ⟨d.A, 4, none⟩ (.int .u64 x)) (((Only.refl (· = d.A) w).drew.setCell rfl _).setCell rfl _) (fun k hk e => h.ne (hV k hk) e.symm)
    exact hb)
  have c2 := h.c2
  have f2 := h.free 2
  have c4 := h.c4
  have f4 := h.free 4
  obtain ⟨P, hP⟩ : ∃ P, d.Turned w (d.s.shorten to) (.tuple #[]) = P := ⟨_, rfl⟩
  simp only [hP] at HF ⊢
  clear hP h h1 h2 hin hV hl
  unfold TV.ptr at HP ⊢
  go_enter Tryd.func59, Tryd.ntmps59
  go_wp2_with fail
  refine HP.out.mono ?_
  rintro e w1 ⟨rfl, rfl⟩
  go_wp2_with fail
  exact bodyPost_ret (v := .tuple #[]) (by simp [results, Tryd.results59, go_sem]) rfl (HF.out _ (by omega))

theorem force_set {d : TV} {w : World} (h : d.In w) (a : Value) : d.Turned w d.s.force a (.returned a) (w.drew.setCell ⟨d.A, 4, none⟩ (.int .u64 (d.s.fin : Int))) := by
  have ho : Only d.mine w (w.drew.setCell ⟨d.A, 4, none⟩ (.int .u64 (d.s.fin : Int))) := (Only.refl d.mine w).drew.setCell (.inl rfl) _
  refine set_in (s := d.s.force) (c := d.c) (v := d.v) h ho (h.drew.dev.put 4 (.int .u64 (d.s.fin : Int))) rfl rfl rfl ?_ h.ok.force (fun k hk => .inl (.inr hk)) _
  exact h.bts.only (F := (· = d.A)) ((Only.refl (· = d.A) w).drew.setCell rfl _) (fun k hk e => h.ne hk e.symm)
theorem turned_then {d d1 : TV} {w w1 w2 : World} {s2 : ST} {a : Value} {e : Ending} (ho : Only d.mine w w1) (hA : d1.A = d.A) (hm : ∀ k, d1.mine k → d.mine k ∨ w.heap.size ≤ k) (h : d1.Turned w1 s2 a e w2) : d.Turned w s2 a e w2 := by
  obtain ⟨d2, e1, e2, e3, h4, h5, h6⟩ := h
  refine ⟨d2, e1, e2.trans hA, e3, h4, ho.then h5 (fun k hk hf => ?_), fun k hk => ?_⟩
  · rcases hm k hf with h7 | h7
    · exact h7
    · omega
  · rcases h6 k hk with h7 | h7
    · exact hm k h7
    · exact .inr (Nat.le_trans ho.size h7)

set_option maxRecDepth 100000 in
theorem force_any (d : TV) (w : World) (h : d.In w) : Calls Tryd.prog 52 #[d.ptr] w (d.Turned w d.s.force (.int .i64 0)) := by
  have HN := Lib.hid (isNone_any d w h)
  have HE := Lib.hid (end_any d w h)
  have HF := Lib.hid (force_set h (.int .i64 0))
  have c4 := h.c4
  have f4 := h.free 4
  obtain ⟨P, hP⟩ : ∃ P, d.Turned w d.s.force (.int .i64 0) = P := ⟨_, rfl⟩
  simp only [hP] at HF ⊢
  clear hP h
  unfold TV.ptr at HN HE ⊢
  go_enter Tryd.func52, Tryd.ntmps52
  go_wp2_with fail
  refine HN.out.mono ?_
  rintro e w1 ⟨rfl, rfl⟩
  go_wp2_with fail
  refine HE.out.mono ?_
  rintro e w1 ⟨rfl, rfl⟩
  go_wp2
  exact HF.out

set_option maxRecDepth 100000 in
set_option maxHeartbeats 1000000 in
theorem append_any (d : TV) (s : ByteArray) (w : World) (h : d.In w) (hs : d.s.fin + s.size ≤ 100000000) : Calls Tryd.prog 29 #[d.ptr, .string s] w (d.Turned w (d.s.append s) (.int .i64 (if d.s.fits s then 0 else 6))) := by
  have HN := Lib.hid (isNone_any d w h)
  have HR := Lib.hid (room_any d w h)
  have hz : (s.size : Int) ≤ 100000000 := by omega
  by_cases hf : d.s.fits s
  · have hfi : (s.size : Int) ≤ ((d.s.room - d.s.l.length : Nat) : Int) := by unfold ST.fits at hf; omega
    have hap : d.s.append s = { d.s with l := d.s.l ++ txt s } := if_pos hf
    have hok := h.ok.append s hs
    rw [if_pos hf]
    rw [hap] at hok ⊢
    have HLE := Lib.hid (show d.s.l.length + s.size ≤ 100000000 by unfold ST.fin at hs; omega)
    have HW := Lib.hid (fun (n : Nat) (v' : Option Addr) (c' : Nat) (w1 : World) (hb : Bts w1 v' (d.s.l ++ txt s) c') (hg : (w.drewN n).grownBy w1 (blk d.v)) (hk : ∀ k, blk v' = some k → blk d.v = some k ∨ w.heap.size ≤ k) =>
      show w1.cell? ⟨d.A, 2, none⟩ = some (.slice d.v d.s.l.length d.c) ∧ w1.frozen? ⟨d.A, 2, none⟩ = false ∧ d.Turned w { d.s with l := d.s.l ++ txt s } (.int .i64 0) (.returned (.int .i64 0)) (w1.setCell ⟨d.A, 2, none⟩ (.slice v' (d.s.l.length + s.size) c')) from by
        have ho : Only (fun k => blk d.v = some k) w w1 := ((Only.refl _ w).drewN n).grown hg fun k e => e
        have hA := h.dev.only ho (fun e => h.ne e rfl)
        refine ⟨hA.cell 2, hA.loose 2, ?_⟩
        have hlen : (d.s.l ++ txt s).length = d.s.l.length + s.size := by rw [List.length_append, txt_length]
        have hne : ∀ k, blk v' = some k → k ≠ d.A := fun k hk2 e => by
          obtain ⟨cs, hr⟩ := hb.u8 hk2
          exact (hA.ne_ hr (by decide)) e.symm
        refine set_in (s := { d.s with l := d.s.l ++ txt s }) (c := c') (v := v') h ((ho.imp fun k _ e => .inr e).setCell (.inl rfl) _) (hA.put 2 _) (by rw [hlen]) rfl rfl ?_ hok ?_ _
        · exact hb.only (F := (· = d.A)) ((Only.refl (· = d.A) w1).setCell rfl _) hne
        · intro k hk2
          rcases hk k hk2 with e | e
          · exact .inl (.inr e)
          · exact .inr e)
    have HB := Lib.hid (fun n => (h.drewN n).bts)
    have c2 := h.c2
    obtain ⟨P, hP⟩ : ∃ P, d.Turned w { d.s with l := d.s.l ++ txt s } (.int .i64 0) = P := ⟨_, rfl⟩
    simp only [hP] at HW ⊢
    clear hP h hf hs hap hok
    unfold TV.ptr at HN HR ⊢
    go_enter Tryd.func29, Tryd.ntmps29
    go_wp2_with fail
    refine HN.out.mono ?_
    rintro e w1 ⟨rfl, rfl⟩
    go_wp2_with fail
    refine HR.out.mono ?_
    rintro e w1 ⟨rfl, n, rfl⟩
    go_wp2_with (at_builtin; refine wpList_tape_append rfl (.tmp 18) (.tmp 19) (by rfl) (by rfl) (HB.out n) s (by rfl) HLE.out ?_)
    intro v' c' w1 hb hg hk
    obtain ⟨c2', f2', hpost⟩ := HW.out n v' c' w1 hb hg hk
    have HP := Lib.hid hpost
    clear hpost hb hg hk
    go_wp2
    exact HP.out
  · have hfi : ((d.s.room - d.s.l.length : Nat) : Int) < (s.size : Int) := by unfold ST.fits at hf; omega
    have hap : d.s.append s = d.s := if_neg hf
    rw [if_neg hf, hap]
    have HF := Lib.hid (fun n => show d.Turned w d.s (.int .i64 6) (.returned (.int .i64 6)) (w.drewN n) from ⟨d, rfl, rfl, rfl, h.drewN n, (Only.refl _ _).drewN n, fun k hk => .inl hk⟩)
    obtain ⟨P, hP⟩ : ∃ P, d.Turned w d.s (.int .i64 6) = P := ⟨_, rfl⟩
    simp only [hP] at HF ⊢
    clear hP h hf hs hap
    unfold TV.ptr at HN HR ⊢
    go_enter Tryd.func29, Tryd.ntmps29
    go_wp2_with fail
    refine HN.out.mono ?_
    rintro e w1 ⟨rfl, rfl⟩
    go_wp2_with fail
    refine HR.out.mono ?_
    rintro e w1 ⟨rfl, n, rfl⟩
    go_wp2
    exact HF.out n

theorem inOrd_four (a b c d : Nat) : inOrd [a, b, c, d] = decide (a ≤ b ∧ b ≤ c ∧ c ≤ d) := by rw [Bool.eq_iff_iff]; simp [inOrd]
theorem inOrd_three (a b c : Nat) : inOrd [a, b, c] = decide (a ≤ b ∧ b ≤ c) := by rw [Bool.eq_iff_iff]; simp [inOrd]

/-- Numbers put into a row of their own, to be asked for their order. -/
theorem order_new (l : List Nat) (n : Nat) (w : World) (hl : l.length = n) (hn : n ≤ 1000) (cs : Array Value) (hcs : cs = (nums64 l).toArray) : Calls Tryd.prog 64 #[.slice (some ⟨w.heap.size, 0, none⟩) n n] (w.alloc (.cells cs 81)) fun e w' => e = .returned (.bool (inOrd l)) ∧ Below w.heap.size w w' := by
  subst hcs
  refine (inOrder_any w.heap.size n n l _ (Row.new w 81 (nums64 l) (0, 0)) hl hn).mono ?_
  rintro e w1 ⟨rfl, k, rfl⟩
  have hb : Below w.heap.size w (w.alloc (.cells (nums64 l).toArray 81)) := (Below.refl _ _).alloc (Nat.le_refl _) _
  exact ⟨rfl, ⟨hb.os, hb.tape, hb.output, hb.size, hb.block⟩⟩

end Go.Proofs.YtjahkaockjhibaaDoor

/-
  The walks over package tape: Read, Drop, Cut, Crash, Copy.
-/
namespace Go.Proofs.YtjahkaockjhibaaDoor
open Go.RowKit

theorem run_text_ {P : Program} {T src : TypeId} {e : TypeId} (hs : P.underlying src = some (.slice e)) (he : P.underlying e = some (.int .u8)) (w : World) (A : Option Addr) (l : List UInt8) (n c : Nat) (hn : l.length = n) (hr : Reads T w A l) :
    ∀ dst, P.underlying dst = some .string → (convert src dst (.slice A n c)).run P w = .ok (.string ⟨l.toArray⟩) w := by
  subst hn
  intro dst hd
  rcases Nat.eq_zero_or_pos l.length with h0 | h0
  · obtain rfl : l = [] := List.eq_nil_of_length_eq_zero h0
    rw [run_convert_bytes_string w src dst e A _ c hs he hd]
    cases A with
    | none => simp [Conv.bytesToString]; rfl
    | some a =>
      have := run_bytesToString (P := P) w a 0 c [] (by simp [loadCells]; rfl)
      exact this
  · obtain ⟨g, off, cs, m, rfl, hrow, hc⟩ := hr h0
    have h := run_convert_bytes_arg (P := P) w src e hs he g off l.length c (l.map fun b => (b.toNat : Int)) (by simp) (fun i hi => by
      rw [hrow.cell, hc i hi, byt_get l i hi]
      simp [List.getD, List.getElem?_eq_getElem hi]) dst hd
    have e : strOfNums (l.map fun b => (b.toNat : Int)) = ⟨l.toArray⟩ := by
      unfold strOfNums
      rw [List.map_map, show ((fun n : Int => UInt8.ofNat n.toNat) ∘ fun b : UInt8 => (b.toNat : Int)) = id from funext fun b => by simp, List.map_id]
    rw [h, e]

section
variable (d : TV) (w : World)
/-- What a call asks of the offsets: in a world that has come since. -/
theorem keep_three (h : d.In w) : ∀ wx, Below w.heap.size w wx → Below w.heap.size w wx ∧ wx.cell? ⟨d.A, 3, none⟩ = some (.int .u64 (d.s.base : Int)) ∧ wx.cell? ⟨d.A, 4, none⟩ = some (.int .u64 (d.s.sure : Int)) := fun _ hb => ⟨hb, (h.keeps hb).c3, (h.keeps hb).c4⟩
theorem end_since (h : d.In w) : ∀ wx, Below w.heap.size w wx → Calls Tryd.prog 58 #[d.ptr] wx fun e w' => e = .returned (.int .u64 (d.s.fin : Int)) ∧ Below w.heap.size w w' := fun wx hb =>
  (end_any d wx (h.keeps hb)).mono fun _ _ hh => ⟨hh.1, hh.2 ▸ hb.drew⟩
theorem order_since (l : List Nat) (n : Nat) (hl : l.length = n) (hn : n ≤ 1000) (b : Bool) (hb : inOrd l = b) (cs : Array Value) (hcs : cs = (nums64 l).toArray) : ∀ wx, Below w.heap.size w wx → Calls Tryd.prog 64 #[.slice (some ⟨wx.heap.size, 0, none⟩) n n] (wx.alloc (.cells cs 81)) fun e w' => e = .returned (.bool b) ∧ Below w.heap.size w w' := fun wx hw =>
  (order_new l n wx hl hn cs hcs).mono fun _ _ hh => ⟨by rw [hh.1, hb], hw.trans (hh.2.mono hw.size)⟩
end

set_option maxRecDepth 100000 in
set_option maxHeartbeats 2000000 in
theorem read_any (d : TV) (a b : Nat) (w : World) (h : d.In w) : Calls Tryd.prog 31 #[d.ptr, .int .u64 (a : Int), .int .u64 (b : Int)] w fun e w' => e = .returned (.tuple #[.string (d.s.read a b), .int .i64 (if d.s.reads a b then 0 else 2)]) ∧ Below w.heap.size w w' := by
  have HN := Lib.hid (isNone_any d w h)
  have HC := Lib.hid (keep_three d w h)
  have HE := Lib.hid (end_since d w h)
  have HO := Lib.hid (order_since w [d.s.base, a, b, d.s.fin] 4 rfl (by omega) (decide (d.s.reads a b)) (by rw [inOrd_four]; rfl) _ rfl)
  have hk0 : Below w.heap.size w w.drew := (Below.refl _ w).drew
  simp only [nums64, List.map_cons, List.map_nil] at HO
  by_cases hrd : d.s.reads a b
  · have HP := Lib.hid (fun (wx : World) (hb : Below w.heap.size w wx) => piece_any d a b wx (h.keeps hb) hrd.1 hrd.2.1 hrd.2.2)
    have HT := Lib.hid (show ∀ wx, Below w.heap.size w wx → ∀ wy, wy = wx.drew → (convert 80 9 (.slice (if b - d.s.base = a - d.s.base then d.v else d.v.map (·.add (a - d.s.base))) ((b - d.s.base) - (a - d.s.base)) ((b - d.s.base) - (a - d.s.base)))).run Tryd.prog wy = .ok (.string (d.s.read a b)) wy ∧ Below w.heap.size w wy from fun wx hb wy hy => by
      subst hy
      have hf := hrd.2.2
      unfold ST.fin at hf
      obtain ⟨h1, h2, h3⟩ := hrd
      have hpc := (h.keeps hb).drew.bts.piece (a - d.s.base) (b - d.s.base) (by omega) (by omega)
      have := run_text_ Tryd.underlying80 Tryd.underlying5 wx.drew _ _ ((b - d.s.base) - (a - d.s.base)) ((b - d.s.base) - (a - d.s.base)) (by rw [List.length_drop, List.length_take]; omega) hpc.reads _ Tryd.underlying9
      rw [this]
      exact ⟨by rw [ST.read, if_pos ⟨h1, h2, h3⟩], hb.drew⟩)
    rw [show decide (d.s.reads a b) = true by simpa using hrd] at HO
    rw [if_pos hrd]
    generalize (if b - d.s.base = a - d.s.base then d.v else d.v.map (·.add (a - d.s.base))) = V at *
    generalize (b - d.s.base) - (a - d.s.base) = N at *
    generalize d.s.read a b = X at *
    clear hrd h
    unfold TV.ptr at HN HE HP ⊢
    go_enter Tryd.func31, Tryd.ntmps31
    go_wp2_with fail
    refine HN.out.mono ?_
    rintro e w1 ⟨rfl, rfl⟩
    go_wp2_with fail
    go_region_held3 (fun wx => Below w.heap.size w wx ∧ wx.cell? ⟨d.A, 3, none⟩ = some (.int .u64 (d.s.base : Int)) ∧ wx.cell? ⟨d.A, 4, none⟩ = some (.int .u64 (d.s.sure : Int))) (first | exact HC.out _ (by assumption) | exact HC.out _ (Below.alloc (by assumption) (Below.size (by assumption)) _) | go_keep)
      (first
        | ((with_reducible refine (HE.out _ (by assumption)).mono ?_); rintro e wa ⟨rfl, hka⟩)
        | ((with_reducible refine (HO.out _ (by assumption)).mono ?_); rintro e wb ⟨rfl, hkb⟩))
    go_wp2_with fail
    refine (HP.out _ hkb).mono ?_
    rintro e wc ⟨rfl, hc⟩
    obtain ⟨hcv, hkc⟩ := HT.out wb hkb wc hc
    have HK := Lib.hid hkc
    clear hc hkb hkc hka
    go_wp2
    go_ret2
    exact ⟨rfl, HK.out⟩
  · rw [show decide (d.s.reads a b) = false by simpa using hrd] at HO
    rw [if_neg hrd, show d.s.read a b = ⟨#[]⟩ from if_neg hrd]
    clear hrd h
    unfold TV.ptr at HN HE ⊢
    go_enter Tryd.func31, Tryd.ntmps31
    go_wp2_with fail
    refine HN.out.mono ?_
    rintro e w1 ⟨rfl, rfl⟩
    go_wp2_with fail
    go_region_held3 (fun wx => Below w.heap.size w wx ∧ wx.cell? ⟨d.A, 3, none⟩ = some (.int .u64 (d.s.base : Int)) ∧ wx.cell? ⟨d.A, 4, none⟩ = some (.int .u64 (d.s.sure : Int))) (first | exact HC.out _ (by assumption) | exact HC.out _ (Below.alloc (by assumption) (Below.size (by assumption)) _) | go_keep)
      (first
        | ((with_reducible refine (HE.out _ (by assumption)).mono ?_); rintro e wa ⟨rfl, hka⟩)
        | ((with_reducible refine (HO.out _ (by assumption)).mono ?_); rintro e wb ⟨rfl, hkb⟩))
    go_wp2
    go_ret2
    exact ⟨rfl, hkb⟩

set_option maxRecDepth 100000 in
set_option maxHeartbeats 2000000 in
theorem cut_any (d : TV) (to : Nat) (w : World) (h : d.In w) : Calls Tryd.prog 68 #[d.ptr, .int .u64 (to : Int)] w (d.Turned w (d.s.cut to) (.int .i64 (if d.s.cuts to then 0 else 2))) := by
  have HN := Lib.hid (isNone_any d w h)
  have HC := Lib.hid (keep_three d w h)
  have HE := Lib.hid (end_since d w h)
  have HO := Lib.hid (order_since w [d.s.base, to, d.s.fin] 3 rfl (by omega) (decide (d.s.cuts to)) (by rw [inOrd_three]; rfl) _ rfl)
  have hk0 : Below w.heap.size w w.drew := (Below.refl _ w).drew
  simp only [nums64, List.map_cons, List.map_nil] at HO
  by_cases hrd : d.s.cuts to
  · have HS := Lib.hid (fun (wx : World) (hb : Below w.heap.size w wx) => shorten_any d to wx (h.keeps hb) hrd.1 hrd.2)
    have HT := Lib.hid (show ∀ wx, Below w.heap.size w wx → ∀ e wy, d.Turned wx (d.s.shorten to) (.tuple #[]) e wy → e = .returned (.tuple #[]) ∧ d.Turned w (d.s.cut to) (.int .i64 0) (.returned (.int .i64 0)) wy from fun wx hb e wy hy => by
      obtain ⟨d', e1, e2, e3, h4, h5, h6⟩ := hy
      refine ⟨e1, turned_then (Only.below hb _) rfl (fun k hk => .inl hk) ⟨d', rfl, e2, ?_, h4, h5, h6⟩⟩
      rw [e3]; exact (if_pos hrd).symm)
    rw [show decide (d.s.cuts to) = true by simpa using hrd] at HO
    rw [if_pos hrd]
    obtain ⟨P, hP⟩ : ∃ P, d.Turned w (d.s.cut to) (.int .i64 0) = P := ⟨_, rfl⟩
    simp only [hP] at HT ⊢
    obtain ⟨Q, hQ⟩ : ∃ Q : World → Ending → World → Prop, (fun wx => d.Turned wx (d.s.shorten to) (.tuple #[])) = Q := ⟨_, rfl⟩
    have HS1 := Lib.hid (show ∀ wx, Below w.heap.size w wx → Calls Tryd.prog 59 #[d.ptr, .int .u64 (to : Int)] wx (Q wx) from fun wx hb => by rw [← hQ]; exact HS.out wx hb)
    have HT1 := Lib.hid (show ∀ wx, Below w.heap.size w wx → ∀ e wy, Q wx e wy → e = .returned (.tuple #[]) ∧ P (.returned (.int .i64 0)) wy from fun wx hb e wy hy => by rw [← hQ] at hy; exact HT.out wx hb e wy hy)
    clear hrd h hP hQ HS HT
    unfold TV.ptr at HN HE HS1 ⊢
    go_enter Tryd.func68, Tryd.ntmps68
    go_wp2_with fail
    refine HN.out.mono ?_
    rintro e w1 ⟨rfl, rfl⟩
    go_wp2_with fail
    go_region_held3 (fun wx => Below w.heap.size w wx ∧ wx.cell? ⟨d.A, 3, none⟩ = some (.int .u64 (d.s.base : Int)) ∧ wx.cell? ⟨d.A, 4, none⟩ = some (.int .u64 (d.s.sure : Int))) (first | exact HC.out _ (by assumption) | exact HC.out _ (Below.alloc (by assumption) (Below.size (by assumption)) _) | go_keep)
      (first
        | ((with_reducible refine (HE.out _ (by assumption)).mono ?_); rintro e wa ⟨rfl, hka⟩)
        | ((with_reducible refine (HO.out _ (by assumption)).mono ?_); rintro e wb ⟨rfl, hkb⟩))
    go_wp2_with fail
    refine (HS1.out _ hkb).mono ?_
    intro e wc hc
    obtain ⟨rfl, hpost⟩ := HT1.out wb hkb e wc hc
    have HP := Lib.hid hpost
    clear hc hkb hka hpost
    go_wp2
    exact HP.out
  · rw [show decide (d.s.cuts to) = false by simpa using hrd] at HO
    rw [if_neg hrd, show d.s.cut to = d.s from if_neg hrd]
    have HF := Lib.hid (show ∀ wx, Below w.heap.size w wx → d.Turned w d.s (.int .i64 2) (.returned (.int .i64 2)) wx from fun wx hb => ⟨d, rfl, rfl, rfl, h.keeps hb, Only.below hb _, fun k hk => .inl hk⟩)
    obtain ⟨P, hP⟩ : ∃ P, d.Turned w d.s (.int .i64 2) = P := ⟨_, rfl⟩
    simp only [hP] at HF ⊢
    clear hrd h hP
    unfold TV.ptr at HN HE ⊢
    go_enter Tryd.func68, Tryd.ntmps68
    go_wp2_with fail
    refine HN.out.mono ?_
    rintro e w1 ⟨rfl, rfl⟩
    go_wp2_with fail
    go_region_held3 (fun wx => Below w.heap.size w wx ∧ wx.cell? ⟨d.A, 3, none⟩ = some (.int .u64 (d.s.base : Int)) ∧ wx.cell? ⟨d.A, 4, none⟩ = some (.int .u64 (d.s.sure : Int))) (first | exact HC.out _ (by assumption) | exact HC.out _ (Below.alloc (by assumption) (Below.size (by assumption)) _) | go_keep)
      (first
        | ((with_reducible refine (HE.out _ (by assumption)).mono ?_); rintro e wa ⟨rfl, hka⟩)
        | ((with_reducible refine (HO.out _ (by assumption)).mono ?_); rintro e wb ⟨rfl, hkb⟩))
    go_wp2
    exact HF.out _ hkb

theorem drop_set {d : TV} {to : Nat} {w : World} (h : d.In w) (hrd : d.s.drops to) (V : Option Addr) (N : Nat) (hV : (if d.s.fin - d.s.base = to - d.s.base then d.v else d.v.map (·.add (to - d.s.base))) = V) (hN : (d.s.fin - d.s.base) - (to - d.s.base) = N) :
    d.Turned w (d.s.drop to) (.int .i64 0) (.returned (.int .i64 0)) ((w.setCell ⟨d.A, 2, none⟩ (.slice V N N)).setCell ⟨d.A, 3, none⟩ (.int .u64 (to : Int))) := by
  have hsf := h.ok.sf
  obtain ⟨h1, h2⟩ := hrd
  have hdr : d.s.drop to = { d.s with base := to, l := d.s.l.drop (to - d.s.base) } := if_pos ⟨h1, h2⟩
  have hok := h.ok.drop to
  rw [hdr] at hok ⊢
  have hfl : d.s.fin - d.s.base = d.s.l.length := by unfold ST.fin; omega
  have hpc := h.bts.piece (to - d.s.base) (d.s.fin - d.s.base) (by omega) (by omega)
  rw [hV, hN, hfl, List.take_length] at hpc
  have hl : (d.s.l.drop (to - d.s.base)).length = N := by rw [List.length_drop]; omega
  have hb : ∀ k, blk V = some k → blk d.v = some k := fun k hk => blk_piece (a := to - d.s.base) (b := d.s.fin - d.s.base) (by rw [hV]; exact hk)
  refine set_in (s := { d.s with base := to, l := d.s.l.drop (to - d.s.base) }) (c := N) (v := V) h (((Only.refl d.mine w).setCell (.inl rfl) _).setCell (.inl rfl) _) ((h.dev.put 2 _).put 3 _) (by rw [hl]) rfl rfl ?_ hok (fun k hk => .inl (.inr (hb k hk))) _
  exact hpc.only (F := (· = d.A)) (((Only.refl (· = d.A) w).setCell rfl _).setCell rfl _) (fun k hk e => h.ne (hb k hk) e.symm)

set_option maxRecDepth 100000 in
set_option maxHeartbeats 2000000 in
theorem drop_any (d : TV) (to : Nat) (w : World) (h : d.In w) : Calls Tryd.prog 70 #[d.ptr, .int .u64 (to : Int)] w (d.Turned w (d.s.drop to) (.int .i64 (if d.s.drops to then 0 else 2))) := by
  have HN := Lib.hid (isNone_any d w h)
  have HC := Lib.hid (keep_three d w h)
  have HO := Lib.hid (order_since w [d.s.base, to, d.s.sure] 3 rfl (by omega) (decide (d.s.drops to)) (by rw [inOrd_three]; rfl) _ rfl)
  have hk0 : Below w.heap.size w w.drew := (Below.refl _ w).drew
  simp only [nums64, List.map_cons, List.map_nil] at HO
  by_cases hrd : d.s.drops to
  · have HE := Lib.hid (fun (wx : World) (hb : Below w.heap.size w wx) => end_any d wx (h.keeps hb))
    have HP := Lib.hid (fun (wx : World) (hb : Below w.heap.size w wx) => piece_any d to d.s.fin wx.drew (h.keeps hb).drew hrd.1 (by have := hrd.2; have := h.ok.sf; omega) (Nat.le_refl _))
    have HT := Lib.hid (show ∀ wx, Below w.heap.size w wx → ∀ V N, (if d.s.fin - d.s.base = to - d.s.base then d.v else d.v.map (·.add (to - d.s.base))) = V → (d.s.fin - d.s.base) - (to - d.s.base) = N → wx.cell? ⟨d.A, 2, none⟩ = some (.slice d.v d.s.l.length d.c) ∧ wx.frozen? ⟨d.A, 2, none⟩ = false ∧ wx.cell? ⟨d.A, 3, none⟩ = some (.int .u64 (d.s.base : Int)) ∧ wx.frozen? ⟨d.A, 3, none⟩ = false ∧ ∀ wy, wy = (((wx.drewN 2).setCell ⟨d.A, 2, none⟩ (.slice V N N)).setCell ⟨d.A, 3, none⟩ (.int .u64 (to : Int))) → d.Turned w (d.s.drop to) (.int .i64 0) (.returned (.int .i64 0)) wy from fun wx hb V N hV hN =>
      ⟨(h.keeps hb).c2, (h.keeps hb).free 2, (h.keeps hb).c3, (h.keeps hb).free 3, fun wy hy => hy ▸ turned_then (w1 := wx.drewN 2) ((Only.below hb d.mine).drewN 2) rfl (fun k hk => .inl hk) (drop_set ((h.keeps hb).drewN 2) hrd V N hV hN)⟩)
    rw [show decide (d.s.drops to) = true by simpa using hrd] at HO
    have HO0 := Lib.hid (show Calls Tryd.prog 64 #[.slice (some ⟨w.heap.size, 0, none⟩) 3 3] (w.alloc (.cells #[.int .u64 (d.s.base : Int), .int .u64 (to : Int), .int .u64 (d.s.sure : Int)] 81)).drew fun e w' => e = .returned (.bool true) ∧ Below w.heap.size w w' from HO.out w.drew hk0)
    rw [if_pos hrd]
    obtain ⟨V, hV⟩ : ∃ V, (if d.s.fin - d.s.base = to - d.s.base then d.v else d.v.map (·.add (to - d.s.base))) = V := ⟨_, rfl⟩
    obtain ⟨N, hN⟩ : ∃ N, (d.s.fin - d.s.base) - (to - d.s.base) = N := ⟨_, rfl⟩
    have HT1 := Lib.hid (fun wx hb => HT.out wx hb V N hV hN)
    simp only [hV, hN] at HP
    obtain ⟨P, hP⟩ : ∃ P, d.Turned w (d.s.drop to) (.int .i64 0) = P := ⟨_, rfl⟩
    simp only [hP] at HT1 ⊢
    clear hrd h hP HT hV hN
    unfold TV.ptr at HN HE HP ⊢
    go_enter Tryd.func70, Tryd.ntmps70
    go_wp2_with fail
    refine HN.out.mono ?_
    rintro e w1 ⟨rfl, rfl⟩
    go_wp2_with fail
    go_region_held3 (fun wx => Below w.heap.size w wx ∧ wx.cell? ⟨d.A, 3, none⟩ = some (.int .u64 (d.s.base : Int)) ∧ wx.cell? ⟨d.A, 4, none⟩ = some (.int .u64 (d.s.sure : Int))) (first | exact HC.out _ (by assumption) | exact HC.out _ (Below.alloc (by assumption) (Below.size (by assumption)) _) | go_keep)
      (first
        | ((with_reducible refine HO0.out.mono ?_); rintro e wb ⟨rfl, hkb⟩)
        | fail "none")
    go_wp2_with fail
    refine (HE.out _ hkb).mono ?_
    rintro e wc ⟨rfl, rfl⟩
    go_wp2_with fail
    refine (HP.out _ hkb).mono ?_
    rintro e wc ⟨rfl, rfl⟩
    obtain ⟨c2, f2, c3, f3, hpost⟩ := HT1.out wb hkb
    have HQ := Lib.hid hpost
    clear hkb hpost
    go_wp2
    exact HQ.out _ rfl
  · rw [show decide (d.s.drops to) = false by simpa using hrd] at HO
    have HO0 := Lib.hid (show Calls Tryd.prog 64 #[.slice (some ⟨w.heap.size, 0, none⟩) 3 3] (w.alloc (.cells #[.int .u64 (d.s.base : Int), .int .u64 (to : Int), .int .u64 (d.s.sure : Int)] 81)).drew fun e w' => e = .returned (.bool false) ∧ Below w.heap.size w w' from HO.out w.drew hk0)
    rw [if_neg hrd, show d.s.drop to = d.s from if_neg hrd]
    have HF := Lib.hid (show ∀ wx, Below w.heap.size w wx → d.Turned w d.s (.int .i64 2) (.returned (.int .i64 2)) wx from fun wx hb => ⟨d, rfl, rfl, rfl, h.keeps hb, Only.below hb _, fun k hk => .inl hk⟩)
    obtain ⟨P, hP⟩ : ∃ P, d.Turned w d.s (.int .i64 2) = P := ⟨_, rfl⟩
    simp only [hP] at HF ⊢
    clear hrd h hP
    unfold TV.ptr at HN ⊢
    go_enter Tryd.func70, Tryd.ntmps70
    go_wp2_with fail
    refine HN.out.mono ?_
    rintro e w1 ⟨rfl, rfl⟩
    go_wp2_with fail
    go_region_held3 (fun wx => Below w.heap.size w wx ∧ wx.cell? ⟨d.A, 3, none⟩ = some (.int .u64 (d.s.base : Int)) ∧ wx.cell? ⟨d.A, 4, none⟩ = some (.int .u64 (d.s.sure : Int))) (first | exact HC.out _ (by assumption) | exact HC.out _ (Below.alloc (by assumption) (Below.size (by assumption)) _) | go_keep)
      (first
        | ((with_reducible refine HO0.out.mono ?_); rintro e wb ⟨rfl, hkb⟩)
        | fail "none")
    go_wp2
    exact HF.out _ hkb

theorem shut_below {w wx wy : World} (h : Below w.heap.size w wx) (hy : wy = wx.drew) : Below w.heap.size w wy := hy ▸ h.drew

set_option maxRecDepth 100000 in
set_option maxHeartbeats 2000000 in
theorem crash_any (d : TV) (keep : Int) (w : World) (h : d.In w) (hk : keep ≤ 9223372036854775807) : Calls Tryd.prog 23 #[d.ptr, .int .i64 keep] w (d.Turned w (d.s.crash keep) (.tuple #[])) := by
  have HN := Lib.hid (isNone_any d w h)
  have HC := Lib.hid (keep_three d w h)
  have HE := Lib.hid (end_since d w h)
  have hsf := h.ok.sf
  have hsm := h.ok.small
  have hkl := d.s.kept_le keep
  have hke : ((d.s.kept keep : Nat) : Int) = min (max keep 0) ((d.s.fin - d.s.sure : Nat) : Int) := by unfold ST.kept; omega
  have HT := Lib.hid (fun wx => to_any d.s.sure d.s.fin wx hsf (by omega))
  have HPL := Lib.hid (fun wx => plus_any d.s.sure (d.s.kept keep) wx (by omega))
  have HS := Lib.hid (fun (wx : World) (hb : Below w.heap.size w wx) => shorten_any d (d.s.sure + d.s.kept keep) wx (h.keeps hb) (by have := h.ok.bs; omega) (by omega))
  have HZ := Lib.hid (show ∀ wx, Below w.heap.size w wx → ∀ e wy, d.Turned wx (d.s.shorten (d.s.sure + d.s.kept keep)) (.tuple #[]) e wy → e = .returned (.tuple #[]) ∧ ∃ f : Nat, Calls Tryd.prog 58 #[d.ptr] wy (fun e w' => e = .returned (.int .u64 (f : Int)) ∧ w' = wy.drew) ∧ (∃ u, wy.cell? ⟨d.A, 4, none⟩ = some u) ∧ wy.frozen? ⟨d.A, 4, none⟩ = false ∧ d.Turned w (d.s.crash keep) (.tuple #[]) (.returned (.tuple #[])) (wy.drew.setCell ⟨d.A, 4, none⟩ (.int .u64 (f : Int))) from fun wx hb e wy hy => by
    obtain ⟨d', e1, e2, e3, h4, h5, h6⟩ := hy
    have hptr : d'.ptr = d.ptr := by unfold TV.ptr; rw [e2]
    refine ⟨e1, d'.s.fin, hptr ▸ end_any d' wy h4, ⟨_, e2 ▸ h4.c4⟩, e2 ▸ h4.free 4, ?_⟩
    have hf := force_set h4 (.tuple #[])
    rw [e3] at hf
    rw [e2, ← e3] at hf
    refine turned_then (d1 := d') (w1 := wy) ?_ e2 ?_ ?_
    · exact (Only.below hb d.mine).trans h5
    · intro k hk
      rcases h6 k hk with h7 | h7
      · exact .inl h7
      · exact .inr (Nat.le_trans hb.size h7)
    · rw [e3] at hf ⊢
      exact hf)
  have hk0 : Below w.heap.size w w.drew := (Below.refl _ w).drew
  have c4 := h.c4
  generalize d.s.kept keep = K at *
  obtain ⟨P, hP⟩ : ∃ P, d.Turned w (d.s.crash keep) (.tuple #[]) = P := ⟨_, rfl⟩
  simp only [hP] at HZ ⊢
  obtain ⟨Q, hQ⟩ : ∃ Q : World → Ending → World → Prop, (fun wx => d.Turned wx (d.s.shorten (d.s.sure + K)) (.tuple #[])) = Q := ⟨_, rfl⟩
  have HS1 := Lib.hid (show ∀ wx, Below w.heap.size w wx → Calls Tryd.prog 59 #[d.ptr, .int .u64 ((d.s.sure + K : Nat) : Int)] wx (Q wx) from fun wx hb => by rw [← hQ]; exact HS.out wx hb)
  have HZ1 := Lib.hid (show ∀ wx, Below w.heap.size w wx → ∀ e wy, Q wx e wy → _ from fun wx hb e wy hy => HZ.out wx hb e wy (by rw [← hQ] at hy; exact hy))
  have hu : ((d.s.fin - d.s.sure : Nat) : Int) ≤ 9223372036854775807 := by omega
  clear h hsf hsm hkl hP hQ HS HZ
  generalize (d.s.fin - d.s.sure : Nat) = U at *
  generalize (d.s.sure + K : Nat) = T at *
  unfold TV.ptr at HN HE HS1 HZ1 ⊢
  go_enter Tryd.func23, Tryd.ntmps23
  go_wp2_with fail
  refine HN.out.mono ?_
  rintro e w1 ⟨rfl, rfl⟩
  go_wp2_with fail
  go_region_held3 (fun wx => Below w.heap.size w wx ∧ wx.cell? ⟨d.A, 3, none⟩ = some (.int .u64 (d.s.base : Int)) ∧ wx.cell? ⟨d.A, 4, none⟩ = some (.int .u64 (d.s.sure : Int))) (first | exact HC.out _ (by assumption) | go_keep)
    (first
      | ((with_reducible refine (HE.out _ (by assumption)).mono ?_); rintro e wa ⟨rfl, hka⟩)
      | ((with_reducible refine (HT.out _).mono ?_); rintro e wb ⟨rfl, rfl⟩))
  have c4a := (HC.out _ hka).2.2
  go_wp2_with fail
  rw [← hke]
  refine (HPL.out _).mono ?_
  rintro e wb ⟨rfl, rfl⟩
  go_wp2_with fail
  refine (HS1.out _ hka).mono ?_
  intro e wc hc
  obtain ⟨rfl, f, HEF, ⟨u, hu4⟩, f4, hpost⟩ := HZ1.out _ hka e wc hc
  have HP := Lib.hid hpost
  have HEF1 := Lib.hid HEF
  clear hpost HEF hc hka c4a
  go_wp2_with fail
  refine HEF1.out.mono ?_
  rintro e wd ⟨rfl, rfl⟩
  go_wp2
  exact bodyPost_ret (v := .tuple #[]) (by simp [results, Tryd.results23, go_sem]) rfl HP.out

/-- A copy. -/
def CopyTape (d : TV) (w : World) (e : Ending) (w' : World) : Prop :=
  ∃ c : TV, e = .returned c.ptr ∧ c.In w' ∧ Below w.heap.size w w' ∧ (∀ k, c.mine k → w.heap.size ≤ k) ∧ c.s = d.s

end Go.Proofs.YtjahkaockjhibaaDoor

/-
  A tape that has come since a world; the head; TapeNone's, TapeKeeps' and TapePlaces' walks.
-/
namespace Go.Proofs.YtjahkaockjhibaaDoor
open Go.RowKit

/-- At p lies a tape that has come since W, and is s. -/
def Tape (W : World) (p : Value) (s : ST) (w : World) : Prop := ∃ d : TV, d.ptr = p ∧ d.s = s ∧ d.In w ∧ Below W.heap.size W w ∧ ∀ k, d.mine k → W.heap.size ≤ k

section
variable {W w : World} {p : Value} {s : ST}
theorem Tape.ok (h : Tape W p s w) : s.Ok := by obtain ⟨d, _, rfl, hi, _⟩ := h; exact hi.ok
theorem Tape.since (h : Tape W p s w) : Below W.heap.size W w := by obtain ⟨d, _, _, _, h, _⟩ := h; exact h
theorem Tape.keeps {w' : World} (h : Tape W p s w) (hb : Below w.heap.size w w') : Tape W p s w' := by
  obtain ⟨d, rfl, rfl, hi, hw, hn⟩ := h
  exact ⟨d, rfl, rfl, hi.keeps hb, hw.trans (hb.mono hw.size), hn⟩
theorem Tape.drew (h : Tape W p s w) : Tape W p s w.drew := h.keeps ⟨rfl, rfl, rfl, Nat.le_refl _, fun _ _ => rfl⟩
theorem Tape.drewN (h : Tape W p s w) (n : Nat) : Tape W p s (w.drewN n) := h.keeps ⟨rfl, rfl, rfl, Nat.le_refl _, fun _ _ => rfl⟩
theorem tape_turned {d : TV} {s' : ST} {a : Value} {e : Ending} {w' : World} (hw : Below W.heap.size W w) (hn : ∀ k, d.mine k → W.heap.size ≤ k) (h : d.Turned w s' a e w') : e = .returned a ∧ Tape W d.ptr s' w' := by
  obtain ⟨d', e1, e2, e3, h4, h5, h6⟩ := h
  refine ⟨e1, d', by unfold TV.ptr; rw [e2], e3, h4, hw.trans ⟨h5.os, h5.tape, h5.output, h5.size, fun k hk => h5.block k (Nat.lt_of_lt_of_le hk hw.size) fun hm => ?_⟩, fun k hk => ?_⟩
  · have := hn k hm; omega
  · rcases h6 k hk with h7 | h7
    · exact hn k h7
    · exact Nat.le_trans hw.size h7
theorem new_tape (room : Int) (hr : room ≤ 9223372036854775807) (hw : Below W.heap.size W w) : Calls Tryd.prog 9 #[.int .i64 room] w fun e w' => ∃ A : Nat, e = .returned (.pointer (some ⟨A, 0, none⟩)) ∧ Tape W (.pointer (some ⟨A, 0, none⟩)) ⟨room.toNat, 0, 0, []⟩ w' := by
  refine (new_any room w hr).mono ?_
  rintro e w' ⟨d, rfl, hi, hb, hn, hs⟩
  exact ⟨d.A, rfl, d, rfl, hs, hi, hw.trans (hb.mono hw.size), fun k hk => Nat.le_trans hw.size (hn k hk)⟩
theorem append_tape (h : Tape W p s w) (t : ByteArray) (ht : s.fin + t.size ≤ 100000000) : Calls Tryd.prog 29 #[p, .string t] w fun e w' => e = .returned (.int .i64 (if s.fits t then 0 else 6)) ∧ Tape W p (s.append t) w' := by
  obtain ⟨d, rfl, rfl, hi, hw, hn⟩ := h
  exact (append_any d t w hi ht).mono fun e w' hh => tape_turned hw hn hh
theorem force_tape (h : Tape W p s w) : Calls Tryd.prog 52 #[p] w fun e w' => e = .returned (.int .i64 0) ∧ Tape W p s.force w' := by
  obtain ⟨d, rfl, rfl, hi, hw, hn⟩ := h
  exact (force_any d w hi).mono fun e w' hh => tape_turned hw hn hh
theorem drop_tape (h : Tape W p s w) (to : Nat) (k : Int) (hk : k = (to : Int)) : Calls Tryd.prog 70 #[p, .int .u64 k] w fun e w' => e = .returned (.int .i64 (if s.drops to then 0 else 2)) ∧ Tape W p (s.drop to) w' := by
  subst hk
  obtain ⟨d, rfl, rfl, hi, hw, hn⟩ := h
  exact (drop_any d to w hi).mono fun e w' hh => tape_turned hw hn hh
theorem cut_tape (h : Tape W p s w) (to : Nat) (k : Int) (hk : k = (to : Int)) : Calls Tryd.prog 68 #[p, .int .u64 k] w fun e w' => e = .returned (.int .i64 (if s.cuts to then 0 else 2)) ∧ Tape W p (s.cut to) w' := by
  subst hk
  obtain ⟨d, rfl, rfl, hi, hw, hn⟩ := h
  exact (cut_any d to w hi).mono fun e w' hh => tape_turned hw hn hh
theorem crash_tape (h : Tape W p s w) (keep : Int) (hk : keep ≤ 9223372036854775807) : Calls Tryd.prog 23 #[p, .int .i64 keep] w fun e w' => e = .returned (.tuple #[]) ∧ Tape W p (s.crash keep) w' := by
  obtain ⟨d, rfl, rfl, hi, hw, hn⟩ := h
  exact (crash_any d keep w hi hk).mono fun e w' hh => tape_turned hw hn hh
theorem read_tape (h : Tape W p s w) (a b : Nat) (i j : Int) (hi : i = (a : Int)) (hj : j = (b : Int)) : Calls Tryd.prog 31 #[p, .int .u64 i, .int .u64 j] w fun e w' => e = .returned (.tuple #[.string (s.read a b), .int .i64 (if s.reads a b then 0 else 2)]) ∧ Tape W p s w' := by
  subst hi hj
  have hh := h
  obtain ⟨d, rfl, rfl, hi, hw, hn⟩ := h
  exact (read_any d a b w hi).mono fun e w' hb => ⟨hb.1, hh.keeps hb.2⟩
theorem base_tape (h : Tape W p s w) : Calls Tryd.prog 46 #[p] w fun e w' => e = .returned (.int .u64 (s.base : Int)) ∧ w = w' := by
  obtain ⟨d, rfl, rfl, hi, hw, hn⟩ := h
  exact base_any d w hi
theorem sure_tape (h : Tape W p s w) : Calls Tryd.prog 33 #[p] w fun e w' => e = .returned (.int .u64 (s.sure : Int)) ∧ w = w' := by
  obtain ⟨d, rfl, rfl, hi, hw, hn⟩ := h
  exact sure_any d w hi
theorem End_tape (h : Tape W p s w) : Calls Tryd.prog 32 #[p] w fun e w' => e = .returned (.int .u64 (s.fin : Int)) ∧ Tape W p s w' := by
  have hh := h
  obtain ⟨d, rfl, rfl, hi, hw, hn⟩ := h
  exact (End_any d w hi).mono fun e w' hb => ⟨hb.1, hb.2 ▸ hh.drew⟩
theorem room_tape (h : Tape W p s w) : Calls Tryd.prog 63 #[p] w fun e w' => e = .returned (.int .i64 ((s.room - s.l.length : Nat) : Int)) ∧ Tape W p s w' := by
  have hh := h
  obtain ⟨d, rfl, rfl, hi, hw, hn⟩ := h
  refine (room_any d w hi).mono fun e w' hb => ⟨hb.1, ?_⟩
  obtain ⟨n, rfl⟩ := hb.2
  exact hh.keeps ⟨rfl, rfl, rfl, Nat.le_refl _, fun _ _ => rfl⟩
end

theorem act2 {a b : Prop} (h : a ∧ b) : a ∧ Hid b := ⟨h.1, Lib.hid h.2⟩

end Go.Proofs.YtjahkaockjhibaaDoor

/-
  Texts of an argument; one more text on a tape that bears a text.
-/
namespace Go.Proofs.YtjahkaockjhibaaDoor
open Go.RowKit

/-- A row of texts in old memory. -/
def Strs (w : World) (A : Option Addr) (l : List ByteArray) : Prop := ∀ i (h : i < l.length), ∃ g off, A = some ⟨g, off, none⟩ ∧ g < w.heap.size ∧ w.cell? ⟨g, off + i, none⟩ = some (.string l[i])
theorem Strs.cell {W w : World} {A : Option Addr} {l : List ByteArray} (h : Strs W A l) (hb : Below W.heap.size W w) {i : Nat} (hi : i < l.length) : ∃ g off, A = some ⟨g, off, none⟩ ∧ w.cell? ⟨g, off + i, none⟩ = some (.string l[i]) := by
  obtain ⟨g, off, e, hg, hc⟩ := h i hi
  exact ⟨g, off, e, (hb.cell (p := ⟨g, off + i, none⟩) hg).trans hc⟩

theorem Strs.at_ {W : World} {A : Option Addr} {l : List ByteArray} (h : Strs W A l) {i : Nat} (hi : i < l.length) : ∃ g off t, A = some ⟨g, off, none⟩ ∧ t ∈ l ∧ Hid (∀ w, Below W.heap.size W w → w.cell? ⟨g, off + i, none⟩ = some (.string t)) := by
  obtain ⟨g, off, e, hg, hc⟩ := h i hi
  exact ⟨g, off, l[i], e, List.getElem_mem hi, Lib.hid fun w hb => (hb.cell (p := ⟨g, off + i, none⟩) hg).trans hc⟩

theorem txt_append (a b : ByteArray) : txt (a ++ b) = txt a ++ txt b := by simp [txt]
theorem size_append (a b : ByteArray) : (a ++ b).size = a.size + b.size := by
  rw [← txt_length, txt_append, List.length_append, txt_length, txt_length]
theorem txt_inj {a b : ByteArray} (h : txt a = txt b) : a = b := by
  apply ByteArray.ext
  exact Array.toList_inj.1 h
theorem txt_mk (l : List UInt8) : txt ⟨l.toArray⟩ = l := rfl
theorem txt_empty : txt ⟨#[]⟩ = [] := rfl
theorem txt_extract (a : ByteArray) (i j : Nat) : txt (a.extract i j) = ((txt a).take j).drop i := by
  unfold txt
  rw [ByteArray.data_extract, Array.toList_extract, List.extract_eq_take_drop, List.drop_take]

theorem fits_of {room base sure : Nat} {l : List UInt8} (t : ByteArray) (h : l.length + t.size ≤ room) : (⟨room, base, sure, l⟩ : ST).fits t := by
  show t.size ≤ room - l.length
  omega
theorem append_of {room base sure : Nat} {l : List UInt8} (t : ByteArray) (h : l.length + t.size ≤ room) : (⟨room, base, sure, l⟩ : ST).append t = ⟨room, base, sure, l ++ txt t⟩ := if_pos (fits_of t h)
theorem append_more {W w : World} {p : Value} {room base sure : Nat} {l : List UInt8} (h : Tape W p ⟨room, base, sure, l⟩ w) (t : ByteArray) (ht : l.length + t.size ≤ room) (hs : base + l.length + t.size ≤ 100000000) :
    Calls Tryd.prog 29 #[p, .string t] w fun e w' => e = .returned (.int .i64 0) ∧ Tape W p ⟨room, base, sure, l ++ txt t⟩ w' := by
  have := append_tape h t hs
  rw [if_pos (fits_of t ht), append_of t ht] at this
  exact this
end Go.Proofs.YtjahkaockjhibaaDoor
