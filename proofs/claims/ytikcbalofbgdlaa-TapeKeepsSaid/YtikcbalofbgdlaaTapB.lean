/-
  The walks over package tape: New, piece, shorten, Force, Append.
-/
import Derived.Test.YtikcbalofbgdlaaTapA
import Derived.RegionTactic
import Derived.ChangeAlike
import Derived.Deep.RegionHeld3
namespace Go.Proofs.Ytikcbalofbgdlaa
open Go.RowKit

/-- A new tape. -/
def NewTape (room : Int) (w : World) (e : Ending) (w' : World) : Prop :=
  ∃ d : TV, e = .returned d.ptr ∧ d.In w' ∧ Below w.heap.size w w' ∧ (∀ k, d.mine k → w.heap.size ≤ k) ∧ d.s = ⟨room.toNat, 0, 0, []⟩

set_option maxRecDepth 100000 in
theorem new_any (room : Int) (w : World) (hr : room ≤ 9223372036854775807) : Calls Try.prog 8 #[.int .i64 room] w (NewTape room w) := by
  have HF := Lib.hid (show ∀ (k : Int), k = max room 0 → NewTape room w (.returned (.pointer (some ⟨w.heap.size, 0, none⟩))) (w.alloc (.cells #[.bool true, .int .i64 k, .slice none 0 0, .int .u64 0, .int .u64 0] 50)) from fun k hk => by
    have e : ((room.toNat : Nat) : Int) = k := by omega
    refine ⟨⟨w.heap.size, none, 0, ⟨room.toNat, 0, 0, []⟩⟩, rfl, ⟨?_, Bts.nil _, ⟨Nat.le_refl _, Nat.le_refl _, Nat.zero_le _, by show room.toNat ≤ _; omega, by show 0 + 0 ≤ _; omega⟩⟩, (Below.refl _ _).alloc (Nat.le_refl _) _, ?_, rfl⟩
    · have := Row.new w 50 [.bool true, .int .i64 k, .slice none 0 0, .int .u64 0, .int .u64 0] (0, 0)
      unfold TV.cells
      show Row _ _ _ [.bool true, .int .i64 ((room.toNat : Nat) : Int), .slice none 0 0, .int .u64 0, .int .u64 0] _
      rw [e]; exact this
    · rintro k (rfl | hk)
      · exact Nat.le_refl _
      · cases hk)
  obtain ⟨P, hP⟩ : ∃ P, NewTape room w = P := ⟨_, rfl⟩
  rw [hP] at HF ⊢
  clear hP
  go_enter Try.func8, Try.ntmps8
  go_wp2
  exact HF.out _ rfl

theorem run_piece {v : Option Addr} {n c a b : Nat} (w : World) (h1 : a ≤ b) (h2 : b ≤ c) :
    (Instr.slice 47 (.slice v n c) (some (.int .i64 (a : Int))) (some (.int .i64 (b : Int))) (some (.int .i64 (b : Int)))).run Try.prog w = .ok (.slice (if b = a then v else v.map (·.add a)) (b - a) (b - a)) w := by
  rw [run_slice_lhm (w := w) 47 _ n c Try.underlying47 .i64 .i64 .i64 (a : Int) (b : Int) (b : Int) (by omega) (by omega) (by omega) (by omega), show (sizeOf (Try.prog.elem 47)).run Try.prog w = .ok 1 w by kernel_rfl]
  simp only [Result.andThen, sliced, Nat.mul_one, Int.toNat_natCast]

set_option maxRecDepth 100000 in
set_option maxHeartbeats 2000000 in
/-- The bytes between two places. -/
theorem piece_any (d : TV) (a b : Nat) (w : World) (h : d.In w) (h0 : d.s.base ≤ a) (h1 : a ≤ b) (h2 : b ≤ d.s.fin) :
    Calls Try.prog 40 #[d.ptr, .int .u64 (a : Int), .int .u64 (b : Int)] w fun e w' => e = .returned (.slice (if b - d.s.base = a - d.s.base then d.v else d.v.map (·.add (a - d.s.base))) ((b - d.s.base) - (a - d.s.base)) ((b - d.s.base) - (a - d.s.base))) ∧ w' = w.drew := by
  have c2 := h.drew.c2
  have c3 := h.c3
  have hs := h.ok.small
  have hle := h.bts.le
  have HA := Lib.hid (fun wx => to_any d.s.base a wx h0 (by omega))
  have HB := Lib.hid (fun wx => to_any d.s.base b wx (by omega) (by omega))
  have hrun := run_piece (v := d.v) (n := d.s.l.length) (c := d.c) (a := a - d.s.base) (b := b - d.s.base) w.drew (by omega) (by unfold ST.fin at h2; omega)
  generalize (if b - d.s.base = a - d.s.base then d.v else d.v.map (·.add (a - d.s.base))) = V at *
  clear h h0 h1 h2 hs hle
  unfold TV.ptr
  go_enter Try.func40, Try.ntmps40
  go_wp2_with fail
  go_region_held3 (fun wx => wx = w.drew ∧ wx.cell? ⟨d.A, 2, none⟩ = some (.slice d.v d.s.l.length d.c)) (first | exact ⟨rfl, c2⟩ | go_keep)
    (first
      | ((with_reducible refine (HA.out _).mono ?_); rintro e wa ⟨rfl, rfl⟩)
      | ((with_reducible refine (HB.out _).mono ?_); rintro e wa ⟨rfl, rfl⟩))
  go_wp2
  go_ret
  exact ⟨rfl, rfl⟩

section
variable {d : TV} {w : World}
theorem set_in {u2 u3 u4 : Value} {w1 : World} {v : Option Addr} {c : Nat} {s : ST} (h : d.In w) (ho : Only d.mine w w1) (hA : Row w1 d.A 50 [.bool true, .int .i64 (s.room : Int), u2, u3, u4] (0, 0))
    (e2 : u2 = .slice v s.l.length c) (e3 : u3 = .int .u64 (s.base : Int)) (e4 : u4 = .int .u64 (s.sure : Int)) (hb : Bts w1 v s.l c) (hok : s.Ok) (hv : ∀ k, blk v = some k → d.mine k ∨ w.heap.size ≤ k) (a : Value) : d.Turned w s a (.returned a) w1 := by
  subst e2 e3 e4
  refine ⟨⟨d.A, v, c, s⟩, rfl, rfl, rfl, ⟨hA, hb, hok⟩, ho, ?_⟩
  rintro k (rfl | hk)
  · exact .inl (.inl rfl)
  · exact hv k hk
theorem blk_piece {v : Option Addr} {a b k : Nat} (hk : blk (if b = a then v else v.map (·.add a)) = some k) : blk v = some k := by
  split at hk
  · exact hk
  · cases v with
    | none => cases hk
    | some p =>
      have e : (p.add a).block = p.block := by unfold Addr.add; split <;> rfl
      have hk2 : some (p.add a).block = some k := hk
      rw [e] at hk2
      exact hk2
theorem Turned_mono {s : ST} {a : Value} {e : Ending} {w' : World} (h : d.Turned w s a e w') : ∃ d' : TV, e = .returned a ∧ d'.A = d.A ∧ d'.s = s ∧ d'.In w' ∧ Only d.mine w w' ∧ ∀ k, d'.mine k → d.mine k ∨ w.heap.size ≤ k := h
end

set_option maxRecDepth 100000 in
set_option maxHeartbeats 1000000 in
theorem shorten_any (d : TV) (to : Nat) (w : World) (h : d.In w) (h1 : d.s.base ≤ to) (h2 : to ≤ d.s.fin) :
    Calls Try.prog 37 #[d.ptr, .int .u64 (to : Int)] w (d.Turned w (d.s.shorten to) (.tuple #[])) := by
  have HP := Lib.hid (piece_any d d.s.base to w h (Nat.le_refl _) h1 h2)
  have hin := h.bts.piece 0 (to - d.s.base) (Nat.zero_le _) (by unfold ST.fin at h2; omega)
  simp only [Nat.sub_self, Nat.sub_zero, List.drop_zero] at HP hin
  have hV : ∀ k, blk (if to - d.s.base = 0 then d.v else d.v.map (·.add 0)) = some k → blk d.v = some k := fun k hk => blk_piece hk
  generalize (if to - d.s.base = 0 then d.v else d.v.map (·.add 0)) = V at *
  have hl : (d.s.shorten to).l.length = to - d.s.base := by show (d.s.l.take (to - d.s.base)).length = _; rw [List.length_take]; unfold ST.fin at h2; omega
  have c3 := h.c3
  have HF := Lib.hid (show ∀ x : Int, x = ((min d.s.sure to : Nat) : Int) → d.Turned w (d.s.shorten to) (.tuple #[]) (.returned (.tuple #[])) ((w.drew.setCell ⟨d.A, 2, none⟩ (.slice V (to - d.s.base) (to - d.s.base))).setCell ⟨d.A, 4, none⟩ (.int .u64 x)) from fun x hx => by
    have ho : Only d.mine w ((w.drew.setCell ⟨d.A, 2, none⟩ (.slice V (to - d.s.base) (to - d.s.base))).setCell ⟨d.A, 4, none⟩ (.int .u64 x)) := ((Only.refl d.mine w).drew.setCell (.inl rfl) _).setCell (.inl rfl) _
    have hA := (h.drew.dev.put 2 (.slice V (to - d.s.base) (to - d.s.base))).put 4 (.int .u64 x)
    refine set_in (s := d.s.shorten to) (c := to - d.s.base) h ho hA (by rw [hl]) rfl (by rw [hx]; rfl) ?_ (h.ok.shorten h1 h2).1 (fun k hk => .inl (.inr (hV k hk))) _
    have hb := hin.only (F := (· = d.A)) (w' := (w.drew.setCell ⟨d.A, 2, none⟩ (.slice V (to - d.s.base) (to - d.s.base))).setCell ⟨d.A, 4, none⟩ (.int .u64 x)) (((Only.refl (· = d.A) w).drew.setCell rfl _).setCell rfl _) (fun k hk e => h.ne (hV k hk) e.symm)
    exact hb)
  have c2 := h.c2
  have f2 := h.free 2
  have c4 := h.c4
  have f4 := h.free 4
  obtain ⟨P, hP⟩ : ∃ P, d.Turned w (d.s.shorten to) (.tuple #[]) = P := ⟨_, rfl⟩
  simp only [hP] at HF ⊢
  clear hP h h1 h2 hin hV hl
  unfold TV.ptr at HP ⊢
  go_enter Try.func37, Try.ntmps37
  go_wp2_with fail
  refine HP.out.mono ?_
  rintro e w1 ⟨rfl, rfl⟩
  go_wp2_with fail
  exact bodyPost_ret (v := .tuple #[]) (by simp [results, Try.results37, go_sem]) rfl (HF.out _ (by omega))

theorem force_set {d : TV} {w : World} (h : d.In w) (a : Value) : d.Turned w d.s.force a (.returned a) (w.drew.setCell ⟨d.A, 4, none⟩ (.int .u64 (d.s.fin : Int))) := by
  have ho : Only d.mine w (w.drew.setCell ⟨d.A, 4, none⟩ (.int .u64 (d.s.fin : Int))) := (Only.refl d.mine w).drew.setCell (.inl rfl) _
  refine set_in (s := d.s.force) (c := d.c) (v := d.v) h ho (h.drew.dev.put 4 (.int .u64 (d.s.fin : Int))) rfl rfl rfl ?_ h.ok.force (fun k hk => .inl (.inr hk)) _
  exact h.bts.only (F := (· = d.A)) ((Only.refl (· = d.A) w).drew.setCell rfl _) (fun k hk e => h.ne hk e.symm)
theorem turned_then {d d1 : TV} {w w1 w2 : World} {s2 : ST} {a : Value} {e : Ending} (ho : Only d.mine w w1) (hA : d1.A = d.A) (hm : ∀ k, d1.mine k → d.mine k ∨ w.heap.size ≤ k) (h : d1.Turned w1 s2 a e w2) : d.Turned w s2 a e w2 := by
  obtain ⟨d2, e1, e2, e3, h4, h5, h6⟩ := h
  refine ⟨d2, e1, e2.trans hA, e3, h4, ho.then h5 (fun k hk hf => ?_), fun k hk => ?_⟩
  · rcases hm k hf with h7 | h7
    · exact h7
    · omega
  · rcases h6 k hk with h7 | h7
    · exact hm k h7
    · exact .inr (Nat.le_trans ho.size h7)

set_option maxRecDepth 100000 in
theorem force_any (d : TV) (w : World) (h : d.In w) : Calls Try.prog 17 #[d.ptr] w (d.Turned w d.s.force (.int .i64 0)) := by
  have HN := Lib.hid (isNone_any d w h)
  have HE := Lib.hid (end_any d w h)
  have HF := Lib.hid (force_set h (.int .i64 0))
  have c4 := h.c4
  have f4 := h.free 4
  obtain ⟨P, hP⟩ : ∃ P, d.Turned w d.s.force (.int .i64 0) = P := ⟨_, rfl⟩
  simp only [hP] at HF ⊢
  clear hP h
  unfold TV.ptr at HN HE ⊢
  go_enter Try.func17, Try.ntmps17
  go_wp2_with fail
  refine HN.out.mono ?_
  rintro e w1 ⟨rfl, rfl⟩
  go_wp2_with fail
  refine HE.out.mono ?_
  rintro e w1 ⟨rfl, rfl⟩
  go_wp2
  exact HF.out

set_option maxRecDepth 100000 in
set_option maxHeartbeats 1000000 in
theorem append_any (d : TV) (s : ByteArray) (w : World) (h : d.In w) (hs : d.s.fin + s.size ≤ 100000000) : Calls Try.prog 16 #[d.ptr, .string s] w (d.Turned w (d.s.append s) (.int .i64 (if d.s.fits s then 0 else 6))) := by
  have HN := Lib.hid (isNone_any d w h)
  have HR := Lib.hid (room_any d w h)
  have hz : (s.size : Int) ≤ 100000000 := by omega
  by_cases hf : d.s.fits s
  · have hfi : (s.size : Int) ≤ ((d.s.room - d.s.l.length : Nat) : Int) := by unfold ST.fits at hf; omega
    have hap : d.s.append s = { d.s with l := d.s.l ++ txt s } := if_pos hf
    have hok := h.ok.append s hs
    rw [if_pos hf]
    rw [hap] at hok ⊢
    have HLE := Lib.hid (show d.s.l.length + s.size ≤ 100000000 by unfold ST.fin at hs; omega)
    have HW := Lib.hid (fun (n : Nat) (v' : Option Addr) (c' : Nat) (w1 : World) (hb : Bts w1 v' (d.s.l ++ txt s) c') (hg : (w.drewN n).grownBy w1 (blk d.v)) (hk : ∀ k, blk v' = some k → blk d.v = some k ∨ w.heap.size ≤ k) =>
      show w1.cell? ⟨d.A, 2, none⟩ = some (.slice d.v d.s.l.length d.c) ∧ w1.frozen? ⟨d.A, 2, none⟩ = false ∧ d.Turned w { d.s with l := d.s.l ++ txt s } (.int .i64 0) (.returned (.int .i64 0)) (w1.setCell ⟨d.A, 2, none⟩ (.slice v' (d.s.l.length + s.size) c')) from by
        have ho : Only (fun k => blk d.v = some k) w w1 := ((Only.refl _ w).drewN n).grown hg fun k e => e
        have hA := h.dev.only ho (fun e => h.ne e rfl)
        refine ⟨hA.cell 2, hA.loose 2, ?_⟩
        have hlen : (d.s.l ++ txt s).length = d.s.l.length + s.size := by rw [List.length_append, txt_length]
        have hne : ∀ k, blk v' = some k → k ≠ d.A := fun k hk2 e => by
          obtain ⟨cs, hr⟩ := hb.u8 hk2
          exact (hA.ne_ hr (by decide)) e.symm
        refine set_in (s := { d.s with l := d.s.l ++ txt s }) (c := c') (v := v') h ((ho.imp fun k _ e => .inr e).setCell (.inl rfl) _) (hA.put 2 _) (by rw [hlen]) rfl rfl ?_ hok ?_ _
        · exact hb.only (F := (· = d.A)) ((Only.refl (· = d.A) w1).setCell rfl _) hne
        · intro k hk2
          rcases hk k hk2 with e | e
          · exact .inl (.inr e)
          · exact .inr e)
    have HB := Lib.hid (fun n => (h.drewN n).bts)
    have c2 := h.c2
    obtain ⟨P, hP⟩ : ∃ P, d.Turned w { d.s with l := d.s.l ++ txt s } (.int .i64 0) = P := ⟨_, rfl⟩
    simp only [hP] at HW ⊢
    clear hP h hf hs hap hok
    unfold TV.ptr at HN HR ⊢
    go_enter Try.func16, Try.ntmps16
    go_wp2_with fail
    refine HN.out.mono ?_
    rintro e w1 ⟨rfl, rfl⟩
    go_wp2_with fail
    refine HR.out.mono ?_
    rintro e w1 ⟨rfl, n, rfl⟩
    go_wp2_with (at_builtin; refine wpList_tape_append rfl (.tmp 18) (.tmp 19) (by rfl) (by rfl) (HB.out n) s (by rfl) HLE.out ?_)
    intro v' c' w1 hb hg hk
    obtain ⟨c2', f2', hpost⟩ := HW.out n v' c' w1 hb hg hk
    have HP := Lib.hid hpost
    clear hpost hb hg hk
    go_wp2
    exact HP.out
  · have hfi : ((d.s.room - d.s.l.length : Nat) : Int) < (s.size : Int) := by unfold ST.fits at hf; omega
    have hap : d.s.append s = d.s := if_neg hf
    rw [if_neg hf, hap]
    have HF := Lib.hid (fun n => show d.Turned w d.s (.int .i64 6) (.returned (.int .i64 6)) (w.drewN n) from ⟨d, rfl, rfl, rfl, h.drewN n, (Only.refl _ _).drewN n, fun k hk => .inl hk⟩)
    obtain ⟨P, hP⟩ : ∃ P, d.Turned w d.s (.int .i64 6) = P := ⟨_, rfl⟩
    simp only [hP] at HF ⊢
    clear hP h hf hs hap
    unfold TV.ptr at HN HR ⊢
    go_enter Try.func16, Try.ntmps16
    go_wp2_with fail
    refine HN.out.mono ?_
    rintro e w1 ⟨rfl, rfl⟩
    go_wp2_with fail
    refine HR.out.mono ?_
    rintro e w1 ⟨rfl, n, rfl⟩
    go_wp2
    exact HF.out n

theorem inOrd_four (a b c d : Nat) : inOrd [a, b, c, d] = decide (a ≤ b ∧ b ≤ c ∧ c ≤ d) := by rw [Bool.eq_iff_iff]; simp [inOrd]
theorem inOrd_three (a b c : Nat) : inOrd [a, b, c] = decide (a ≤ b ∧ b ≤ c) := by rw [Bool.eq_iff_iff]; simp [inOrd]

/-- Numbers put into a row of their own, to be asked for their order. -/
theorem order_new (l : List Nat) (n : Nat) (w : World) (hl : l.length = n) (hn : n ≤ 1000) (cs : Array Value) (hcs : cs = (nums64 l).toArray) : Calls Try.prog 39 #[.slice (some ⟨w.heap.size, 0, none⟩) n n] (w.alloc (.cells cs 48)) fun e w' => e = .returned (.bool (inOrd l)) ∧ Below w.heap.size w w' := by
  subst hcs
  refine (inOrder_any w.heap.size n n l _ (Row.new w 48 (nums64 l) (0, 0)) hl hn).mono ?_
  rintro e w1 ⟨rfl, k, rfl⟩
  have hb : Below w.heap.size w (w.alloc (.cells (nums64 l).toArray 48)) := (Below.refl _ _).alloc (Nat.le_refl _) _
  exact ⟨rfl, ⟨hb.os, hb.tape, hb.output, hb.size, hb.block⟩⟩

end Go.Proofs.Ytikcbalofbgdlaa
