/-
  A device of the walk's own; the head of the statements; a text of an act.
-/
import Derived.Test.YtbinfinfoobhaaaBlkE
namespace Go.Proofs.Ytbinfinfoobhaaa
open Go.RowKit

/-- A device that has come since W; what was there is as it was. -/
structure Since (W : World) (d : DV) (w : World) : Prop where
  dev : d.In w
  below : Below W.heap.size W w
  new : ∀ k, d.mine k → W.heap.size ≤ k

section
variable {W w w' : World} {d : DV}
theorem DV.In.notMine {g : Nat} {t : TypeId} {cs : List Value} {m : Nat × Nat} (h : d.In w) (hr : Row w g t cs m) (h1 : 61 ≠ t) (h2 : 5 ≠ t) (h3 : t ≠ 72) : ¬ d.mine g := by
  rintro (e | e | e | e)
  · exact h.dev.ne_ hr h1 e.symm
  · exact h.vis.ne_ hr h2 e.symm
  · exact h.dur.ne_ hr h2 e.symm
  · exact h.toTop.pNe hr h3 e
theorem Since.keeps (h : Since W d w) (hb : Below w.heap.size w w') : Since W d w' := ⟨h.dev.keeps hb, h.below.trans (hb.mono h.below.size), h.new⟩
theorem Since.drewN (h : Since W d w) (n : Nat) : Since W d (w.drewN n) := h.keeps ⟨rfl, rfl, rfl, Nat.le_refl _, fun _ _ => rfl⟩
theorem Since.drew (h : Since W d w) : Since W d w.drew := h.keeps ⟨rfl, rfl, rfl, Nat.le_refl _, fun _ _ => rfl⟩
theorem Since.alloc (h : Since W d w) (o : Obj) : Since W d (w.alloc o) := h.keeps ((Below.refl _ _).alloc (Nat.le_refl _) o)
theorem Only.upTo {F : Nat → Prop} {B : Nat} (ho : Only F w w') (hB : B ≤ w.heap.size) (hF : ∀ k, k < B → ¬ F k) : Below B w w' :=
  ⟨ho.os, ho.tape, ho.output, ho.size, fun k hk => ho.block k (Nat.lt_of_lt_of_le hk hB) (hF k hk)⟩
theorem Since.then (h : Since W d w) (ho : Only d.mine w w') : Below W.heap.size W w' :=
  h.below.trans (ho.upTo h.below.size fun k hk hm => by have := h.new k hm; omega)

theorem since_new {nb ns : Nat} {e : Ending} (h : NewDev nb ns W e w) : ∃ d : DV, e = .returned (.tuple #[d.ptr, .int .i64 0]) ∧ Since W d w ∧ d.nb = nb ∧ d.ns = ns ∧ d.vis = List.replicate (nb * (ns * 64)) 0 ∧ d.dur = List.replicate (nb * (ns * 64)) 0 ∧ d.pend = [] := by
  obtain ⟨d, he, h1, h2, h3, h4⟩ := h
  exact ⟨d, he, ⟨h1, h2, h3⟩, h4⟩
theorem write_since (h : Since W d w) (b : Nat) (s : ByteArray) (hb : b < d.nb) (hs : s.size ≤ d.sz) (hl : d.pend.length ≤ 1000000) :
    Calls Try.prog 17 #[d.ptr, .int .i64 (b : Int), .string s] w fun e w' => ∃ p, e = .returned (.int .i64 0) ∧ Since W (d.wrote b s p) w' ∧ Only d.mine w w' := by
  refine (write_good d b s w h.dev hb hs hl).mono ?_
  rintro e w' ⟨p, he, h1, h2, h3⟩
  refine ⟨p, he, ⟨h1, h.then h2, ?_⟩, h2⟩
  rintro k (e | e | e | e)
  · exact h.new k (.inl e)
  · exact h.new k (.inr (.inl e))
  · exact h.new k (.inr (.inr (.inl e)))
  · rcases h3 k e with e | e
    · exact h.new k (.inr (.inr (.inr e)))
    · exact Nat.le_trans h.below.size e
theorem cleaned_new (h : Since W d w) {k : Nat} (hk : k = d.A ∨ k = d.V ∨ k = d.U ∨ (Value.slice none 0 0).ownBlock = some k) : W.heap.size ≤ k := by
  rcases hk with e | e | e | e
  · exact h.new k (.inl e)
  · exact h.new k (.inr (.inl e))
  · exact h.new k (.inr (.inr (.inl e)))
  · cases e
theorem sync_since (h : Since W d w) : Calls Try.prog 13 #[d.ptr] w fun e w' => e = .returned (.int .i64 0) ∧ Since W d.synced w' ∧ Only d.mine w w' := by
  refine (sync_any d w h.dev).mono ?_
  rintro e w' ⟨he, h1, h2⟩
  exact ⟨he, ⟨h1, h.then h2, fun k hk => cleaned_new h hk⟩, h2⟩
theorem crash_since (h : Since W d w) (A : Option Addr) (n c : Nat) (keep : List Nat) (hn : keep.length = n) (hN : Nums w A keep) (hA : 0 < n → ∀ g off, A = some ⟨g, off, none⟩ → ¬ d.mine g) (hnm : n ≤ 9223372036854775807) :
    Calls Try.prog 15 #[d.ptr, .slice A n c] w fun e w' => e = .returned (.tuple #[]) ∧ Since W (d.crashed keep) w' ∧ Only d.mine w w' := by
  refine (crash_any d w h.dev A n c keep hn hN hA hnm).mono ?_
  rintro e w' ⟨he, h1, h2⟩
  exact ⟨he, ⟨h1, h.then h2, fun k hk => cleaned_new h hk⟩, h2⟩
theorem read_since (h : Since W d w) (b : Int) : Calls Try.prog 23 #[d.ptr, .int .i64 b] w fun e w' => e = .returned (.tuple #[.string (d.read b), .int .i64 (chk d b)]) ∧ ∃ n, w' = w.drewN n := read_any d w h.dev b
end

/-- So many bytes. -/
def rep (c : UInt8) (n : Nat) : ByteArray := ⟨(List.replicate n c).toArray⟩
theorem rep_size (c : UInt8) (n : Nat) : (rep c n).size = n := by
  show (List.replicate n c).toArray.size = n
  simp
theorem rep_push (c : UInt8) (n : Nat) : rep c n ++ ⟨#[c]⟩ = rep c (n + 1) := by
  apply ByteArray.ext
  rw [ByteArray.data_append]
  apply Array.ext'
  simp [rep, List.replicate_succ']

theorem head_one (A V U cv cu : Nat) (p p1 : Value) (X Y : List Value) : (DV.wrote ⟨A, V, U, cv, cu, p, X, Y, 2, 2, List.replicate (2 * (2 * 64)) 0, List.replicate (2 * (2 * 64)) 0, []⟩ 0 ⟨#[97]⟩ p1).read 0 = ⟨#[97]⟩ ++ (rep 0 129).extract 0 127 := by
  show (⟨(seg (splice (List.replicate (2 * (2 * 64)) 0) 0 (pad 128 [97])) 0 128).toArray⟩ : ByteArray) = _
  decide +kernel
theorem head_two (A V U cv cu : Nat) (p p1 : Value) (X Y : List Value) : (DV.crashed (DV.wrote ⟨A, V, U, cv, cu, p, X, Y, 2, 2, List.replicate (2 * (2 * 64)) 0, List.replicate (2 * (2 * 64)) 0, []⟩ 0 ⟨#[97]⟩ p1) []).read 0 = (rep 0 129).extract 0 128 := by
  show (⟨(seg (List.replicate (2 * (2 * 64)) 0) 0 128).toArray⟩ : ByteArray) = _
  decide +kernel
theorem head_three (A V U cv cu : Nat) (p p1 p2 : Value) (X Y : List Value) : (DV.crashed (DV.wrote (DV.crashed (DV.wrote ⟨A, V, U, cv, cu, p, X, Y, 2, 2, List.replicate (2 * (2 * 64)) 0, List.replicate (2 * (2 * 64)) 0, []⟩ 0 ⟨#[97]⟩ p1) []) 1 (rep 120 128) p2) [2]).read 1 = (rep 0 129).extract 0 64 ++ (rep 120 128).extract 0 64 := by
  show (⟨(seg (keepAll 2 (List.replicate (2 * (2 * 64)) 0) [(1, rep 120 128)] [2]) 128 128).toArray⟩ : ByteArray) = _
  decide +kernel

theorem zeros_text (n : Nat) (w : World) : (convert 52 9 (.slice (some ⟨w.heap.size, 0, none⟩) n n)).run Try.prog (w.alloc (.cells (byt (List.replicate n 0)).toArray 5)) = .ok (.string (rep 0 n)) (w.alloc (.cells (byt (List.replicate n 0)).toArray 5)) :=
  text_bytes (T := 5) _ (List.replicate n 0) n n _ (by simp) fun _ => ⟨w.heap.size, 0, _, _, rfl, Row.new w 5 (byt (List.replicate n 0)) (0, 0), fun j _ => by rw [Nat.zero_add]⟩

/-- string(make([]byte, n)): n a number written out. -/
theorem zeros_made (n : Nat) (hn : n ≤ 100000) (i : Int) (hi : i = (n : Int)) : ∃ o : Obj, (∀ w : World, (Instr.makeSlice 52 (.int .i64 i) (.int .i64 i)).run Try.prog w = .ok (.slice (some ⟨w.heap.size, 0, none⟩) n n) (w.alloc o)) ∧
    (∀ w : World, (convert 52 9 (.slice (some ⟨w.heap.size, 0, none⟩) n n)).run Try.prog (w.alloc o) = .ok (.string (rep 0 n)) (w.alloc o)) :=
  ⟨_, fun w => makeZeros n (by omega) i hi w, fun w => zeros_text n w⟩

set_option maxRecDepth 100000 in
set_option maxHeartbeats 4000000 in
theorem head_any (w : World) : Calls Try.prog 9 #[] w fun e w' => e = .returned (.bool true) ∧ Below w.heap.size w w' := by
  go_enter Try.func9, Try.ntmps9
  go_wp2_with fail
  refine (new_good 2 2 w (by omega) (by omega)).mono ?_
  intro e w1 hnew
  obtain ⟨⟨A, V, U, cv, cu, p, X, Y, nb, ns, vis, dur, pend⟩, rfl, hs, e1, e2, e3, e4, e5⟩ := since_new hnew
  simp only at e1 e2 e3 e4 e5
  subst e1 e2 e3 e4 e5
  have HS1 := Lib.hid hs
  clear hnew hs
  obtain ⟨d1, hd1⟩ : ∃ d1 : DV, d1 = ⟨A, V, U, cv, cu, p, X, Y, 2, 2, List.replicate (2 * (2 * 64)) 0, List.replicate (2 * (2 * 64)) 0, []⟩ := ⟨_, rfl⟩
  rw [← hd1] at HS1
  have hptr : (DV.mk A V U cv cu p X Y 2 2 (List.replicate (2 * (2 * 64)) 0) (List.replicate (2 * (2 * 64)) 0) []).ptr = .pointer (some ⟨A, 0, none⟩) := rfl
  have HD1 := Lib.hid hd1
  rw [hptr]
  clear hptr hd1
  obtain ⟨o9, hmk, hcv⟩ := zeros_made 129 (by omega) 129 rfl
  have hz := rep_size 0 129
  have hx0 : rep 120 0 = ⟨#[]⟩ := rfl
  go_wp2_with fail
  clear hmk hcv
  go_loop [4, 5] (fun x i => ∃ k : Nat, k ≤ 128 ∧ i = .int .i64 k ∧ x = .string (rep 120 k)) (fun _ i => 128 - (intOf i).toNat)
  case atStart => exact ⟨0, by omega, rfl, by rw [hx0]⟩
  case round =>
    obtain ⟨k, hk, rfl, rfl⟩ := hrel
    have hsk := rep_size 120 k
    by_cases hlt : k < 128
    · have HP := Lib.hid (rep_push 120 k)
      go_wp2
      go_round
      case rel => exact ⟨k + 1, by omega, by go_num, by rw [← HP.out]⟩
      case measure => simp [intOf]; omega
    · obtain rfl : k = 128 := by omega
      clear hlt
      have HS2 := Lib.hid (HS1.out.alloc o9)
      have hnb : d1.nb = 2 := by rw [HD1.out]
      have hns : d1.ns = 2 := by rw [HD1.out]
      have hpd : d1.pend = [] := by rw [HD1.out]
      have hpt : d1.ptr = .pointer (some ⟨A, 0, none⟩) := by rw [HD1.out]; rfl
      have HK1 := Lib.hid (write_bad d1 2 ⟨#[97]⟩ _ HS2.out.dev (by rw [hnb]; omega))
      have HK2 := Lib.hid (write_long d1 0 (rep 0 129) _ HS2.out.dev (by rw [hnb]; omega) (by show d1.ns * 64 < _; rw [hns, hz]; omega))
      have HK3 := Lib.hid (write_since HS2.out 0 ⟨#[97]⟩ (by rw [hnb]; omega) (by show 1 ≤ d1.ns * 64; rw [hns]; omega) (by rw [hpd]; simp))
      rw [hpt] at HK1 HK2 HK3
      have HPT := Lib.hid hpt
      have HNB := Lib.hid hnb
      have HNS := Lib.hid hns
      have HSK := Lib.hid hsk
      clear hpt hnb hns hpd hsk hx0
      generalize w1.alloc o9 = w2 at *
      go_wp2_with fail
      refine HK1.out.mono ?_
      rintro e w3 ⟨rfl, rfl⟩
      clear HK1
      go_wp2_with fail
      refine HK2.out.mono ?_
      rintro e w3 ⟨rfl, rfl⟩
      clear HK2
      go_wp2_with fail
      refine HK3.out.mono ?_
      rintro e w3 ⟨p1, rfl, hs3, -⟩
      have HS3 := Lib.hid hs3
      clear hs3 HK3 HS2
      have HK4 := Lib.hid (read_since HS3.out 0)
      rw [show (d1.wrote 0 ⟨#[97]⟩ p1).ptr = .pointer (some ⟨A, 0, none⟩) from HPT.out] at HK4
      rw [show chk (d1.wrote 0 ⟨#[97]⟩ p1) 0 = 0 from if_pos (by rw [show (d1.wrote 0 ⟨#[97]⟩ p1).nb = 2 from HNB.out]; omega), show (d1.wrote 0 ⟨#[97]⟩ p1).read 0 = ⟨#[97]⟩ ++ (rep 0 129).extract 0 127 from by rw [HD1.out]; exact head_one A V U cv cu p p1 X Y] at HK4
      go_wp2_with fail
      refine HK4.out.mono ?_
      rintro e w4 ⟨rfl, n4, rfl⟩
      clear HK4
      have HK5 := Lib.hid (crash_since (HS3.out.drewN n4) none 0 0 [] rfl ⟨fun i hi => by simp at hi, fun m hm => by simp at hm⟩ (fun _ _ _ e => by cases e) (by omega))
      rw [show (d1.wrote 0 ⟨#[97]⟩ p1).ptr = .pointer (some ⟨A, 0, none⟩) from HPT.out] at HK5
      obtain ⟨d2, hd2⟩ : ∃ d2, (d1.wrote 0 ⟨#[97]⟩ p1).crashed [] = d2 := ⟨_, rfl⟩
      rw [hd2] at HK5
      have HN2 := Lib.hid (show d2.nb = 2 by rw [← hd2]; exact HNB.out)
      have HM2 := Lib.hid (show d2.ns = 2 by rw [← hd2]; exact HNS.out)
      have HL2 := Lib.hid (show d2.pend = [] by rw [← hd2]; rfl)
      have HP2 := Lib.hid (show d2.ptr = .pointer (some ⟨A, 0, none⟩) by rw [← hd2]; exact HPT.out)
      have HR2 := Lib.hid (show d2.read 0 = (rep 0 129).extract 0 128 by rw [← hd2, HD1.out]; exact head_two A V U cv cu p p1 X Y)
      have HD2 := Lib.hid hd2
      clear hd2
      go_wp2_with fail
      refine HK5.out.mono ?_
      rintro e w5 ⟨rfl, hs5, -⟩
      have HS5 := Lib.hid hs5
      clear hs5 HK5
      have HK6 := Lib.hid (read_since HS5.out 0)
      rw [HP2.out, show chk d2 0 = 0 from if_pos (by rw [HN2.out]; omega), HR2.out] at HK6
      go_wp2_with fail
      refine HK6.out.mono ?_
      rintro e w6 ⟨rfl, n6, rfl⟩
      clear HK6
      have HK7 := Lib.hid (write_since (HS5.out.drewN n6) 1 (rep 120 128) (by rw [HN2.out]; omega) (by show _ ≤ d2.ns * 64; rw [HM2.out, HSK.out]; omega) (by rw [HL2.out]; simp))
      rw [HP2.out] at HK7
      go_wp2_with fail
      refine HK7.out.mono ?_
      rintro e w7 ⟨p2, rfl, hs7, -⟩
      have HS7 := Lib.hid (hs7.alloc (.cells #[.int .u64 2] 65))
      have HRW := Lib.hid (show Row (w7.alloc (.cells #[.int .u64 2] 65)) w7.heap.size 65 [.int .u64 2] (0, 0) from Row.new w7 65 [.int .u64 2] (0, 0))
      clear hs7 HK7
      have HK8 := Lib.hid (crash_since HS7.out (some ⟨w7.heap.size, 0, none⟩) 1 1 [2] rfl ⟨fun i hi => ⟨_, _, rfl, by
          obtain rfl : i = 0 := by simpa using hi
          exact HRW.out.cell 0⟩, fun m hm => by simp at hm; omega⟩ (fun _ g off e => by
          simp only [Option.some.injEq, Addr.mk.injEq] at e
          obtain ⟨rfl, _⟩ := e
          exact HS7.out.dev.notMine HRW.out (by decide) (by decide) (by decide)) (by omega))
      rw [show (d2.wrote 1 (rep 120 128) p2).ptr = .pointer (some ⟨A, 0, none⟩) from HP2.out] at HK8
      go_wp2_with fail
      refine HK8.out.mono ?_
      rintro e w8 ⟨rfl, hs8, -⟩
      have HS8 := Lib.hid hs8
      clear hs8 HK8
      have HK9 := Lib.hid (read_since HS8.out 1)
      rw [show ((d2.wrote 1 (rep 120 128) p2).crashed [2]).ptr = .pointer (some ⟨A, 0, none⟩) from HP2.out, show chk ((d2.wrote 1 (rep 120 128) p2).crashed [2]) 1 = 0 from if_pos (by rw [show ((d2.wrote 1 (rep 120 128) p2).crashed [2]).nb = 2 from HN2.out]; omega),
        show ((d2.wrote 1 (rep 120 128) p2).crashed [2]).read 1 = (rep 0 129).extract 0 64 ++ (rep 120 128).extract 0 64 from by rw [← HD2.out, HD1.out]; exact head_three A V U cv cu p p1 p2 X Y] at HK9
      go_wp2_with fail
      refine HK9.out.mono ?_
      rintro e w9 ⟨rfl, n9, rfl⟩
      have HS9 := Lib.hid (HS8.out.drewN n9)
      clear HK9
      have hz2 := HSK.out
      go_wp2_with fail
      go_quiet (fail)
      go_wp2_with fail
      go_ret
      exact ⟨rfl, (HS9.out.drewN _).below⟩

end Go.Proofs.Ytbinfinfoobhaaa
