/-
  What an act does to a device, told by what stays: its place, its numbers of blocks and sectors; and all of its bytes.
-/
import Derived.Test.YtbinfinfoobhaaaBlkAct
namespace Go.Proofs.Ytbinfinfoobhaaa
open Go.RowKit

/-- One call on. -/
structure Moved (W : World) (d : DV) (w : World) (d' : DV) (w' : World) : Prop where
  since : Since W d' w'
  only : Only d.mine w w'
  A : d'.A = d.A
  nb : d'.nb = d.nb
  ns : d'.ns = d.ns
  pend : d'.pend.length ≤ d.pend.length + 1
  mine : ∀ k, d'.mine k → d.mine k ∨ w.heap.size ≤ k

section
variable {W w : World} {d : DV}
theorem Moved.none {w' : World} (h : Since W d w) (hb : Below w.heap.size w w') : Moved W d w d w' := ⟨h.keeps hb, Only.below hb _, rfl, rfl, rfl, by omega, fun _ hk => .inl hk⟩
theorem Moved.from {w0 w' : World} {d' : DV} (hb : Below w0.heap.size w0 w) (h : Moved W d w d' w') : Moved W d w0 d' w' :=
  ⟨h.since, (Only.below hb _).trans h.only, h.A, h.nb, h.ns, h.pend, fun k hk => (h.mine k hk).imp id fun e => Nat.le_trans hb.size e⟩
theorem write_moved (h : Since W d w) (b : Int) (s : ByteArray) (hl : d.pend.length ≤ 1000000) :
    Calls Try.prog 17 #[d.ptr, .int .i64 b, .string s] w fun e w' => ∃ (m : Int) (d' : DV), e = .returned (.int .i64 m) ∧ Hid (Moved W d w d' w') := by
  by_cases hw : 0 ≤ b ∧ b < d.nb ∧ s.size ≤ d.sz
  · obtain ⟨k, rfl⟩ : ∃ k : Nat, b = k := ⟨b.toNat, by omega⟩
    refine (write_good d k s w h.dev (by omega) hw.2.2 hl).mono ?_
    rintro e w' ⟨p, he, h1, h2, h3⟩
    have hmine : ∀ x, (d.wrote k s p).mine x → d.mine x ∨ w.heap.size ≤ x := by
      rintro x (e | e | e | e)
      · exact .inl (.inl e)
      · exact .inl (.inr (.inl e))
      · exact .inl (.inr (.inr (.inl e)))
      · rcases h3 x e with e | e
        · exact .inl (.inr (.inr (.inr e)))
        · exact .inr e
    refine ⟨0, d.wrote k s p, he, Lib.hid ⟨⟨h1, h.then h2, fun x hx => ?_⟩, h2, rfl, rfl, rfl, ?_, hmine⟩⟩
    · rcases hmine x hx with e | e
      · exact h.new x e
      · exact Nat.le_trans h.below.size e
    · show (d.pend ++ [(k, s)]).length ≤ _
      simp
  · obtain ⟨m, _, hc⟩ := write_answer h.dev b s hw
    refine hc.mono ?_
    rintro e w' ⟨he, rfl⟩
    exact ⟨m, d, he, Lib.hid (Moved.none h (Below.refl _ _))⟩
theorem cleaned_mine {k : Nat} (hk : k = d.A ∨ k = d.V ∨ k = d.U ∨ (Value.slice none 0 0).ownBlock = some k) : d.mine k := by
  rcases hk with e | e | e | e
  · exact .inl e
  · exact .inr (.inl e)
  · exact .inr (.inr (.inl e))
  · cases e
theorem sync_moved (h : Since W d w) : Calls Try.prog 13 #[d.ptr] w fun e w' => e = .returned (.int .i64 0) ∧ Hid (Moved W d w d.synced w') := by
  refine (sync_since h).mono ?_
  rintro e w' ⟨he, h1, h2⟩
  exact ⟨he, Lib.hid ⟨h1, h2, rfl, rfl, rfl, by show 0 ≤ _; omega, fun k hk => .inl (cleaned_mine hk)⟩⟩
theorem crash_moved {A : Option Addr} {n : Nat} {keep : List Nat} (ho : Old W A n keep) (h : Since W d w) (c : Nat) : Calls Try.prog 15 #[d.ptr, .slice A n c] w fun e w' => e = .returned (.tuple #[]) ∧ Hid (Moved W d w (d.crashed keep) w') := by
  refine (ho.crash h c).mono ?_
  rintro e w' ⟨he, h1, h2⟩
  exact ⟨he, Lib.hid ⟨h1, h2, rfl, rfl, rfl, by show 0 ≤ _; omega, fun k hk => .inl (cleaned_mine hk)⟩⟩
end

theorem enters_text : Enters Try.prog 18 := enters_of Try.func18 (by kernel_rfl) rfl
theorem enters_write : Enters Try.prog 17 := enters_of Try.func17 (by kernel_rfl) rfl

set_option maxRecDepth 100000 in
theorem great_any (what : Nat) (B N : Int) (c : Nat) (A : Option Addr) (n cap : Nat) (w : World) :
    Calls Try.prog 12 #[.agg (actCells what B N c A n cap).toArray] w fun e w' => e = .returned (.bool (decide (60 < n))) ∧ Below w.heap.size w w' := by
  show Calls Try.prog _ #[.agg #[.int .u8 (what : Int), .int .i64 B, .int .i64 N, .int .u8 (c : Int), .slice A n cap]] w _
  have HD := Lib.hid (show decide ((60 : Int) < (n : Int)) = decide (60 < n) by rw [Bool.eq_iff_iff]; simp; omega)
  go_enter Try.func12, Try.ntmps12
  go_wp2
  go_ret
  refine ⟨?_, (Below.refl _ _).alloc (Nat.le_refl _) _⟩
  rw [← HD.out]; rfl

def Acted (W : World) (d : DV) (w : World) (e : Ending) (w' : World) : Prop := ∃ d', e = .returned (.tuple #[]) ∧ Hid (Moved W d w d' w')

set_option maxRecDepth 100000 in
set_option maxHeartbeats 4000000 in
theorem act_any (W : World) (d : DV) (x : ActV) (w : World) (h : Since W d w) (hx : x.Ok W) (hl : d.pend.length ≤ 1000) :
    Calls Try.prog 26 #[d.ptr, .agg x.cells.toArray] w (Acted W d w) := by
  obtain ⟨what, B, N, c, A, n, cap, keep⟩ := x
  have hb0 : Below w.heap.size w (w.alloc (.cells #[.int .u8 (what : Int), .int .i64 B, .int .i64 N, .int .u8 (c : Int), .slice A n cap] 34)) := (Below.refl _ _).alloc (Nat.le_refl _) _
  have hr0 : Row (w.alloc (.cells #[.int .u8 (what : Int), .int .i64 B, .int .i64 N, .int .u8 (c : Int), .slice A n cap] 34)) w.heap.size 34 [.int .u8 (what : Int), .int .i64 B, .int .i64 N, .int .u8 (c : Int), .slice A n cap] (0, 0) :=
    Row.new w 34 [.int .u8 (what : Int), .int .i64 B, .int .i64 N, .int .u8 (c : Int), .slice A n cap] (0, 0)
  have h0 := h.alloc (.cells #[.int .u8 (what : Int), .int .i64 B, .int .i64 N, .int .u8 (c : Int), .slice A n cap] 34)
  show Calls Try.prog _ #[.pointer (some ⟨d.A, 0, none⟩), .agg #[.int .u8 (what : Int), .int .i64 B, .int .i64 N, .int .u8 (c : Int), .slice A n cap]] w _
  obtain ⟨w0, hw0⟩ : ∃ w0, w.alloc (.cells #[.int .u8 (what : Int), .int .i64 B, .int .i64 N, .int .u8 (c : Int), .slice A n cap] 34) = w0 := ⟨_, rfl⟩
  rw [hw0] at hb0 hr0 h0
  have HC := Lib.hid (show ∀ wx, Below w0.heap.size w0 wx → wx.cell? ⟨w.heap.size, 0, none⟩ = some (.int .u8 (what : Int)) ∧ wx.cell? ⟨w.heap.size, 1, none⟩ = some (.int .i64 B) ∧ wx.cell? ⟨w.heap.size, 2, none⟩ = some (.int .i64 N) ∧ wx.cell? ⟨w.heap.size, 3, none⟩ = some (.int .u8 (c : Int)) ∧ wx.cell? ⟨w.heap.size, 4, none⟩ = some (.slice A n cap) from
    fun wx hb => ⟨(hr0.below hb hr0.lt).cell 0, (hr0.below hb hr0.lt).cell 1, (hr0.below hb hr0.lt).cell 2, (hr0.below hb hr0.lt).cell 3, (hr0.below hb hr0.lt).cell 4⟩)
  have HSY := Lib.hid (sync_moved h0)
  have HCR := Lib.hid (crash_moved hx.keep h0 cap)
  have HTX := Lib.hid (show ∀ wx, Below w0.heap.size w0 wx → Calls Try.prog 18 #[.agg #[.int .u8 (what : Int), .int .i64 B, .int .i64 N, .int .u8 (c : Int), .slice A n cap]] wx fun e w' => e = .returned (.string (textOf N c)) ∧ Below w0.heap.size w0 w' from
    fun wx hb => (text_any what B N c A n cap wx).mono fun e w' hh => ⟨hh.1, hb.trans (hh.2.mono hb.size)⟩)
  have HWR := Lib.hid (show ∀ wx, Below w0.heap.size w0 wx → Calls Try.prog 17 #[.pointer (some ⟨d.A, 0, none⟩), .int .i64 B, .string (textOf N c)] wx fun e w' => ∃ (m : Int) (d' : DV), e = .returned (.int .i64 m) ∧ Hid (Moved W d w d' w') from
    fun wx hb => (write_moved (h0.keeps hb) B (textOf N c) (by omega)).mono fun e w' ⟨m, d', he, hm⟩ => ⟨m, d', he, Lib.hid (Moved.from (hb0.trans (hb.mono hb0.size)) hm.out)⟩)
  have HB0 := Lib.hid hb0
  have HH := Lib.hid h
  unfold DV.ptr at HSY HCR
  obtain ⟨c0, c1, c2, c3, c4⟩ := HC.out w0 (Below.refl _ _)
  generalize textOf N c = s at *
  clear hb0 hr0 h0 h hx
  rcases (show what % 6 = 3 ∨ what % 6 = 4 ∨ what % 6 = 5 ∨ (what % 6 ≠ 3 ∧ what % 6 ≠ 4 ∧ what % 6 ≠ 5) by omega) with h6 | h6 | h6 | h6
  · have q3 : ((what : Int) % 6 == 3) = true := by simp; omega
    clear h6
    go_enter Try.func26, Try.ntmps26
    go_wp2_with fail
    refine HSY.out.mono ?_
    rintro e w1 ⟨rfl, hm⟩
    go_wp2
    go_end0
    exact ⟨_, rfl, Lib.hid (Moved.from HB0.out hm.out)⟩
  · have q3 : ((what : Int) % 6 == 3) = false := by simp; omega
    have q4 : ((what : Int) % 6 == 4) = true := by simp; omega
    clear h6
    go_enter Try.func26, Try.ntmps26
    go_wp2_with fail
    refine HCR.out.mono ?_
    rintro e w1 ⟨rfl, hm⟩
    go_wp2
    go_end0
    exact ⟨_, rfl, Lib.hid (Moved.from HB0.out hm.out)⟩
  · have q3 : ((what : Int) % 6 == 3) = false := by simp; omega
    have q4 : ((what : Int) % 6 == 4) = false := by simp; omega
    have q5 : ((what : Int) % 6 == 5) = true := by simp; omega
    clear h6
    go_enter Try.func26, Try.ntmps26
    go_wp2
    go_end0
    exact ⟨d, rfl, Lib.hid (Moved.none HH.out HB0.out)⟩
  · have q3 : ((what : Int) % 6 == 3) = false := by simp; omega
    have q4 : ((what : Int) % 6 == 4) = false := by simp; omega
    have q5 : ((what : Int) % 6 == 5) = false := by simp; omega
    clear h6
    go_enter Try.func26, Try.ntmps26
    go_wp2_with fail
    have hk0 : Below w0.heap.size w0 w0.drew := (Below.refl _ w0).drew
    obtain ⟨y0, y1, y2, y3, y4⟩ := HC.out _ hk0
    clear hw0
    go_region_law (first
      | (refine step_calls rfl 18 #[.tmp 10] _ (by rfl) #[.agg #[.int .u8 (what : Int), .int .i64 B, .int .i64 N, .int .u8 (c : Int), .slice A n cap]] (by simp [Act.eval]) enters_text (HTX.out _ (by assumption)) ?_; rintro e wa ⟨rfl, hka⟩; obtain ⟨z0, z1, z2, z3, z4⟩ := HC.out wa hka; refine ⟨_, rfl, ?_⟩)
      | (refine step_calls rfl 17 #[.tmp 7, .tmp 9, .tmp 11] _ (by rfl) #[.pointer (some ⟨d.A, 0, none⟩), .int .i64 B, .string s] (by simp [Act.eval]) enters_write (HWR.out _ hka) ?_; rintro e wb ⟨m, d', rfl, hm⟩; refine ⟨_, rfl, ?_⟩))
    all_goals
      go_wp2
      go_end0
      exact ⟨d', rfl, hm⟩

/-- All of a device's bytes. -/
def allOf (d : DV) (k : Nat) : ByteArray := (List.range k).foldl (fun s b => s ++ d.block b) ⟨#[]⟩
theorem allOf_succ (d : DV) (k : Nat) : allOf d (k + 1) = allOf d k ++ d.block k := by simp [allOf, List.range_succ]

theorem block_size {d : DV} {w : World} (h : d.In w) (k : Nat) (hk : k < d.nb) : (d.block k).size = d.sz := by
  show ((seg d.vis (k * d.sz) d.sz).toArray).size = d.sz
  rw [List.size_toArray]
  exact seg_length _ _ _ (by rw [h.lv]; exact block_in d.sz hk)
theorem allOf_size {d : DV} {w : World} (h : d.In w) : ∀ k, k ≤ d.nb → (allOf d k).size = k * d.sz
  | 0, _ => by rw [Nat.zero_mul]; rfl
  | k + 1, hk => by
    rw [allOf_succ, ByteArray.size_append, allOf_size h k (by omega), block_size h k (by omega), Nat.succ_mul]
theorem allOf_le {d : DV} {w : World} (h : d.In w) (k : Nat) (hk : k < d.nb) : (allOf d k).size ≤ 16384000 ∧ (d.block k).size ≤ 16384 := by
  rw [allOf_size h k (by omega), block_size h k hk]
  have h1 := block_in d.sz hk
  have h2 : d.nb * d.sz ≤ 16384000 := h.allLe
  have h3 := h.szLe
  omega

set_option maxRecDepth 100000 in
set_option maxHeartbeats 1000000 in
theorem all_any (d : DV) (w : World) (h : d.In w) : Calls Try.prog 27 #[d.ptr] w fun e w' => e = .returned (.string (allOf d d.nb)) ∧ ∃ n, w' = w.drewN n := by
  have HB := Lib.hid (fun n => blocks_any d (w.drewN n) (h.drewN n).toTop)
  have HR := Lib.hid (fun n (b : Nat) (hb : b < d.nb) => show Calls Try.prog 23 #[d.ptr, .int .i64 (b : Int)] (w.drewN n) fun e w' => e = .returned (.tuple #[.string (d.block b), .int .i64 0]) ∧ ∃ m, w' = (w.drewN n).drewN m from by
    have := read_any d (w.drewN n) (h.drewN n) (b : Int)
    rwa [chk_in d b hb, read_block d b hb] at this)
  have hnb := h.nb2
  have hz : allOf d 0 = ⟨#[]⟩ := rfl
  have HZ := Lib.hid (fun k hk => allOf_le h k hk)
  clear h
  unfold DV.ptr at HB HR ⊢
  go_enter Try.func27, Try.ntmps27
  go_wp2_with fail
  go_loopw [3, 4, 5, 6] (fun s i _ _ wr => ∃ k n : Nat, k ≤ d.nb ∧ i = .int .i64 k ∧ s = .string (allOf d k) ∧ Hid (wr = w.drewN n)) (fun _ i _ _ _ => d.nb - (intOf i).toNat)
  case atStart => exact ⟨0, 0, by omega, rfl, by rw [hz], Lib.hid rfl⟩
  case round =>
    obtain ⟨k, n, hk, rfl, rfl, HW⟩ := hrel
    obtain rfl := HW.out
    clear hz
    by_cases hlt : k < d.nb
    · have HS := Lib.hid (allOf_succ d k)
      obtain ⟨hs1, hs2⟩ := HZ.out k hlt
      go_wp2_with fail
      refine (HB.out n).mono ?_
      rintro e w1 ⟨rfl, rfl⟩
      go_wp2_with fail
      refine (HR.out n k hlt).mono ?_
      rintro e w1 ⟨rfl, m, rfl⟩
      go_wp2
      go_roundw
      case rel => exact ⟨k + 1, n + m, by omega, by go_num, by rw [HS.out], Lib.hid rfl⟩
      case measure => simp [intOf]; omega
    · obtain rfl : k = d.nb := by omega
      go_wp2_with fail
      refine (HB.out n).mono ?_
      rintro e w1 ⟨rfl, rfl⟩
      go_wp2
      go_ret
      exact ⟨rfl, n, rfl⟩

end Go.Proofs.Ytbinfinfoobhaaa
