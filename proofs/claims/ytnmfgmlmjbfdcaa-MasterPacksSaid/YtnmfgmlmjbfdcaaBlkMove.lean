/-
  What an act does to a device, told by what stays: its place, its numbers of blocks and sectors; and all of its bytes.
-/
import Derived.Test.YtnmfgmlmjbfdcaaBlkAct
namespace Go.Proofs.Ytnmfgmlmjbfdcaa
open Go.RowKit

/-- One call on. -/
structure Moved (W : World) (d : DV) (w : World) (d' : DV) (w' : World) : Prop where
  since : Since W d' w'
  only : Only d.mine w w'
  A : d'.A = d.A
  nb : d'.nb = d.nb
  ns : d'.ns = d.ns
  pend : d'.pend.length ≤ d.pend.length + 1
  mine : ∀ k, d'.mine k → d.mine k ∨ w.heap.size ≤ k

section
variable {W w : World} {d : DV}
theorem Moved.none {w' : World} (h : Since W d w) (hb : Below w.heap.size w w') : Moved W d w d w' := ⟨h.keeps hb, Only.below hb _, rfl, rfl, rfl, by omega, fun _ hk => .inl hk⟩
theorem Moved.from {w0 w' : World} {d' : DV} (hb : Below w0.heap.size w0 w) (h : Moved W d w d' w') : Moved W d w0 d' w' :=
  ⟨h.since, (Only.below hb _).trans h.only, h.A, h.nb, h.ns, h.pend, fun k hk => (h.mine k hk).imp id fun e => Nat.le_trans hb.size e⟩
theorem write_moved (h : Since W d w) (b : Int) (s : ByteArray) (hl : d.pend.length ≤ 1000000) :
    Calls Try.prog 28 #[d.ptr, .int .i64 b, .string s] w fun e w' => ∃ (m : Int) (d' : DV), e = .returned (.int .i64 m) ∧ Hid (Moved W d w d' w') := by
  by_cases hw : 0 ≤ b ∧ b < d.nb ∧ s.size ≤ d.sz
  · obtain ⟨k, rfl⟩ : ∃ k : Nat, b = k := ⟨b.toNat, by omega⟩
    refine (write_good d k s w h.dev (by omega) hw.2.2 hl).mono ?_
    rintro e w' ⟨p, he, h1, h2, h3⟩
    have hmine : ∀ x, (d.wrote k s p).mine x → d.mine x ∨ w.heap.size ≤ x := by
      rintro x (e | e | e | e)
      · exact .inl (.inl e)
      · exact .inl (.inr (.inl e))
      · exact .inl (.inr (.inr (.inl e)))
      · rcases h3 x e with e | e
        · exact .inl (.inr (.inr (.inr e)))
        · exact .inr e
    refine ⟨0, d.wrote k s p, he, Lib.hid ⟨⟨h1, h.then h2, fun x hx => ?_⟩, h2, rfl, rfl, rfl, ?_, hmine⟩⟩
    · rcases hmine x hx with e | e
      · exact h.new x e
      · exact Nat.le_trans h.below.size e
    · show (d.pend ++ [(k, s)]).length ≤ _
      simp
  · obtain ⟨m, _, hc⟩ := write_answer h.dev b s hw
    refine hc.mono ?_
    rintro e w' ⟨he, rfl⟩
    exact ⟨m, d, he, Lib.hid (Moved.none h (Below.refl _ _))⟩
theorem cleaned_mine {k : Nat} (hk : k = d.A ∨ k = d.V ∨ k = d.U ∨ (Value.slice none 0 0).ownBlock = some k) : d.mine k := by
  rcases hk with e | e | e | e
  · exact .inl e
  · exact .inr (.inl e)
  · exact .inr (.inr (.inl e))
  · cases e
theorem sync_moved (h : Since W d w) : Calls Try.prog 47 #[d.ptr] w fun e w' => e = .returned (.int .i64 0) ∧ Hid (Moved W d w d.synced w') := by
  refine (sync_since h).mono ?_
  rintro e w' ⟨he, h1, h2⟩
  exact ⟨he, Lib.hid ⟨h1, h2, rfl, rfl, rfl, by show 0 ≤ _; omega, fun k hk => .inl (cleaned_mine hk)⟩⟩
theorem crash_moved {A : Option Addr} {n : Nat} {keep : List Nat} (ho : Old W A n keep) (h : Since W d w) (c : Nat) : Calls Try.prog 26 #[d.ptr, .slice A n c] w fun e w' => e = .returned (.tuple #[]) ∧ Hid (Moved W d w (d.crashed keep) w') := by
  refine (ho.crash h c).mono ?_
  rintro e w' ⟨he, h1, h2⟩
  exact ⟨he, Lib.hid ⟨h1, h2, rfl, rfl, rfl, by show 0 ≤ _; omega, fun k hk => .inl (cleaned_mine hk)⟩⟩
end

set_option maxRecDepth 100000 in
theorem enters_write : Enters Try.prog 28 := enters_of Try.func28 (by kernel_rfl) rfl

def Acted (W : World) (d : DV) (w : World) (e : Ending) (w' : World) : Prop := ∃ d', e = .returned (.tuple #[]) ∧ Hid (Moved W d w d' w')

/-- All of a device's bytes. -/
def allOf (d : DV) (k : Nat) : ByteArray := (List.range k).foldl (fun s b => s ++ d.block b) ⟨#[]⟩
theorem allOf_succ (d : DV) (k : Nat) : allOf d (k + 1) = allOf d k ++ d.block k := by simp [allOf, List.range_succ]

theorem block_size {d : DV} {w : World} (h : d.In w) (k : Nat) (hk : k < d.nb) : (d.block k).size = d.sz := by
  show ((seg d.vis (k * d.sz) d.sz).toArray).size = d.sz
  rw [List.size_toArray]
  exact seg_length _ _ _ (by rw [h.lv]; exact block_in d.sz hk)
theorem allOf_size {d : DV} {w : World} (h : d.In w) : ∀ k, k ≤ d.nb → (allOf d k).size = k * d.sz
  | 0, _ => by rw [Nat.zero_mul]; rfl
  | k + 1, hk => by
    rw [allOf_succ, ByteArray.size_append, allOf_size h k (by omega), block_size h k (by omega), Nat.succ_mul]
theorem allOf_le {d : DV} {w : World} (h : d.In w) (k : Nat) (hk : k < d.nb) : (allOf d k).size ≤ 16384000 ∧ (d.block k).size ≤ 16384 := by
  rw [allOf_size h k (by omega), block_size h k hk]
  have h1 := block_in d.sz hk
  have h2 : d.nb * d.sz ≤ 16384000 := h.allLe
  have h3 := h.szLe
  omega

end Go.Proofs.Ytnmfgmlmjbfdcaa
