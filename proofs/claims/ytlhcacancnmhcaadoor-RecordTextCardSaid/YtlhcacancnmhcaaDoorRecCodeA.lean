/-
  The walks over package record, part A: is a record's data too long; the search for one that is.
-/
import Derived.Test.YtlhcacancnmhcaaDoorRecSame
import Derived.Test.YtlhcacancnmhcaaDoorRecOctA
import Derived.Test.YtlhcacancnmhcaaDoorCrcF
namespace Go.Proofs.YtlhcacancnmhcaaDoor
open Go.RowKit

set_option maxRecDepth 100000 in
theorem long_any (r : Rec) (w : World) (hr : r.d.length ≤ 1000000) :
    Calls Tryd.prog 16 #[recV r] w fun e w' => e = .returned (.bool (decide (262144 < r.d.length))) ∧ Below w.heap.size w w' := by
  unfold recV
  have hs : (tb r.d).size = r.d.length := tb_size _
  obtain ⟨n, hn⟩ : ∃ n, r.d.length = n := ⟨_, rfl⟩
  rw [hn] at hs hr ⊢
  generalize tb r.d = s at *
  subst hs
  clear hn
  by_cases h : 262144 < s.size
  · have h1 : (262144 : Int) < (s.size : Int) := by omega
    rw [decide_eq_true h]
    clear h
    go_enter Tryd.func16, Tryd.ntmps16
    go_wp2
    go_ret
    exact ⟨rfl, (Below.refl _ _).alloc (Nat.le_refl _) _⟩
  · have h1 : ¬ (262144 : Int) < (s.size : Int) := by omega
    rw [decide_eq_false h]
    clear h
    go_enter Tryd.func16, Tryd.ntmps16
    go_wp2
    go_ret
    exact ⟨rfl, (Below.refl _ _).alloc (Nat.le_refl _) _⟩

/-- All data short enough to be told as a number. -/
def Sane (l : List Rec) : Prop := ∀ r ∈ l, r.d.length ≤ 1000000
theorem Sane.at_ {l : List Rec} (h : Sane l) (i : Nat) (hi : i < l.length) : l[i].d.length ≤ 1000000 := h _ (List.getElem_mem hi)
theorem fit_take {l : List Rec} {k : Nat} (h : Fit (l.take k)) (hk : k < l.length) (hr : l[k].d.length ≤ 262144) : Fit (l.take (k + 1)) := by
  rw [List.take_succ_eq_append_getElem hk]
  intro r hm
  rcases List.mem_append.1 hm with h1 | h1
  · exact h r h1
  · rw [List.mem_singleton] at h1; rw [h1]; exact hr

instance (l : List Rec) : Decidable (Fit l) := inferInstanceAs (Decidable (∀ r ∈ l, r.d.length ≤ 262144))

/-- What the search hands back. -/
def Sought (l : List Rec) (w : World) (e : Ending) (w' : World) : Prop := (∃ i : Int, e = .returned (.int .i64 i) ∧ decide (0 ≤ i) = !decide (Fit l)) ∧ Below w.heap.size w w'

set_option maxRecDepth 100000 in
set_option maxHeartbeats 1000000 in
theorem index_any (A : Option Addr) (l : List Rec) (c : Nat) (w : World) (h : Recs w A l) (hl : l.length ≤ 1000000) (hs : Sane l) :
    Calls Tryd.prog 23 #[.slice A l.length c, .func (.func 16) #[] #[]] w (Sought l w) := by
  have HR := Lib.hid h
  clear h
  go_enter Tryd.func23, Tryd.ntmps23
  go_wp2
  go_loopw [8] (fun i wr => ∃ k : Nat, k ≤ l.length ∧ i = .int .i64 k ∧ Fit (l.take k) ∧ Below w.heap.size w wr) (fun i _ => l.length - (intOf i).toNat)
  case atStart => exact ⟨0, by omega, rfl, (fun r hr => by cases hr), Below.refl _ _⟩
  case round =>
    obtain ⟨k, hk, rfl, hf, hb⟩ := hrel
    have HF := Lib.hid hf
    have HB := Lib.hid hb
    clear hf
    by_cases hlt : k < l.length
    · obtain ⟨g, off, rfl, _, h1, h2⟩ := (HR.out.keeps hb).at_ k hlt
      have HL := Lib.hid (long_any l[k] wr (hs.at_ k hlt))
      have HT := Lib.hid (fun hx : l[k].d.length ≤ 262144 => fit_take HF.out hlt hx)
      have HT2 := Lib.hid (fun hx : 262144 < l[k].d.length => show ¬ Fit l from fun hfit => by have := hfit _ (List.getElem_mem hlt); omega)
      unfold recV at HL
      generalize l[k] = x at *
      by_cases hx : 262144 < x.d.length
      · rw [decide_eq_true hx] at HL
        have HNF := Lib.hid (HT2.out hx)
        clear hx HT HT2 hb
        go_wp2_with fail
        refine HL.out.mono ?_
        rintro e w1 ⟨rfl, hb1⟩
        have HB1 := Lib.hid (HB.out.trans (hb1.mono HB.out.size))
        clear hb1
        go_wp2
        go_ret
        exact ⟨⟨_, rfl, by rw [decide_eq_false HNF.out]; simp⟩, HB1.out⟩
      · rw [decide_eq_false hx] at HL
        have HFN := Lib.hid (HT.out (by omega))
        clear hx HT HT2 hb
        go_wp2_with fail
        refine HL.out.mono ?_
        rintro e w1 ⟨rfl, hb1⟩
        have HB1 := Lib.hid (HB.out.trans (hb1.mono HB.out.size))
        clear hb1
        go_wp2
        go_roundw
        case rel => exact ⟨k + 1, by omega, by go_num, HFN.out, HB1.out⟩
        case measure => simp [intOf]; omega
    · obtain rfl : k = l.length := by omega
      have HFL := Lib.hid (show Fit l by have := HF.out; rwa [List.take_length] at this)
      clear hb
      go_wp2
      go_ret
      exact ⟨⟨_, rfl, by rw [decide_eq_true HFL.out]; rfl⟩, HB.out⟩

set_option maxRecDepth 100000 in
theorem contains_any (A : Option Addr) (l : List Rec) (c : Nat) (w : World) (h : Recs w A l) (hl : l.length ≤ 1000000) (hs : Sane l) :
    Calls Tryd.prog 15 #[.slice A l.length c, .func (.func 16) #[] #[]] w fun e w' => e = .returned (.bool (!decide (Fit l))) ∧ Below w.heap.size w w' := by
  have HI := Lib.hid (index_any A l c w h hl hs)
  clear h
  go_enter Tryd.func15, Tryd.ntmps15
  go_wp2_with fail
  refine HI.out.mono ?_
  rintro e w1 ⟨⟨i, rfl, hi⟩, hb⟩
  have HD := Lib.hid hi
  have HB := Lib.hid hb
  clear hi hb
  go_wp2
  go_ret
  exact ⟨by rw [← HD.out]; rfl, HB.out⟩
end Go.Proofs.YtlhcacancnmhcaaDoor
