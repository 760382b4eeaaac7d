/-
  What may be read of a block's sectors behind a power loss.
-/
import Derived.Test.YtnmfgmlmjbfdcaaMBlkEF
namespace Go.Proofs.Ytnmfgmlmjbfdcaa
open Go.RowKit

/-- A padded text. -/
def padT (n : Nat) (s : ByteArray) : ByteArray := ⟨(pad n (txt s)).toArray⟩
/-- What may be read of block b behind a power loss: the durable bytes, those of each pending write. -/
def seenOf (d : DV) (b : Nat) : List ByteArray := ⟨(seg d.dur (b * d.sz) d.sz).toArray⟩ :: (d.pend.filter fun q => q.1 == b).map fun q => padT d.sz q.2
theorem seenOf_clean {d : DV} (h1 : d.pend = []) (h2 : d.dur = d.vis) (b : Nat) : seenOf d b = [d.block b] := by
  unfold seenOf DV.block
  rw [h1, h2]; rfl
theorem seenOf_le (d : DV) (b : Nat) : (seenOf d b).length ≤ d.pend.length + 1 := by
  unfold seenOf
  rw [List.length_cons, List.length_map]
  have := List.length_filter_le (fun q : Nat × ByteArray => q.1 == b) d.pend
  omega

theorem extract_list (l : List UInt8) (a b : Nat) : (⟨l.toArray⟩ : ByteArray).extract a b = ⟨(seg l a (b - a)).toArray⟩ := by
  apply ByteArray.ext
  rw [ByteArray.data_extract]
  apply Array.ext'
  rw [Array.toList_extract]
  show l.extract a b = _
  rw [List.extract_eq_take_drop]
  rfl
theorem extract_seg (L : List UInt8) (o n p m : Nat) (h : p + m ≤ n) : (⟨(seg L o n).toArray⟩ : ByteArray).extract p (p + m) = ⟨(seg L (o + p) m).toArray⟩ := by
  rw [extract_list, Nat.add_sub_cancel_left, seg_seg L o n p m h]

theorem seen_size {d : DV} {w : World} (h : d.In w) {b : Nat} (hb : b < d.nb) : ∀ x ∈ seenOf d b, x.size = d.sz := by
  intro x hx
  rcases List.mem_cons.1 hx with rfl | hx
  · show (seg d.dur (b * d.sz) d.sz).toArray.size = _
    rw [List.size_toArray, seg_length _ _ _ (by rw [h.ld]; exact block_in d.sz hb)]
  · obtain ⟨q, _, rfl⟩ := List.mem_map.1 hx
    show (pad d.sz (txt q.2)).toArray.size = _
    rw [List.size_toArray, pad_length]
/-- Each sector behind a power loss is that of something seen. -/
theorem sec_seen {d : DV} {w : World} (h : d.In w) (keep : List Nat) {b i : Nat} (_hb : b < d.nb) (hi : i < d.ns) :
    ∃ x ∈ seenOf d b, x.extract (64 * i) (64 * i + 64) = ((d.crashed keep).block b).extract (64 * i) (64 * i + 64) := by
  have hfit : 64 * i + 64 ≤ d.sz := by show _ ≤ d.ns * 64; omega
  have hp : ∀ q ∈ d.pend, q.1 < d.nb := fun q hq => (h.fits q hq).1
  have e : ((d.crashed keep).block b).extract (64 * i) (64 * i + 64) = ⟨(seg (keepAll d.ns d.dur d.pend keep) (b * (d.ns * 64) + i * 64) 64).toArray⟩ := by
    refine (extract_seg (keepAll d.ns d.dur d.pend keep) (b * d.sz) d.sz (64 * i) 64 hfit).trans ?_
    rw [Nat.mul_comm 64 i]
  rcases keepAll_sec d.pend keep d.dur hp h.ld b i hi with h1 | ⟨q, hq, rfl, h1⟩
  · refine ⟨_, List.mem_cons_self .., ?_⟩
    rw [e, h1, extract_seg _ _ _ _ _ hfit, Nat.mul_comm 64 i]
  · refine ⟨padT d.sz q.2, List.mem_cons_of_mem _ (List.mem_map.2 ⟨q, List.mem_filter.2 ⟨hq, by simp⟩, rfl⟩), ?_⟩
    rw [e, h1]
    unfold padT
    rw [extract_list, Nat.add_sub_cancel_left, seg_pad _ _ _ _ hfit, Nat.mul_comm 64 i]
/-- Where nothing else was seen the block is as it was. -/
theorem one_seen {d : DV} {w : World} (h : d.In w) (keep : List Nat) {b : Nat} (h1 : (seenOf d b).length = 1) : (d.crashed keep).block b = ⟨(seg d.dur (b * d.sz) d.sz).toArray⟩ := by
  have hf : d.pend.filter (fun q => q.1 == b) = [] := by
    unfold seenOf at h1
    rw [List.length_cons, List.length_map] at h1
    exact List.eq_nil_of_length_eq_zero (by omega)
  show (⟨(seg (keepAll d.ns d.dur d.pend keep) (b * (d.ns * 64)) (d.ns * 64)).toArray⟩ : ByteArray) = _
  rw [keepAll_other d.pend keep d.dur (fun q hq => (h.fits q hq).1) h.ld b (fun hm => by
    obtain ⟨q, hq, e⟩ := List.mem_map.1 hm
    have := List.filter_eq_nil_iff.1 hf q hq
    simp [e] at this)]

/-- Has one of the first k this sector? -/
def foundIn (l : List ByteArray) (t : ByteArray) (i k : Nat) : Bool := (l.take k).any fun x => (x.extract (64 * i) (64 * i + 64)).toList == (t.extract (64 * i) (64 * i + 64)).toList
theorem foundIn_zero (l : List ByteArray) (t : ByteArray) (i : Nat) : foundIn l t i 0 = false := by simp [foundIn]
theorem foundIn_succ (l : List ByteArray) (t : ByteArray) (i k : Nat) (h : k < l.length) : foundIn l t i (k + 1) = (foundIn l t i k || (l[k].extract (64 * i) (64 * i + 64)).toList == (t.extract (64 * i) (64 * i + 64)).toList) := by
  unfold foundIn
  rw [List.take_succ_eq_append_getElem h, List.any_append]
  simp
theorem foundIn_all {d : DV} {w : World} (h : d.In w) (keep : List Nat) {b i : Nat} (hb : b < d.nb) (hi : i < d.ns) : foundIn (seenOf d b) ((d.crashed keep).block b) i (seenOf d b).length = true := by
  obtain ⟨x, hx, e⟩ := sec_seen h keep hb hi
  unfold foundIn
  rw [List.take_length]
  exact List.any_eq_true.2 ⟨x, hx, by rw [e]; simp⟩
end Go.Proofs.Ytnmfgmlmjbfdcaa
