/-
  Bytes of a call's own that grow: numbers and texts behind them; the document's number.
-/
import Derived.Test.YtbganaaiaokfmaaCelHalf
import Derived.Test.YtbganaaiaokfmaaWalksG
import Derived.Lib.AppendStr
namespace Go.Proofs.Ytbganaaiaokfmaa
open Go.RowKit

/-- Bytes as a text. -/
def tx (l : List UInt8) : ByteArray := ⟨l.toArray⟩
theorem tx_size (l : List UInt8) : (tx l).size = l.length := by simp [tx, ByteArray.size]
theorem tx_list (l : List UInt8) : (tx l).toList = l := by rw [ByteArray.toList_eq]; simp [tx]
theorem tx_of (s : ByteArray) : tx s.toList = s := text_back s
theorem tx_app (a b : List UInt8) : tx a ++ tx b = tx (a ++ b) := by
  apply ByteArray.ext
  rw [ByteArray.data_append]
  simp [tx]
theorem strCells_byt (s : ByteArray) : Lib.strCells s = byt s.toList := by rw [ByteArray.toList_eq]; rfl

/-- Bytes of the call's own that grow. -/
def GrB (w0 : World) (L : List UInt8) (v : Value) (wr : World) : Prop := wr.ownsRow w0.heap.size 5 1 v L.length (byt L) ∧ Below w0.heap.size w0 wr
/-- Blocks of other types than bytes are as they were. -/
def FarB (w1 w2 : World) : Prop := ∀ g t cs m, t ≠ 5 → Row w1 g t cs m → Row w2 g t cs m
theorem FarB.refl (w : World) : FarB w w := fun _ _ _ _ _ h => h
theorem FarB.trans {a b c : World} (h : FarB a b) (k : FarB b c) : FarB a c := fun g t cs m ht hr => k g t cs m ht (h g t cs m ht hr)
theorem FarB.below {a b : World} (h : Below a.heap.size a b) : FarB a b := fun _ _ _ _ _ hr => hr.below h hr.lt
section
variable {w0 w1 w2 : World} {L R : List UInt8} {v v' : Value}
theorem GrB.keeps (h : GrB w0 L v w1) (hb : Below w1.heap.size w1 w2) : GrB w0 L v w2 := by
  refine ⟨⟨h.1.1, ?_⟩, h.2.trans (hb.mono h.2.size)⟩
  rcases h.1.2 with h0 | ⟨k, cap, cur, rfl, h1, hk, rest⟩
  · exact .inl h0
  · exact .inr ⟨k, cap, cur, rfl, h1, Row.below (cs := cur.toList) hk hb (Row.lt (cs := cur.toList) hk), rest⟩
theorem GrB.more (h : GrB w0 L v w1) (ho : w2.ownsRow w0.heap.size 5 1 v' (L.length + R.length) (byt L ++ byt R)) (hg : w1.grownBy w2 v.ownBlock) : GrB w0 (L ++ R) v' w2 := by
  refine ⟨by rw [byt_append, List.length_append]; exact ho, Below.grown h.2 hg h.2.size (fun g hg2 => (h.1.lt g hg2).1)⟩
theorem GrB.far (h : GrB w0 L v w1) (hg : w1.grownBy w2 v.ownBlock) : FarB w1 w2 := fun g t cs m ht hr => hr.grown hg (fun e => by
  rcases h.1.2 with ⟨rfl, _⟩ | ⟨k, cap, cur, rfl, _, hk, _⟩
  · cases e
  · injection e with e
    exact Row.ne_ (cs' := cur.toList) hr hk ht e)
theorem GrB.slot (h : GrB w0 L v w1) : ∃ A c, v = .slice A L.length c ∧ L.length ≤ c ∧ Reads 5 w1 A L := by
  rcases h.1.2 with ⟨rfl, h0⟩ | ⟨k, cap, cur, rfl, h1, hk, hc, _, _, ht⟩
  · have : L = [] := List.eq_nil_of_length_eq_zero h0
    subst this
    exact ⟨none, 0, rfl, Nat.le_refl _, Reads.nil⟩
  · refine ⟨some ⟨k, 0, none⟩, cap, rfl, hc, fun _ => ⟨k, 0, cur.toList, (0, 0), rfl, hk, fun j hj => ?_⟩⟩
    rw [Nat.zero_add, ← ht, Nat.mul_one, List.getElem?_take, if_pos hj]
/-- Another block of theirs turned: nothing of them. -/
theorem GrB.aside (h : GrB w0 L v w1) (b : Nat) (hb : w0.heap.size ≤ b) {T : TypeId} {cs : List Value} {m : Nat × Nat} (hr : Row w1 b T cs m) (hT : T ≠ 5) (i : Nat) (u : Value) : GrB w0 L v (w1.setCell ⟨b, i, none⟩ u) := by
  refine ⟨⟨h.1.1, ?_⟩, below_set h.2 hb i u⟩
  rcases h.1.2 with h0 | ⟨k, cap, cur, rfl, h1, hk, rest⟩
  · exact .inl h0
  · have hne : k ≠ b := Row.ne_ (cs := cur.toList) hk hr (fun e => hT e.symm)
    exact .inr ⟨k, cap, cur, rfl, h1, Row.far (cs := cur.toList) hk (p := ⟨b, i, none⟩) hne u, rest⟩
end
theorem reads_news {T : TypeId} {w : World} {ad : Addr} {l : List UInt8} (h : Reads T w (some ad) l) : ∀ j u, (byt l)[j]? = some u → w.cell? (ad.add j) = some u := by
  intro j u hu
  have hj : j < l.length := by
    have := (List.getElem?_eq_some_iff.1 hu).1
    rwa [byt_length] at this
  obtain ⟨g, off, cs, m, hA, hrow, hc⟩ := h (by omega)
  obtain rfl := Option.some.inj hA
  rw [Addr.add_lit, hrow.cell, hc j hj, hu]
theorem run_grb {T : TypeId} {w0 w1 : World} {L R : List UInt8} {v : Value} (hg : GrB w0 L v w1) (ad : Addr) (m c : Nat) (hm : R.length = m) (hr : Reads T w1 (some ad) R) (hle : L.length + m ≤ 140000000000) (ty : TypeId) :
    ∃ v' w2, (Builtin.append_ #[58, 58] ty #[v, .slice (some ad) m c]).run Try.prog w1 = .ok v' w2 ∧ GrB w0 (L ++ R) v' w2 ∧ FarB w1 w2 ∧ w1.grownBy w2 v.ownBlock := by
  obtain ⟨i0, hi0, hz0, hz1, hz2⟩ := info_parts Try.info_u8
  subst hm
  obtain ⟨v', w2, h1, h2, h3, _⟩ := run_append_own (P := Try.prog) w1 w0.heap.size 58 ty 5 i0 _ 1 1 Try.underlying58 hi0 hz0 hz1 hz2 rfl (by decide) v L.length (byt L) hg.1 ad R.length c (byt R) (by rw [byt_length, Nat.mul_one]) (reads_news hr) (byt_one _) (by unfold maxLen; omega) (by omega) hg.2.size
  exact ⟨v', w2, h1, hg.more h2 h3, hg.far h3, h3⟩
theorem wpList_grb {ops : Array Oper} {rest : List Oper} {o : Oper} {a : Act} {Q : Exit → Act → World → Prop} {T : TypeId} {w0 w1 : World} {L R : List UInt8} {v : Value} (hgd : o.guard = none) (s x : Operand)
    (ho : o.op = .call { callee := .builtin .append, args := #[s, x], argTypes := #[58, 58] }) (hs : a.eval s = v) (hg : GrB w0 L v w1) (ad : Addr) (m c : Nat) (hx : a.eval x = .slice (some ad) m c) (hm : R.length = m) (hr : Reads T w1 (some ad) R)
    (hle : L.length + m ≤ 140000000000) (h : ∀ v' w2, GrB w0 (L ++ R) v' w2 → FarB w1 w2 → wpList Try.prog ops Q rest (a.put o.dst v') w2) : wpList Try.prog ops Q (o :: rest) a w1 := by
  refine wpList_plain hgd fun K hK => ?_
  obtain ⟨v', w2, hrn, h2, h3, _⟩ := run_grb hg ad m c hm hr hle o.type
  unfold Oper.wp execOp
  simp only [ho, resolve, invoke, builtin, Sem.run_bind, Sem.run_pure, Result.andThen_ok, List.map_toArray, List.map_cons, List.map_nil, hs, hx, hrn]
  exact hK _ _ (h v' w2 h2 h3)
theorem step_grb {ops : Array Oper} {o : Oper} {a : Act} {K : Act → World → Prop} {Q : Exit → Act → World → Prop} {E : Prop} {T : TypeId} {w0 w1 : World} {L R : List UInt8} {v : Value} (hgd : o.guard = none) (s x : Operand)
    (ho : o.op = .call { callee := .builtin .append, args := #[s, x], argTypes := #[58, 58] }) (hs : a.eval s = v) (hg : GrB w0 L v w1) (ad : Addr) (m c : Nat) (hx : a.eval x = .slice (some ad) m c) (hm : R.length = m) (hr : Reads T w1 (some ad) R)
    (hle : L.length + m ≤ 140000000000) (h : ∀ v' w2, GrB w0 (L ++ R) v' w2 → FarB w1 w2 → K (a.put o.dst v') w2) : if Region.wanted o (yielded ops a.tmps) = true then Oper.wp Try.prog o a w1 K Q else E := by
  have hw : Region.wanted o (yielded ops a.tmps) = true := by simp [Region.wanted, hgd]
  rw [if_pos hw]
  obtain ⟨v', w2, hrn, h2, h3, _⟩ := run_grb hg ad m c hm hr hle o.type
  unfold Oper.wp execOp
  simp only [ho, resolve, invoke, builtin, Sem.run_bind, Sem.run_pure, Result.andThen_ok, List.map_toArray, List.map_cons, List.map_nil, hs, hx, hrn]
  exact h v' w2 h2 h3
/-- A text behind them. -/
theorem wpList_grs {ops : Array Oper} {rest : List Oper} {o : Oper} {a : Act} {Q : Exit → Act → World → Prop} {w0 w1 : World} {L : List UInt8} (s : ByteArray) {v : Value} (hgd : o.guard = none) (sl x : Operand)
    (ho : o.op = .call { callee := .builtin .append, args := #[sl, x], argTypes := #[58, 9] }) (hs : a.eval sl = v) (hg : GrB w0 L v w1) (hx : a.eval x = .string s)
    (hle : L.length + s.size ≤ 140000000000) (h : ∀ v' w2, GrB w0 (L ++ s.toList) v' w2 → FarB w1 w2 → wpList Try.prog ops Q rest (a.put o.dst v') w2) : wpList Try.prog ops Q (o :: rest) a w1 := by
  obtain ⟨i0, hi0, hz0, hz1, hz2⟩ := info_parts Try.info_u8
  refine Lib.wpList_append_own_string w1 hgd sl x 58 9 ho w0.heap.size 5 i0 Try.underlying58 Try.underlying9 hi0 hz0 hz1 hz2 v L.length (byt L) hs hg.1 s hx (by unfold maxLen; omega) (by omega) hg.2.size fun v' w2 h1 h2 _ => ?_
  rw [strCells_byt] at h1
  have hl : s.size = s.toList.length := (len_size s).symm
  rw [hl] at h1
  exact h v' w2 (hg.more h1 h2) (hg.far h2)

theorem cdiv_step (v k : Nat) : (v / 256 ^ k) / 256 = v / 256 ^ (k + 1) := by rw [Nat.div_div_eq_div_mul, Nat.pow_succ]
theorem cbyte_num (v k : Nat) : (((v / 256 ^ k : Nat) : Int) % 256) = ((UInt8.ofNat (v / 256 ^ k)).toNat : Int) := by
  rw [UInt8.toNat_ofNat']
  simp
theorem cnumber_fill (n k v : Nat) (hk : k < n) :
    (splice (byt (List.replicate n 0)) (n - k) (byt (be v k))).set (n - 1 - k) (.int .u8 (((v / 256 ^ k : Nat) : Int) % 256)) = splice (byt (List.replicate n 0)) (n - (k + 1)) (byt (be v (k + 1))) := by
  have e := splice_grow (byt (List.replicate n 0)) (n - (k + 1)) (byt (be v k)) (.int .u8 (((v / 256 ^ k : Nat) : Int) % 256)) (by rw [byt_length, byt_length, be_length, List.length_replicate]; omega)
  rw [show n - (k + 1) + 1 = n - k by omega] at e
  rw [show n - 1 - k = n - (k + 1) by omega, e, cbyte_num]
  rfl
theorem cfull (n v : Nat) : splice (byt (List.replicate n 0)) (n - n) (byt (be v n)) = byt (be v n) := by
  rw [Nat.sub_self]; simp [splice, byt, be_length]

set_option maxRecDepth 100000 in
set_option maxHeartbeats 1000000 in
theorem cnumber_any (v n : Nat) (w : World) (hn : n ≤ 8) (hv : v ≤ 9223372036854775807) :
    Calls Try.prog 38 #[.int .i64 (v : Int), .int .i64 (n : Int)] w fun e w' => e = .returned (.string (tx (be v n))) ∧ Below w.heap.size w w' := by
  have hmk := make_bytes n (by omega) (n : Int) rfl w
  have HE := Lib.hid (show ∀ wx, Row wx w.heap.size 5 (byt (be v n)) (0, 0) → (convert 58 9 (.slice (some ⟨w.heap.size, 0, none⟩) n n)).run Try.prog wx = .ok (.string (tx (be v n))) wx from fun wx hr => by
    have := run_text Try.underlying58 Try.underlying5 wx (some ⟨w.heap.size, 0, none⟩) (be v n) n (row_reads hr) 9 Try.underlying9
    rw [be_length] at this
    exact this)
  go_enter Try.func38, Try.ntmps38
  go_wp2
  go_loopw [0, 6] (fun x i wr => ∃ k : Nat, k ≤ n ∧ i = .int .i64 ((n : Int) - 1 - k) ∧ x = .int .i64 ((v / 256 ^ k : Nat) : Int) ∧ Below w.heap.size w wr ∧ Row wr w.heap.size 5 (splice (byt (List.replicate n 0)) (n - k) (byt (be v k))) (0, 0)) (fun _ i _ => (intOf i + 1).toNat)
  case atStart =>
    refine ⟨0, Nat.zero_le _, by simp, by simp, (Below.refl _ _).alloc (Nat.le_refl _) _, ?_⟩
    have := Row.new w 5 (byt (List.replicate n 0)) (0, 0)
    simpa [splice, be, byt] using this
  case round =>
    obtain ⟨k, hk, rfl, rfl, hb, hr⟩ := hrel
    by_cases hlt : k < n
    · have hcell : ∃ u, wr.cell? ⟨w.heap.size, n - 1 - k, none⟩ = some u := by
        rw [hr.cell]
        have hl : (splice (byt (List.replicate n 0)) (n - k) (byt (be v k))).length = n := by
          rw [length_splice _ _ _ (by rw [byt_length, byt_length, be_length]; simp; omega), byt_length]; simp
        exact ⟨_, List.getElem?_eq_getElem (by rw [hl]; omega)⟩
      obtain ⟨u0, hu0⟩ := hcell
      have hfree := hr.loose (n - 1 - k)
      have hst := hr.put (n - 1 - k) (.int .u8 (((v / 256 ^ k : Nat) : Int) % 256))
      rw [cnumber_fill n k v hlt] at hst
      have HST := Lib.hid hst
      have HB := Lib.hid (hb.setCell (p := ⟨w.heap.size, n - 1 - k, none⟩) (Nat.le_refl _) (.int .u8 (((v / 256 ^ k : Nat) : Int) % 256)))
      have HD := Lib.hid (cdiv_step v k)
      have hvk : v / 256 ^ k ≤ 9223372036854775807 := Nat.le_trans (Nat.div_le_self _ _) hv
      generalize hx : v / 256 ^ k = x at *
      have hmd : Int.tmod (x : Int) 256 = (x : Int) % 256 := Int.tmod_eq_emod_of_nonneg (by omega)
      have htd : Int.tdiv (x : Int) 256 = (x : Int) / 256 := Int.tdiv_eq_ediv_of_nonneg (by omega)
      clear hst hr hb hx HE
      go_wp2
      go_roundw
      case rel => exact ⟨k + 1, by omega, congrArg (Value.int IntKind.i64) (by omega), by rw [← HD.out]; simp, HB.out, HST.out⟩
      case measure => simp [intOf]; omega
    · obtain rfl : k = n := by omega
      rw [cfull] at hr
      have hct := HE.out wr hr
      obtain ⟨S, hS⟩ : ∃ S, tx (be v k) = S := ⟨_, rfl⟩
      rw [hS] at hct
      have HS := Lib.hid hS
      have HB := Lib.hid hb
      clear hS hr hb HE
      go_wp2
      go_ret
      exact ⟨by rw [HS.out]; rfl, HB.out⟩

/-- Bytes in a box: what the closure that writes has. -/
structure OutS (w0 : World) (b : Nat) (L : List UInt8) (wr : World) : Prop where
  lo : w0.heap.size ≤ b
  st : ∃ v, GrB w0 L v wr ∧ Row wr b 58 [v] (0, 0)
theorem OutS.keeps {w0 w1 w2 : World} {b : Nat} {L : List UInt8} (h : OutS w0 b L w1) (hb : Below w1.heap.size w1 w2) : OutS w0 b L w2 := by
  obtain ⟨v, h1, h2⟩ := h.st
  exact ⟨h.lo, v, h1.keeps hb, h2.below hb h2.lt⟩
theorem OutS.old {w0 w1 : World} {b : Nat} {L : List UInt8} (h : OutS w0 b L w1) : Below w0.heap.size w0 w1 := h.st.elim fun _ h => h.1.2
/-- Blocks of other types than bytes, other than this one, are as they were. -/
def FarX (b : Nat) (w1 w2 : World) : Prop := ∀ g t cs m, t ≠ 5 → g ≠ b → Row w1 g t cs m → Row w2 g t cs m

theorem bytes_room (N : Nat) (hN : N ≤ 140000000000) (w : World) : ∃ wF, (Instr.makeSlice 58 (.int .i64 0) (.int .i64 (N : Int))).run Try.prog w = .ok (.slice (some ⟨w.heap.size, 0, none⟩) 0 N) wF ∧ GrB w [] (.slice (some ⟨w.heap.size, 0, none⟩) 0 N) wF := by
  obtain ⟨i0, hi0, hz0, hz1, hz2⟩ := info_parts Try.info_u8
  have h := run_make (P := Try.prog) w 58 5 i0 _ Try.underlying58 hi0 hz0 .i64 .i64 0 N (by omega) (by omega) (by rw [hz2]; omega) (by omega)
  rw [hz1, Int.toNat_natCast, Nat.mul_one, madeCells_zero] at h
  refine ⟨_, h, ?_, (Below.refl _ _).alloc (Nat.le_refl _) _⟩
  refine ⟨rfl, .inr ⟨w.heap.size, N, (byt (List.replicate N 0)).toArray, rfl, Nat.le_refl _, heap_alloc_new w _, Nat.zero_le _, by unfold maxLen; omega, by simp [byt], by simp [byt]⟩⟩

set_option maxRecDepth 100000 in
set_option maxHeartbeats 2000000 in
theorem kwrite_any (w0 : World) (b n k : Nat) (L : List UInt8) (w : World) (h : OutS w0 b L w) (hk : isW k = true) (hn : n ≤ 9223372036854775807) (hL : L.length ≤ 130000000000) :
    Calls Try.prog 35 #[.int .i64 (n : Int), .int .i64 (k : Int), .pointer (some ⟨b, 0, none⟩)] w fun e w' => e = .returned (.tuple #[]) ∧ OutS w0 b (L ++ be n k) w' ∧ FarX b w w' := by
  obtain ⟨v, hg, hr⟩ := h.st
  have HLO := Lib.hid h.lo
  have hwn : IntKind.u64.wrap (n : Int) = (n : Int) := IntWalk.u64_in _ (by omega)
  have hk8 : k ≤ 8 := by have := isW_cases hk; omega
  obtain ⟨wd, hwd⟩ : ∃ wd, w.drew = wd := ⟨_, rfl⟩
  have HKd := Lib.hid (show Below w.heap.size w wd from hwd ▸ below_drew_c (Below.refl _ _))
  have HG := Lib.hid (hg.keeps HKd.out)
  have HR := Lib.hid (show Row wd b 58 [v] (0, 0) from hr.below HKd.out hr.lt)
  have HP := Lib.hid (fun wx => put_wide none [] 0 n k wx Reads.nil (by simp) hk)
  simp only [List.length_nil, Nat.zero_add, List.nil_append] at HP
  have hHeld : wd.cell? ⟨b, 0, none⟩ = some v := by rw [HR.out.cell]; rfl
  have HFD := Lib.hid (show FarB w wd from FarB.below HKd.out)
  have HLB := Lib.hid hL
  clear hg hr h hL
  go_enter Try.func35, Try.ntmps35
  go_wp2_with fail
  refine wp_region_noPanic ?_
  refine wp_region_sch (fun wx => wx.cell? ⟨b, 0, none⟩ = some v) (fun i => [4, 5, 6].contains i)
    (.takes [0, 1, 2, 3] (.run 4 (.run 5 (.run 6 .done)))) (by kernel_rfl) (fun _ _ _ _ _ h => h) (by kernel_rfl) ?_
  rw [hwd]
  iterate 4 (
    refine sch_takes_cons ?_
    first
      | (refine sch_take (v := ?_) rfl (by assumption) (by rfl) ?_ ?_; rotate_left; (focus (intro wy hSy; (try dsimp only at hSy); go_simp; (try with_reducible rfl))))
      | (refine sch_pass rfl (by assumption) (by rfl) ?_)
    simp only [Act.put, List.setIfInBounds_toArray, List.set_cons_zero, List.set_cons_succ])
  refine sch_takes_nil ?_
  refine sch_run rfl (fun K hK => ?_)
  go_simp
  with_reducible refine (HP.out _).mono ?_
  rintro e w5 ⟨rfl, hb5, hr5⟩
  have HG5 := Lib.hid (HG.out.keeps hb5)
  have HR5 := Lib.hid (HR.out.below hb5 HR.out.lt)
  have HN5 := Lib.hid (row_reads hr5)
  have HF5 := Lib.hid (HFD.out.trans (FarB.below hb5))
  have hHeld : w5.cell? ⟨b, 0, none⟩ = some v := by rw [HR5.out.cell]; rfl
  clear hb5 hr5
  refine hK.out _ _ (fun _ => hHeld) ?_
  clear hK K
  try simp only [Act.put, List.setIfInBounds_toArray, List.set_cons_zero, List.set_cons_succ]
  refine sch_run rfl (fun K hK => ?_)
  refine step_grb rfl (.tmp 5) (.tmp 9) rfl rfl HG5.out ⟨wd.heap.size, 0, none⟩ k k rfl (be_length _ _) HN5.out (by have := HLB.out; omega) ?_
  intro v6 w6 hg6 hf6
  have HG6 := Lib.hid hg6
  have HR6 := Lib.hid (hf6 _ _ _ _ (by decide) HR5.out)
  have HF6 := Lib.hid (HF5.out.trans hf6)
  have hHeld : w6.cell? ⟨b, 0, none⟩ = some v := by rw [HR6.out.cell]; rfl
  have hfree := HR6.out.loose 0
  clear hg6 hf6
  refine hK.out _ _ (fun _ => hHeld) ?_
  clear hK K
  try simp only [Act.put, List.setIfInBounds_toArray, List.set_cons_zero, List.set_cons_succ]
  refine sch_last rfl (by kernel_rfl) (fun K hK => ?_)
  clear hHeld
  have hcell : w6.cell? ⟨b, 0, none⟩ = some v := by rw [HR6.out.cell]; rfl
  obtain ⟨LB, hLB⟩ : ∃ LB, L ++ be n k = LB := ⟨_, rfl⟩
  rw [hLB] at HG6
  have HLB2 := Lib.hid hLB
  clear hLB
  have HEND := Lib.hid (show OutS w0 b LB (w6.setCell ⟨b, 0, none⟩ v6) ∧ FarX b w (w6.setCell ⟨b, 0, none⟩ v6) from
    ⟨⟨HLO.out, v6, HG6.out.aside b HLO.out HR6.out (by decide) 0 v6, HR6.out.put 0 v6⟩, fun g t cs m ht hg hrw => (HF6.out g t cs m ht hrw).far (p := ⟨b, 0, none⟩) hg v6⟩)
  obtain ⟨A6, c6, rfl, -, -⟩ := HG6.out.slot
  go_simp
  refine hK.out _ _ ?_
  clear hK K
  try simp only [Act.put, List.setIfInBounds_toArray, List.set_cons_zero, List.set_cons_succ]
  refine sch_done ?_
  refine NoPanic.normal ?_
  go_wp2_with fail
  go_end0
  exact ⟨rfl, by rw [HLB2.out]; exact HEND.out.1, HEND.out.2⟩

theorem texts_get (key val : ByteArray) {k : Nat} (h : k < 2) : ([key, val] : List ByteArray)[k]? = some (if k = 0 then key else val) := by
  rcases (show k = 0 ∨ k = 1 by omega) with rfl | rfl <;> rfl
/-- A text with its size. -/
def szT (s : ByteArray) : List UInt8 := be s.size 2 ++ s.toList
theorem szT_length (s : ByteArray) : (szT s).length = 2 + s.size := by unfold szT; rw [List.length_append, be_length, len_size]

set_option maxRecDepth 100000 in
set_option maxHeartbeats 2000000 in
theorem ktexts_any (w0 : World) (L : List UInt8) (v : Value) (g : Nat) (key val : ByteArray) (w : World) (hg : GrB w0 L v w) (hr : Row w g 9 [.string key, .string val] (0, 0)) (hL : L.length ≤ 130000000000) (hk : key.size ≤ 70000) (hv : val.size ≤ 70000) :
    Calls Try.prog 37 #[v, .slice (some ⟨g, 0, none⟩) 2 2] w fun e w' => ∃ v', e = .returned v' ∧ GrB w0 (L ++ (szT key ++ szT val)) v' w' ∧ FarB w w' := by
  have HG := Lib.hid hg
  have HR := Lib.hid hr
  have HF0 := Lib.hid (FarB.refl w)
  have HP := Lib.hid (fun (s : ByteArray) wx => put_wide none [] 0 s.size 2 wx Reads.nil (by simp) rfl)
  simp only [List.length_nil, Nat.zero_add, List.nil_append] at HP
  obtain ⟨LL, hLL⟩ : ∃ LL : Nat → List UInt8, LL = fun k => L ++ (if k = 0 then [] else if k = 1 then szT key else szT key ++ szT val) := ⟨_, rfl⟩
  have HL0 := Lib.hid (show LL 0 = L by rw [hLL]; simp)
  have HL2 := Lib.hid (show LL 2 = L ++ (szT key ++ szT val) by rw [hLL]; simp)
  have HST := Lib.hid (show ∀ k, k < 2 → LL (k + 1) = LL k ++ szT (if k = 0 then key else val) from fun k hk => by
    rw [hLL]
    rcases (show k = 0 ∨ k = 1 by omega) with rfl | rfl <;> simp [List.append_assoc])
  have HLN := Lib.hid (show ∀ k, k < 2 → (LL k).length ≤ 130000100000 from fun k hk => by
    rw [hLL]
    rcases (show k = 0 ∨ k = 1 by omega) with rfl | rfl <;> simp [szT_length] <;> omega)
  have HTX := Lib.hid (fun wx (h : FarB w wx) k (hk : k < 2) => show wx.cell? ⟨g, k, none⟩ = some (.string (if k = 0 then key else val)) by
    rw [(h g _ _ _ (by decide) HR.out).cell]
    rcases (show k = 0 ∨ k = 1 by omega) with rfl | rfl <;> rfl)
  have HSZ := Lib.hid (show ∀ k, (if k = 0 then key else val).size ≤ 70000 from fun k => by split <;> assumption)
  clear hg hr hLL hk hv hL
  go_enter Try.func37, Try.ntmps37
  go_wp2_with fail
  go_loopw [0, 9] (fun u i wr => ∃ (k : Nat) (x : Value), k ≤ 2 ∧ x = u ∧ i = .int .i64 (k : Int) ∧ Hid (GrB w0 (LL k) x wr) ∧ Hid (FarB w wr)) (fun _ i _ => 2 - (intOf i).toNat)
  case atStart => exact ⟨0, v, by omega, rfl, rfl, Lib.hid (by rw [HL0.out]; exact HG.out), HF0⟩
  case round =>
    obtain ⟨k, x, hk, rfl, rfl, HGk, HFk⟩ := hrel
    by_cases hlt : k < 2
    · have hkI : (k : Int) < 2 := by omega
      have hcell := HTX.out wr HFk.out k hlt
      have hst := HST.out k hlt
      have hln := HLN.out k hlt
      have hsz := HSZ.out k
      obtain ⟨s, hs⟩ : ∃ s, (if k = 0 then key else val) = s := ⟨_, rfl⟩
      rw [hs] at hcell hst hsz
      have HPS := Lib.hid (HP.out s wr)
      obtain ⟨X, hX⟩ : ∃ X, LL k = X := ⟨_, rfl⟩
      rw [hX] at HGk hst hln
      have HS := Lib.hid hst
      have hwn : IntKind.u64.wrap (s.size : Int) = (s.size : Int) := IntWalk.u64_in _ (by omega)
      have HLL := Lib.hid (And.intro hln hsz)
      clear hs hX hst HTX HST HLN HSZ HP hln
      go_wp2_with fail
      refine HPS.out.mono ?_
      rintro e w1 ⟨rfl, hb1, hr1⟩
      have HG1 := Lib.hid (HGk.out.keeps hb1)
      have HR1 := Lib.hid (row_reads hr1)
      have HF1 := Lib.hid (HFk.out.trans (FarB.below hb1))
      clear hb1 hr1 HPS
      go_wp2_with (at_builtin; refine wpList_grb rfl (.tmp 13) (.tmp 17) rfl rfl HG1.out ⟨wr.heap.size, 0, none⟩ 2 2 rfl (be_length _ _) HR1.out (by have := HLL.out; omega) ?_)
      intro v2 w2 hg2 hf2
      have HG2 := Lib.hid hg2
      have HF2 := Lib.hid (HF1.out.trans hf2)
      clear hg2 hf2
      go_wp2_with (at_builtin; refine wpList_grs s rfl (.tmp 19) (.tmp 20) rfl rfl HG2.out rfl (by rw [List.length_append, be_length]; have := HLL.out; omega) ?_)
      intro v3 w3 hg3 hf3
      have HG3 := Lib.hid (show GrB w0 (LL (k + 1)) v3 w3 by rw [HS.out]; unfold szT; first | exact hg3 | (rw [← List.append_assoc]; exact hg3))
      have HF3 := Lib.hid (HF2.out.trans hf3)
      clear hg3 hf3
      go_wp2_with fail
      go_roundw
      case rel => exact ⟨k + 1, v3, by omega, rfl, by go_num, HG3, HF3⟩
      case measure => simp [intOf]; omega
    · have hkI : ¬ (k : Int) < 2 := by omega
      obtain rfl : k = 2 := by omega
      have HT := Lib.hid (show GrB w0 (L ++ (szT key ++ szT val)) x wr by rw [← HL2.out]; exact HGk.out)
      go_wp2_with fail
      go_ret
      exact ⟨x, rfl, HT.out, HFk.out⟩
end Go.Proofs.Ytbganaaiaokfmaa
