/-
  The walks over package fabric, part G: Take, Double.
-/
import Derived.Test.YtamanckcnhhaiaaFabCalls
namespace Go.Proofs.Ytamanckcnhhaiaa
open Go.RowKit

theorem qs_first {l : List MB} {way : Int × Int} {x : Nat × Nat} (h : x ∈ qs l way) : (qs l way)[x.1]? = some x ∧ x.1 < (qu l way).length := by
  obtain ⟨i, hi, rfl⟩ := List.getElem_of_mem h
  have h1 := (qsN_get l way l.length (Nat.le_refl _) i hi).1
  have h2 : (qs l way)[i].1 = i := h1
  rw [h2]
  exact ⟨List.getElem?_eq_getElem hi, by rw [← qs_length]; exact hi⟩
theorem find_yes (d : FV) (way : Int × Int) (j p : Nat) (w : World) (hd : d.In w) (hL : d.l.length ≤ 1000000) (hq : (qs d.l way)[j]? = some (j, p)) : Calls Try.prog 15 #[d.ptr, wayV way, .int .i64 (j : Int)] w fun e w' => e = .returned (.tuple #[.int .i64 (p : Int), .int .i64 0]) ∧ Below w.heap.size w w' := by
  refine (find_any d way (j : Int) w hd hL).mono ?_
  rintro e w' ⟨h | h, hb⟩
  · obtain ⟨x, hx, he, rfl⟩ := h
    have h1 := (qs_first hx).1
    have h2 : x.1 = j := by omega
    rw [h2, hq] at h1
    injection h1 with h1
    rw [← h1]
    exact ⟨rfl, hb⟩
  · exact absurd rfl (h.1 (j, p) (List.mem_of_getElem? hq))
theorem find_no (d : FV) (way : Int × Int) (at_ : Int) (w : World) (hd : d.In w) (hL : d.l.length ≤ 1000000) (hq : at_ < 0 ∨ ((qu d.l way).length : Int) ≤ at_) : Calls Try.prog 15 #[d.ptr, wayV way, .int .i64 at_] w fun e w' => e = .returned (.tuple #[.int .i64 0, .int .i64 7]) ∧ Below w.heap.size w w' := by
  refine (find_any d way at_ w hd hL).mono ?_
  rintro e w' ⟨h | h, hb⟩
  · obtain ⟨x, hx, he, rfl⟩ := h
    have := (qs_first hx).2
    omega
  · exact ⟨h.2, hb⟩

set_option maxRecDepth 100000 in
set_option maxHeartbeats 1000000 in
theorem find_none (way : Int × Int) (at_ : Int) (w : World) : Calls Try.prog 15 #[.pointer none, wayV way, .int .i64 at_] w fun e w' => e = .returned (.tuple #[.int .i64 0, .int .i64 1]) ∧ Below w.heap.size w w' := by
  have HB := Lib.hid (fun (o1 o2 : Obj) => show Below w.heap.size w ((w.alloc o1).alloc o2) from ((Below.refl _ w).alloc (Nat.le_refl _) _).alloc (by simp) _)
  unfold wayV
  go_enter Try.func15, Try.ntmps15
  go_wp2_with fail
  go_step3
  go_wp2_with fail
  refine (isNone_yes _).mono ?_
  rintro e w1 ⟨rfl, rfl⟩
  go_wp2
  rw [Exit.noGoto_ret]
  go_ret2
  exact ⟨rfl, HB.out _ _⟩

set_option maxRecDepth 100000 in
theorem take_none (f t at_ : Int) (w : World) : Calls Try.prog 7 #[.pointer none, .int .i64 f, .int .i64 t, .int .i64 at_] w fun e w' => e = .returned (.tuple #[.string ⟨#[]⟩, .int .i64 1]) ∧ Below w.heap.size w w' := by
  have HF := Lib.hid (find_none (f, t) at_ w)
  unfold wayV at HF
  simp only at HF
  go_enter Try.func7, Try.ntmps7
  go_wp2_with (go_at_call 15; refine HF.out.mono ?_; rintro e w1 ⟨rfl, hb⟩; have HB := Lib.hid hb; clear hb)
  go_ret2
  exact ⟨rfl, HB.out⟩

set_option maxRecDepth 100000 in
theorem double_none (f t at_ : Int) (w : World) : Calls Try.prog 9 #[.pointer none, .int .i64 f, .int .i64 t, .int .i64 at_] w fun e w' => e = .returned (.int .i64 1) ∧ Below w.heap.size w w' := by
  have HF := Lib.hid (find_none (f, t) at_ w)
  unfold wayV at HF
  simp only at HF
  go_enter Try.func9, Try.ntmps9
  go_wp2_with (go_at_call 15; refine HF.out.mono ?_; rintro e w1 ⟨rfl, hb⟩; have HB := Lib.hid hb; clear hb)
  go_ret
  exact ⟨rfl, HB.out⟩

set_option maxRecDepth 100000 in
theorem take_no (d : FV) (f t at_ : Int) (w : World) (hd : d.In w) (hL : d.l.length ≤ 1000000) (hq : at_ < 0 ∨ ((qu d.l (f, t)).length : Int) ≤ at_) : Calls Try.prog 7 #[d.ptr, .int .i64 f, .int .i64 t, .int .i64 at_] w fun e w' => e = .returned (.tuple #[.string ⟨#[]⟩, .int .i64 7]) ∧ Below w.heap.size w w' := by
  have HF := Lib.hid (find_no d (f, t) at_ w hd hL hq)
  unfold wayV at HF
  unfold FV.ptr at HF ⊢
  simp only at HF
  clear hd hq
  go_enter Try.func7, Try.ntmps7
  go_wp2_with (go_at_call 15; refine HF.out.mono ?_; rintro e w1 ⟨rfl, hb⟩; have HB := Lib.hid hb; clear hb)
  go_ret2
  exact ⟨rfl, HB.out⟩

/-- The shorter row is laid into the fabric. -/
theorem take_set {d : FV} {w w1 w2 : World} {p : Nat} (h : d.In w) (hp : p < d.l.length) (hb : Below w.heap.size w w1) (hm : MsO w2 d.A (d.l.eraseIdx p) d.c) (ho : Only (fun k => blk d.A = some k) w1 w2) (v : Value) :
    (w2.cell? ⟨d.b, 1, none⟩ = some (.slice d.A d.l.length d.c) ∧ w2.frozen? ⟨d.b, 1, none⟩ = false) ∧ d.Turned w (d.l.eraseIdx p) v (.returned v) (w2.setCell ⟨d.b, 1, none⟩ (.slice d.A (d.l.length - 1) d.c)) := by
  have k1 := h.keeps hb
  have hne : ¬ blk d.A = some d.b := fun e => h.ne e rfl
  have row2 := k1.box.only ho hne
  have o3 : Only (· = d.b) w2 (w2.setCell ⟨d.b, 1, none⟩ (.slice d.A (d.l.length - 1) d.c)) := (Only.refl (· = d.b) w2).setCell (p := ⟨d.b, 1, none⟩) rfl _
  have hle : (d.l.eraseIdx p).length = d.l.length - 1 := by rw [List.length_eraseIdx, if_pos hp]
  refine ⟨⟨row2.cell 1, row2.loose 1⟩, ⟨d.b, d.A, d.c, d.l.eraseIdx p⟩, rfl, rfl, rfl, ⟨?_, hm.only o3 fun k hk e => hne (e ▸ hk)⟩, ?_, fun k hk => .inl hk⟩
  · have := row2.put 1 (.slice d.A (d.l.length - 1) d.c)
    show Row _ d.b _ [.bool true, .slice d.A (d.l.eraseIdx p).length d.c] (0, 0)
    rw [hle]
    exact this
  · have a2 : Only d.mine w w2 := (Only.below hb d.mine).then ho (fun k _ hk => .inr hk)
    exact a2.then o3 (fun k _ hk => .inl hk)

set_option maxRecDepth 100000 in
set_option maxHeartbeats 2000000 in
theorem take_at (d : FV) (f t : Int) (j p : Nat) (w : World) (hd : d.In w) (hL : d.l.length ≤ 100000) (hq : (qs d.l (f, t))[j]? = some (j, p)) (hp : p < d.l.length) :
    Calls Try.prog 7 #[d.ptr, .int .i64 f, .int .i64 t, .int .i64 (j : Int)] w (d.Turned w (d.l.eraseIdx p) (.tuple #[.string d.l[p].2, .int .i64 0])) := by
  have HF := Lib.hid (find_yes d (f, t) j p w hd (by omega) hq)
  have HC := Lib.hid (fun w1 (hb : Below w.heap.size w w1) => (hd.keeps hb).c1)
  have HT := Lib.hid (fun w1 (hb : Below w.heap.size w w1) => (hd.keeps hb).ms.cells hp)
  have HD := Lib.hid (fun w1 (hb : Below w.heap.size w w1) => delete_any w1 d.A d.l d.l.length d.c p (hd.keeps hb).ms rfl hp (by omega))
  have HS := Lib.hid (fun w1 w2 hb hm ho => take_set (w1 := w1) (w2 := w2) hd hp hb hm ho (.tuple #[.string d.l[p].2, .int .i64 0]))
  obtain ⟨s, hs⟩ : ∃ s, d.l[p].2 = s := ⟨_, rfl⟩
  simp only [hs] at HT HS ⊢
  obtain ⟨Q, hQ⟩ : ∃ Q, d.Turned w (d.l.eraseIdx p) (.tuple #[.string s, .int .i64 0]) = Q := ⟨_, rfl⟩
  simp only [hQ] at HS ⊢
  obtain ⟨E, hE⟩ : ∃ E, d.l.eraseIdx p = E := ⟨_, rfl⟩
  simp only [hE] at HD HS
  obtain ⟨n, hn⟩ : ∃ n, d.l.length = n := ⟨_, rfl⟩
  simp only [hn] at HC HD HS hp hL
  rw [show (((p + 1 : Nat)) : Int) = (p : Int) + 1 by omega] at HD
  have hpI : (p : Int) < (n : Int) := by omega
  have hnI : (n : Int) ≤ 100000 := by omega
  unfold wayV at HF
  unfold FV.ptr at HF ⊢
  simp only at HF
  clear hd hq hQ hE hn hs
  go_enter Try.func7, Try.ntmps7
  go_wp2_with fail
  refine HF.out.mono ?_
  rintro e w1 ⟨rfl, hb⟩
  have HB := Lib.hid hb
  have hc1 := HC.out w1 hb
  obtain ⟨g, hA, -, -, -, hc2⟩ := HT.out w1 hb
  have HD1 := Lib.hid (HD.out w1 hb)
  clear hb HC HT HD
  rw [hA] at hc1 HD1
  go_wp2_with (go_at_call 16; refine HD1.out.mono ?_; rintro e w2 ⟨rfl, hm, ho⟩; rw [← hA] at hm ho; obtain ⟨⟨p1, p2⟩, p3⟩ := HS.out w1 w2 HB.out hm ho; rw [hA] at p1 p3; have HP3 := Lib.hid p3; clear hm ho p3)
  exact HP3.out

set_option maxRecDepth 100000 in
set_option maxHeartbeats 2000000 in
theorem double_at (d : FV) (f t : Int) (j p : Nat) (w : World) (hd : d.In w) (hL : d.l.length ≤ 100000) (hq : (qs d.l (f, t))[j]? = some (j, p)) (hp : p < d.l.length) :
    Calls Try.prog 9 #[d.ptr, .int .i64 f, .int .i64 t, .int .i64 (j : Int)] w (d.Turned w (addL d.l d.l[p]) (.int .i64 (addE d.l d.l[p]))) := by
  have HF := Lib.hid (find_yes d (f, t) j p w hd (by omega) hq)
  have HC := Lib.hid (fun w1 (hb : Below w.heap.size w w1) => (hd.keeps hb).c1)
  have HT := Lib.hid (fun w1 (hb : Below w.heap.size w w1) => (hd.keeps hb).ms.cells hp)
  have HA := Lib.hid (fun w1 (hb : Below w.heap.size w w1) => (add_any d d.l[p] w1 (hd.keeps hb) hL).mono fun e w' hh => hh.after hb)
  obtain ⟨m, hm⟩ : ∃ m, d.l[p] = m := ⟨_, rfl⟩
  simp only [hm] at HT HA ⊢
  obtain ⟨Q, hQ⟩ : ∃ Q, d.Turned w (addL d.l m) (.int .i64 (addE d.l m)) = Q := ⟨_, rfl⟩
  have HE := Lib.hid (show ∀ e w', d.Turned w (addL d.l m) (.int .i64 (addE d.l m)) e w' → ∃ v, e = .returned v ∧ Q (.returned v) w' from fun e w' hh => by
    have hh' := hh
    obtain ⟨d', h1, _⟩ := hh
    rw [hQ] at hh'
    exact ⟨_, h1, h1 ▸ hh'⟩)
  rw [hQ]
  have HA2 := Lib.hid (fun w1 (hb : Below w.heap.size w w1) => (HA.out w1 hb).mono fun e w' hh => HE.out e w' hh)
  clear HA HE
  obtain ⟨n, hn⟩ : ∃ n, d.l.length = n := ⟨_, rfl⟩
  simp only [hn] at HC hp hL
  have hpI : (p : Int) < (n : Int) := by omega
  obtain ⟨⟨mf, mt⟩, ms⟩ := m
  unfold mV at HA2
  unfold wayV at HF
  unfold FV.ptr at HF HA2 ⊢
  simp only at HF HA2 HT
  clear hd hq hQ hn hm
  go_enter Try.func9, Try.ntmps9
  go_wp2_with fail
  refine HF.out.mono ?_
  rintro e w1 ⟨rfl, hb⟩
  have hc1 := HC.out w1 hb
  obtain ⟨g, hA, -, k0, k1, k2⟩ := HT.out w1 hb
  have HA3 := Lib.hid (HA2.out w1 hb)
  clear hb HC HT HA2
  rw [hA] at hc1
  go_wp2_with (go_at_call 13; refine HA3.out.mono ?_; rintro e w2 ⟨v, rfl, hq⟩)
  exact hq

/-- Taken by its index: the text is the queue's; the queue is without it. -/
theorem take_yes (d : FV) (f t : Int) (j : Nat) (w : World) (hd : d.In w) (hL : d.l.length ≤ 100000) (hj : j < (qu d.l (f, t)).length) :
    ∃ l', qu l' (f, t) = (qu d.l (f, t)).eraseIdx j ∧ l'.length ≤ d.l.length ∧ Calls Try.prog 7 #[d.ptr, .int .i64 f, .int .i64 t, .int .i64 (j : Int)] w (d.Turned w l' (.tuple #[.string (qu d.l (f, t))[j], .int .i64 0])) := by
  obtain ⟨p, hq, hp, _, h2, h3⟩ := qs_place d.l (f, t) j hj
  refine ⟨d.l.eraseIdx p, h3, ?_, ?_⟩
  · rw [List.length_eraseIdx, if_pos hp]; omega
  · rw [← h2]
    exact take_at d f t j p w hd hL hq hp
end Go.Proofs.Ytamanckcnhhaiaa
