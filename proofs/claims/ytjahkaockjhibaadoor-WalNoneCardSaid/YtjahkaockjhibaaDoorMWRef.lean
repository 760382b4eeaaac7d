/-
  The document's log as its code keeps it, and its short calls.
-/
import Derived.Test.YtjahkaockjhibaaDoorMWDoc
namespace Go.Proofs.YtjahkaockjhibaaDoor
open Go.RowKit

/-- A row of records of its own. -/
def OwnE (w : World) (A : Option Addr) (l : List Ent) (c : Nat) : Prop := w.ownsRow 0 48 3 (.slice A l.length c) l.length (ents l)
section
variable {w0 w w' : World} {A : Option Addr} {l : List Ent} {c : Nat} {F : Nat → Prop}
theorem OwnE.ents (h : OwnE w A l c) : Ents w A l := Ents.of_own h
theorem OwnE.at_block (h : OwnE w A l c) : ∀ k, blk A = some k → ∃ cs : List Value, Row w k 48 cs (0, 0) := by
  intro k hk
  rcases h.2 with ⟨hv, _⟩ | ⟨g, cap, cur, hv, h1, hr, rest⟩
  · simp only [Value.slice.injEq] at hv
    rw [hv.1] at hk; cases hk
  · simp only [Value.slice.injEq] at hv
    rw [hv.1] at hk
    injection hk with hk
    subst hk
    exact ⟨cur.toList, hr⟩
theorem OwnE.lt (h : OwnE w A l c) : ∀ k, blk A = some k → k < w.heap.size := fun k hk => (h.at_block k hk).elim fun _ h => h.lt
theorem OwnE.only (h : OwnE w A l c) (ho : Only F w w') (hF : ∀ k, blk A = some k → ¬ F k) : OwnE w' A l c := by
  refine ⟨h.1, ?_⟩
  rcases h.2 with h0 | ⟨g, cap, cur, hv, h1, hr, rest⟩
  · exact .inl h0
  · refine .inr ⟨g, cap, cur, hv, h1, Row.only (cs := cur.toList) hr ho (hF g ?_), rest⟩
    simp only [Value.slice.injEq] at hv
    rw [hv.1]; rfl
theorem OwnE.keeps (h : OwnE w A l c) (hb : Below w.heap.size w w') : OwnE w' A l c := h.only (Only.below hb fun _ => False) fun _ _ hf => hf
theorem OwnE.of_gr (h : GrE w0 l (.slice A l.length c) w) : OwnE w A l c := by
  refine ⟨h.1.1, ?_⟩
  rcases h.1.2 with h0 | ⟨k, cap, cur, hv, _, rest⟩
  · exact .inl h0
  · exact .inr ⟨k, cap, cur, hv, Nat.zero_le _, rest⟩
theorem OwnE.none (w : World) : OwnE w none [] 0 := World.ownsRow_nil _ _ _ _
end

/-- The document's log: its block, its tape's and its tape, its row, and the plain log that it is. -/
structure RL where
  B : Nat
  T : Nat
  r : RT
  A : Option Addr
  c : Nat
  g : LG
namespace RL
def ptr (d : RL) : Value := .pointer (some ⟨d.B, 0, none⟩)
def cells (d : RL) : List Value := [rptr d.T, .slice d.A d.g.l.length d.c, .int .u64 (d.g.last : Int), .int .u64 (d.g.stable : Int)]
def mine (d : RL) (k : Nat) : Prop := k = d.B ∨ k = d.T ∨ blk d.A = some k
structure In (d : RL) (w : World) : Prop where
  row : Row w d.B 95 d.cells (0, 0)
  tape : RIn d.T d.r w
  st : d.r.st = d.g.st
  own : OwnE w d.A d.g.l d.c
  ok : d.g.Ok
section
variable {d : RL} {w w' : World} {F : Nat → Prop}
theorem In.mineLt (h : d.In w) : ∀ k, d.mine k → k < w.heap.size := by
  rintro k (rfl | rfl | hk)
  · exact h.row.lt
  · exact h.tape.row.lt
  · exact h.own.lt k hk
theorem In.bt (h : d.In w) : d.B ≠ d.T := h.row.ne_ h.tape.row (by decide)
theorem In.ba (h : d.In w) : ∀ k, blk d.A = some k → k ≠ d.B := fun k hk e => by
  obtain ⟨cs, hr⟩ := h.own.at_block k hk
  exact hr.ne_ h.row (by decide) e
theorem In.ta (h : d.In w) : ∀ k, blk d.A = some k → k ≠ d.T := fun k hk e => by
  obtain ⟨cs, hr⟩ := h.own.at_block k hk
  exact hr.ne_ h.tape.row (by decide) e
theorem In.only (h : d.In w) (ho : Only F w w') (hF : ∀ k, d.mine k → ¬ F k) : d.In w' := ⟨h.row.only ho (hF _ (.inl rfl)), h.tape.only ho (hF _ (.inr (.inl rfl))), h.st, h.own.only ho fun k hk => hF k (.inr (.inr hk)), h.ok⟩
theorem In.keeps (h : d.In w) (hb : Below w.heap.size w w') : d.In w' := h.only (Only.below hb fun _ => False) fun _ _ hf => hf
theorem In.drewN (h : d.In w) (n : Nat) : d.In (w.drewN n) := h.keeps ⟨rfl, rfl, rfl, Nat.le_refl _, fun _ _ => rfl⟩
theorem In.drew (h : d.In w) : d.In w.drew := h.keeps ⟨rfl, rfl, rfl, Nat.le_refl _, fun _ _ => rfl⟩
theorem In.c0 (h : d.In w) : w.cell? ⟨d.B, 0, none⟩ = some (.pointer (some ⟨d.T, 0, none⟩)) := h.row.cell 0
theorem In.c1 (h : d.In w) : w.cell? ⟨d.B, 1, none⟩ = some (.slice d.A d.g.l.length d.c) := h.row.cell 1
theorem In.c2 (h : d.In w) : w.cell? ⟨d.B, 2, none⟩ = some (.int .u64 (d.g.last : Int)) := h.row.cell 2
theorem In.c3 (h : d.In w) : w.cell? ⟨d.B, 3, none⟩ = some (.int .u64 (d.g.stable : Int)) := h.row.cell 3
theorem In.free (h : d.In w) (i : Nat) : w.frozen? ⟨d.B, i, none⟩ = false := h.row.loose i
end
/-- What a call that turns it does. -/
def Turned (d : RL) (w : World) (g' : LG) (a : Value) (e : Ending) (w' : World) : Prop :=
  ∃ d' : RL, e = .returned a ∧ d'.B = d.B ∧ d'.T = d.T ∧ d'.g = g' ∧ d'.In w' ∧ Only d.mine w w' ∧ ∀ k, d'.mine k → d.mine k ∨ w.heap.size ≤ k
end RL

section
variable (d : RL) (w : World)
set_option maxRecDepth 100000 in
theorem rwforce_any (h : d.In w) : Calls Tryd.prog 19 #[d.ptr] w (d.Turned w d.g.force (.tuple #[])) := by
  have HT := Lib.hid (rforce_any d.T d.r w h.tape)
  have c0 := h.c0
  have HF := Lib.hid (show ∀ (r' : RT) w1, RIn d.T r' w1 → r'.st = d.r.st.force → Only (· = d.T) w w1 → w1.cell? ⟨d.B, 2, none⟩ = some (.int .u64 (d.g.last : Int)) ∧ w1.cell? ⟨d.B, 3, none⟩ = some (.int .u64 (d.g.stable : Int)) ∧ w1.frozen? ⟨d.B, 3, none⟩ = false ∧ d.Turned w d.g.force (.tuple #[]) (.returned (.tuple #[])) (w1.setCell ⟨d.B, 3, none⟩ (.int .u64 (d.g.last : Int))) from fun r' w1 h1 h2 h3 => by
    have hr := h.row.only h3 h.bt
    refine ⟨hr.cell 2, hr.cell 3, hr.loose 3, ⟨d.B, d.T, r', d.A, d.c, d.g.force⟩, rfl, rfl, rfl, rfl, ⟨hr.put 3 _, ⟨h1.row.far (fun e => h.bt e.symm) _, h1.ok⟩, by rw [h2, h.st]; rfl, ?_, h.ok.force⟩, (h3.imp fun k _ hk => .inr (.inl hk)).setCell (.inl rfl) _, fun k hk => .inl hk⟩
    exact (h.own.only h3 h.ta).only ((Only.refl (· = d.B) w1).setCell rfl _) h.ba)
  obtain ⟨P, hP⟩ : ∃ P, d.Turned w d.g.force (.tuple #[]) = P := ⟨_, rfl⟩
  simp only [hP] at HF ⊢
  clear hP h
  unfold RL.ptr
  unfold rptr at HT
  go_enter Tryd.func19, Tryd.ntmps19
  go_wp2_with fail
  refine HT.out.mono ?_
  rintro e w1 ⟨rfl, r', h1, h2, h3⟩
  obtain ⟨k2, k3, k4, hf⟩ := HF.out r' w1 h1 h2 h3
  have HE := Lib.hid hf
  clear hf HF h1 h2 h3
  go_wp2
  exact bodyPost_ret (v := .tuple #[]) (by simp [results, Tryd.results19, go_sem]) rfl HE.out

set_option maxRecDepth 100000 in
theorem rwfirst_any (h : d.In w) : Calls Tryd.prog 47 #[d.ptr] w fun e w' => e = .returned (.int .u64 (d.g.first : Int)) ∧ w = w' := by
  have c1 := h.c1
  have hmax := h.ok.max
  rcases d with ⟨B, T, r, A, c, st, l, last, stable⟩
  unfold RL.ptr
  dsimp only at *
  cases l with
  | nil =>
    clear h hmax
    go_enter Tryd.func47, Tryd.ntmps47
    go_wp2
    go_ret
    exact ⟨rfl, rfl⟩
  | cons x l =>
    obtain ⟨g, off, hA, hg, h1, _, _⟩ := h.own.ents.at_ 0 (by simp)
    simp only at hA
    subst hA
    clear h hmax
    have hl : ((x :: l).length : Int) = (l.length : Int) + 1 := by simp
    have hl0 : ¬ ((x :: l).length : Int) = 0 := by omega
    have hl1 : (0 : Int) < ((x :: l).length : Int) := by omega
    have HF : (⟨st, x :: l, last, stable⟩ : LG).first = x.n := rfl
    rw [HF]
    simp only [List.getElem_cons_zero, Nat.zero_mul, Nat.add_zero] at h1
    generalize (x :: l).length = n at *
    clear HF hl
    go_enter Tryd.func47, Tryd.ntmps47
    go_wp2
    go_ret
    exact ⟨rfl, rfl⟩
end
end Go.Proofs.YtjahkaockjhibaaDoor

/-
  The document's log: From, Get, Same.
-/
namespace Go.Proofs.YtjahkaockjhibaaDoor
open Go.RowKit

theorem logB_many (l : List Ent) : 21 * l.length ≤ (logB l).length := by
  induction l with
  | nil => exact Nat.le_refl _
  | cons e l ih => rw [logB_cons, List.length_append, one_recE, List.length_cons]; omega
theorem LG.Ok.count {g : LG} (h : g.Ok) : g.l.length ≤ 5000000 := by
  have h1 := logB_many g.l
  rw [← h.bytes] at h1
  have h2 := h.st.small
  unfold ST.fin at h2
  omega
theorem row1_mem {l : List Ent} {n : Nat} (h : Row1 n l) (i : Nat) (hi : i < l.length) : l[i].n = n + i := row1_get h i hi
theorem LG.Ok.num {g : LG} (h : g.Ok) (i : Nat) (hi : i < g.l.length) : g.l[i].n = g.last + 1 - g.l.length + i ∧ g.l[i].n ≤ 281474976710656 := by
  have h1 := row1_get h.row i hi
  have h2 := h.le
  have h3 := h.max
  exact ⟨h1, by omega⟩
/-- The row, as it stands for whoever has made nothing but new. -/
theorem RL.In.at_ {d : RL} {w w' : World} (h : d.In w) (hb : Below w.heap.size w w') (i : Nat) (hi : i < d.g.l.length) : ∃ g off, d.A = some ⟨g, off, none⟩ ∧ w'.cell? ⟨g, off + i * 3, none⟩ = some (.int .u64 (d.g.l[i].n : Int)) ∧ w'.cell? ⟨g, off + i * 3 + 1, none⟩ = some (.int .u8 (d.g.l[i].k.toNat : Int)) ∧ w'.cell? ⟨g, off + i * 3 + 2, none⟩ = some (.string (tb d.g.l[i].d)) := by
  obtain ⟨g, off, h1, _, h2⟩ := (h.keeps hb).own.ents.at_ i hi
  exact ⟨g, off, h1, h2⟩

def FromV (g : LG) (n : Nat) (w : World) (e : Ending) (w' : World) : Prop := ∃ (A : Option Addr) (c : Nat), e = .returned (.slice A (g.from_ n).length c) ∧ GrE w (g.from_ n) (.slice A (g.from_ n).length c) w' ∧ (g.from_ n).length ≤ c ∧ (A = none → c = 0)

section
variable (d : RL) (w : World)
set_option maxRecDepth 100000 in
set_option maxHeartbeats 1000000 in
theorem rwfrom_row (B : Nat) (A : Option Addr) (c : Nat) (l : List Ent) (v0 v2 v3 : Value) (w : World) (n : Nat) (hrow : Row w B 95 [v0, .slice A l.length c, v2, v3] (0, 0)) (hown : OwnE w A l c) (hcount : l.length ≤ 5000000) :
    Calls Tryd.prog 17 #[.pointer (some ⟨B, 0, none⟩), .int .u64 (n : Int)] w fun e w' => ∃ (A : Option Addr) (c : Nat), e = .returned (.slice A (l.filter fun e => decide (n ≤ e.n)).length c) ∧ GrE w (l.filter fun e => decide (n ≤ e.n)) (.slice A (l.filter fun e => decide (n ≤ e.n)).length c) w' ∧ (l.filter fun e => decide (n ≤ e.n)).length ≤ c ∧ (A = none → c = 0) := by
  have HC := Lib.hid (fun w' (hb : Below w.heap.size w w') => show w'.cell? ⟨B, 1, none⟩ = some (.slice A l.length c) from (hrow.below hb hrow.lt).cell 1)
  have HA := Lib.hid (show ∀ w', Below w.heap.size w w' → ∀ i (hi : i < l.length), ∃ g off, A = some ⟨g, off, none⟩ ∧ w'.cell? ⟨g, off + i * 3, none⟩ = some (.int .u64 (l[i].n : Int)) ∧ w'.cell? ⟨g, off + i * 3 + 1, none⟩ = some (.int .u8 (l[i].k.toNat : Int)) ∧ w'.cell? ⟨g, off + i * 3 + 2, none⟩ = some (.string (tb l[i].d)) from fun w' hb i hi => by
    obtain ⟨g, off, h1, _, h2⟩ := (hown.keeps hb).ents.at_ i hi
    exact ⟨g, off, h1, h2⟩)
  clear hrow hown
  obtain ⟨Q, hQ⟩ : ∃ Q : Ending → World → Prop, (fun e w' => ∃ (A : Option Addr) (c : Nat), e = .returned (.slice A (l.filter fun e => decide (n ≤ e.n)).length c) ∧ GrE w (l.filter fun e => decide (n ≤ e.n)) (.slice A (l.filter fun e => decide (n ≤ e.n)).length c) w' ∧ (l.filter fun e => decide (n ≤ e.n)).length ≤ c ∧ (A = none → c = 0)) = Q := ⟨_, rfl⟩
  have HE := Lib.hid (show ∀ (A : Option Addr) (c : Nat) w' (m : Nat), (l.filter fun e => decide (n ≤ e.n)).length = m → GrE w (l.filter fun e => decide (n ≤ e.n)) (.slice A m c) w' → m ≤ c → (A = none → c = 0) → Q (.returned (.slice A m c)) w' from fun A c w' m hm h1 h2 h3 => by subst hm; rw [← hQ]; exact ⟨A, c, rfl, h1, h2, h3⟩)
  rw [hQ]
  clear hQ
  go_enter Tryd.func17, Tryd.ntmps17
  go_wp2_with fail
  go_loopw [5, 6] (fun vo vi wr => ∃ (i : Nat), i ≤ l.length ∧ vi = .int .i64 i ∧ GrE w ((l.take i).filter fun e => decide (n ≤ e.n)) vo wr) (fun _ vi _ => l.length - (intOf vi).toNat)
  case atStart => exact ⟨0, by omega, rfl, GrE.nil (Below.refl _ _)⟩
  case round =>
    obtain ⟨i, hi, rfl, hg⟩ := hrel
    obtain ⟨Ao, co, rfl, hco, hao⟩ := hg.slot
    have c1 := HC.out wr hg.2
    have HG := Lib.hid hg
    have hml : ((l.take i).filter fun e => decide (n ≤ e.n)).length ≤ 5000000 := Nat.le_trans (List.length_filter_le _ _) (by rw [List.length_take]; omega)
    obtain ⟨m, hm⟩ : ∃ m, ((l.take i).filter fun e => decide (n ≤ e.n)).length = m := ⟨_, rfl⟩
    rw [hm] at hml hco HG ⊢
    by_cases hlt : i < l.length
    · obtain ⟨g, off, hA, c2, c3, c4⟩ := HA.out wr hg.2 i hlt
      have htk : l.take (i + 1) = l.take i ++ [l[i]] := (List.take_append_getElem hlt).symm
      have HS := Lib.hid (show (l.take (i + 1)).filter (fun e => decide (n ≤ e.n)) = (l.take i).filter (fun e => decide (n ≤ e.n)) ++ if n ≤ (l[i]).n then [l[i]] else [] from by
        rw [htk, List.filter_append]
        by_cases hx : n ≤ (l[i]).n <;> simp [hx])
      have hiI : (i : Int) < (l.length : Int) := by omega
      subst hA
      obtain ⟨x, hx⟩ : ∃ x, l[i] = x := ⟨_, rfl⟩
      rw [hx] at c2 c3 c4 HS
      clear hg hx htk hco hao
      have hk : i + 1 ≤ l.length := hlt
      obtain ⟨N, hN⟩ : ∃ N, l.length = N := ⟨_, rfl⟩
      by_cases hge : n ≤ x.n
      · have hgeD : decide ((x.n : Int) ≥ (n : Int)) = true := decide_eq_true (by omega)
        have hgeI : (n : Int) ≤ (x.n : Int) := by omega
        rw [if_pos hge] at HS
        have HGA := Lib.hid (HG.out.alloc (.cells (entC x).toArray 48))
        have HNA := Lib.hid (new_ent wr 48 x)
        have hlm : ((l.take i).filter fun e => decide (n ≤ e.n)).length ≤ 5000000 := hm ▸ hml
        clear hge
        go_wp2_with (at_builtin; refine wpList_ent x rfl (.tmp 26) (.tmp 34) rfl rfl HGA.out ⟨wr.heap.size, 0, none⟩ 1 rfl HNA.out hlm ?_)
        intro v8 w8 hg8 _
        have HG9 := Lib.hid hg8
        clear hg8 HGA HNA
        go_wp2
        go_roundw
        case rel => exact ⟨i + 1, hk, by go_num, by rw [HS.out]; exact HG9.out⟩
        case measure => simp [intOf]; omega
      · have hgeI : ¬ (n : Int) ≤ (x.n : Int) := by omega
        rw [if_neg hge, List.append_nil] at HS
        clear hge
        go_wp2
        go_roundw
        case rel => exact ⟨i + 1, hk, by go_num, by rw [HS.out]; exact HG.out⟩
        case measure => simp [intOf]; omega
    · obtain rfl : i = l.length := by omega
      have hno : ¬ (l.length : Int) < (l.length : Int) := by omega
      rw [List.take_length] at hm HG
      have HQ := Lib.hid (HE.out Ao co wr m hm HG.out hco hao)
      clear HE HG hg hao hco HA HC hlt hi hm
      go_wp2
      exact HQ.out

theorem rwfrom_any (n : Nat) (h : d.In w) : Calls Tryd.prog 17 #[d.ptr, .int .u64 (n : Int)] w (FromV d.g n w) := rwfrom_row d.B d.A d.c d.g.l (rptr d.T) (.int .u64 (d.g.last : Int)) (.int .u64 (d.g.stable : Int)) w n h.row h.own h.ok.count

theorem results_cell_tmp {P : Program} {fn : Func} {p q : Tmp} {ty : TypeId} (h : fn.results = #[.cell p ty, .tmp q]) (tmps : Array Value) (w : World) (g : Nat) (t : TypeId) (cs : Array Value) (fr : Nat × Nat) (d : TypeDesc) (v : Value)
    (hp : tmps.getD p undef = .pointer (some ⟨g, 0, none⟩)) (hq : tmps.getD q undef = v) (hg : w.heap[g]? = some (.cells cs t fr))
    (hu : P.underlying ty = some d) (hd : (match d with | .struct _ | .array _ _ => true | _ => false) = true) (hi : (P.info? ty).map (·.size) = some cs.size) :
    (results fn tmps).run P w = .ok (.tuple #[.agg cs, v]) w := by
  have hp' : tmps[p]?.getD undef = .pointer (some ⟨g, 0, none⟩) := by simpa using hp
  have hq' : tmps[q]?.getD undef = v := by simpa using hq
  simp [results, h, hp', hq', asAddr, run_loadVar_row w g t ty cs fr d hg hu hd hi]

theorem Tryd.size_ent : (Tryd.prog.info? 48).map (·.size) = some 3 := by kernel_rfl

theorem ent_new (t : TypeId) : Row (w.alloc (.cells #[.int .u64 0, .int .u8 0, .string ⟨#[]⟩] t)) w.heap.size t [.int .u64 0, .int .u8 0, .string ⟨#[]⟩] (0, 0) := Row.new w t [.int .u64 0, .int .u8 0, .string ⟨#[]⟩] (0, 0)

set_option maxRecDepth 100000 in
set_option maxHeartbeats 1000000 in
theorem rwget_any (n : Nat) (h : d.In w) : Calls Tryd.prog 26 #[d.ptr, .int .u64 (n : Int)] w fun e w' => e = .returned (match d.g.get n with | some x => .tuple #[entV x, .int .i64 0] | none => .tuple #[entV ⟨0, 0, []⟩, .int .i64 7]) ∧ Below w.heap.size w w' := by
  have HC := Lib.hid (fun w' (hb : Below w.heap.size w w') => (h.keeps hb).c1)
  have HA := Lib.hid (fun w' (hb : Below w.heap.size w w') i hi => h.at_ hb i hi)
  have hcount := h.ok.count
  unfold LG.get
  clear h
  rcases d with ⟨B, T, r, A, c, st, l, last, stable⟩
  unfold RL.ptr
  dsimp only at *
  obtain ⟨v, hv⟩ : ∃ v : Value, (match l.find? (fun e => e.n == n) with | some x => Value.tuple #[entV x, .int .i64 0] | none => .tuple #[entV ⟨0, 0, []⟩, .int .i64 7]) = v := ⟨_, rfl⟩
  have HVS := Lib.hid (show ∀ x, l.find? (fun e => e.n == n) = some x → v = .tuple #[entV x, .int .i64 0] from fun x hx => by rw [← hv, hx])
  have HVN := Lib.hid (show l.find? (fun e => e.n == n) = none → v = .tuple #[.agg #[.int .u64 0, .int .u8 0, .string ⟨#[]⟩], .int .i64 7] from fun hx => by rw [← hv, hx]; rfl)
  rw [hv]
  clear hv
  go_enter Tryd.func26, Tryd.ntmps26
  go_wp2_with fail
  obtain ⟨wa, hwa⟩ : ∃ wa, w.alloc (.cells #[.int .u64 0, .int .u8 0, .string ⟨#[]⟩] 48) = wa := ⟨_, rfl⟩
  have HR0 := Lib.hid (show Row wa w.heap.size 48 [.int .u64 0, .int .u8 0, .string ⟨#[]⟩] (0, 0) from hwa ▸ ent_new w _)
  have HB0 := Lib.hid (show Below w.heap.size w wa from hwa ▸ (Below.refl _ _).alloc (Nat.le_refl _) _)
  try rw [hwa]
  clear hwa
  go_loopw [6] (fun vi wr => ∃ (i : Nat), i ≤ l.length ∧ vi = .int .i64 i ∧ l.find? (fun e => e.n == n) = (l.drop i).find? (fun e => e.n == n) ∧ Row wr w.heap.size 48 [.int .u64 0, .int .u8 0, .string ⟨#[]⟩] (0, 0) ∧ Below w.heap.size w wr) (fun vi _ => l.length - (intOf vi).toNat)
  case atStart => exact ⟨0, by omega, rfl, by simp, HR0.out, HB0.out⟩
  case round =>
    obtain ⟨i, hi, rfl, hf, hrw, hb⟩ := hrel
    have c1 := HC.out wr hb
    have HRW := Lib.hid hrw
    have HB := Lib.hid hb
    have b0 := hrw.cell 0
    have b1 := hrw.cell 1
    have b2 := hrw.cell 2
    have f0 := hrw.loose 0
    have f1 := hrw.loose 1
    have f2 := hrw.loose 2
    simp only [List.getElem?_cons_zero, List.getElem?_cons_succ] at b0 b1 b2
    by_cases hlt : i < l.length
    · obtain ⟨g, off, hA, c2, c3, c4⟩ := HA.out wr hb i hlt
      have hiI : (i : Int) < (l.length : Int) := by omega
      have hk : i + 1 ≤ l.length := hlt
      subst hA
      have hd : l.drop i = l[i] :: l.drop (i + 1) := List.drop_eq_getElem_cons hlt
      rw [hd, List.find?_cons] at hf
      obtain ⟨x, hx⟩ : ∃ x, l[i] = x := ⟨_, rfl⟩
      rw [hx] at c2 c3 c4 hf
      clear hrw hb hd hx
      by_cases he : x.n = n
      · have heB : ((x.n : Int) == (n : Int)) = true := by rw [he]; simp
        rw [show (x.n == n) = true by rw [he]; simp] at hf
        obtain rfl := HVS.out x hf
        have HW := Lib.hid (show ∀ W', W' = ((wr.setCell ⟨w.heap.size, 0, none⟩ (.int .u64 (x.n : Int))).setCell ⟨w.heap.size, 1, none⟩ (.int .u8 (x.k.toNat : Int))).setCell ⟨w.heap.size, 2, none⟩ (.string (tb x.d)) → Row W' w.heap.size 48 [.int .u64 (x.n : Int), .int .u8 (x.k.toNat : Int), .string (tb x.d)] (0, 0) ∧ Below w.heap.size w W' from fun W' e => by
          subst e
          exact ⟨((HRW.out.put 0 _).put 1 _).put 2 _, ((HB.out.setCell (Nat.le_refl _) _).setCell (Nat.le_refl _) _).setCell (Nat.le_refl _) _⟩)
        clear he hf HVS HVN HC HA
        go_wp2
        obtain ⟨hr, hbb⟩ := HW.out _ rfl
        exact bodyPost_ret (v := .tuple #[entV x, .int .i64 0]) (results_cell_tmp (by rfl) _ _ w.heap.size _ _ (0, 0) _ _ (by rfl) (by rfl) hr Tryd.underlying48 rfl Tryd.size_ent) rfl ⟨rfl, hbb⟩
      · have heB : ((x.n : Int) == (n : Int)) = false := beq_eq_false_iff_ne.2 (by omega)
        have heI : ¬ (x.n : Int) = (n : Int) := by omega
        rw [show (x.n == n) = false from beq_eq_false_iff_ne.2 he] at hf
        have HFN := Lib.hid hf
        clear he hf
        go_wp2
        go_roundw
        case rel => exact ⟨i + 1, hk, by go_num, HFN.out, HRW.out, HB.out⟩
        case measure => simp [intOf]; omega
    · obtain rfl : i = l.length := by omega
      have hno : ¬ (l.length : Int) < (l.length : Int) := by omega
      rw [List.drop_length, List.find?_nil] at hf
      obtain rfl := HVN.out hf
      have HW := Lib.hid (show ∀ W', W' = ((wr.setCell ⟨w.heap.size, 0, none⟩ (.int .u64 0)).setCell ⟨w.heap.size, 1, none⟩ (.int .u8 0)).setCell ⟨w.heap.size, 2, none⟩ (.string ⟨#[]⟩) → Row W' w.heap.size 48 [.int .u64 0, .int .u8 0, .string ⟨#[]⟩] (0, 0) ∧ Below w.heap.size w W' from fun W' e => by
        subst e
        exact ⟨((HRW.out.put 0 _).put 1 _).put 2 _, ((HB.out.setCell (Nat.le_refl _) _).setCell (Nat.le_refl _) _).setCell (Nat.le_refl _) _⟩)
      clear hf hrw hb hlt hi HVS HVN HC HA
      go_wp2
      obtain ⟨hr, hbb⟩ := HW.out _ rfl
      exact bodyPost_ret (v := .tuple #[.agg #[.int .u64 0, .int .u8 0, .string ⟨#[]⟩], .int .i64 7]) (results_cell_tmp (by rfl) _ _ w.heap.size _ _ (0, 0) _ _ (by rfl) (by rfl) hr Tryd.underlying48 rfl Tryd.size_ent) rfl ⟨rfl, hbb⟩
end

set_option maxRecDepth 100000 in
set_option maxHeartbeats 1000000 in
theorem rwsame_any (A B : Option Addr) (a b : List Ent) (c d : Nat) (w : World) (ha : Ents w A a) (hb : Ents w B b) (hn : a.length ≤ 5000000) :
    Calls Tryd.prog 15 #[.slice A a.length c, .slice B b.length d] w fun r w' => r = .returned (.bool (decide (a = b))) ∧ Below w.heap.size w w' := by
  have HA := Lib.hid ha
  have HB := Lib.hid hb
  clear ha hb
  obtain ⟨n, hbn⟩ : ∃ n, b.length = n := ⟨_, rfl⟩
  rw [hbn]
  have HN := Lib.hid hbn
  clear hbn
  by_cases e1 : a.length = n
  · subst e1
    go_enter Tryd.func15, Tryd.ntmps15
    go_wp2
    go_loopw [5] (fun i wr => ∃ k : Nat, k ≤ a.length ∧ i = .int .i64 k ∧ a.take k = b.take k ∧ Below w.heap.size w wr) (fun i _ => a.length - (intOf i).toNat)
    case atStart => exact ⟨0, by omega, rfl, rfl, Below.refl _ _⟩
    case round =>
      obtain ⟨k, hk, rfl, hab, hkp⟩ := hrel
      have HK := Lib.hid hkp
      have HAB := Lib.hid hab
      by_cases hlt : k < a.length
      · have hlt2 : k < b.length := by rw [HN.out]; exact hlt
        obtain ⟨g, off, rfl, _, h1, h2, h3⟩ := (HA.out.keeps hkp).at_ k hlt
        obtain ⟨g2, off2, rfl, _, h4, h5, h6⟩ := (HB.out.keeps hkp).at_ k hlt2
        have HT := Lib.hid (show a.take (k + 1) = b.take (k + 1) ↔ a[k] = b[k] from by
          rw [List.take_succ_eq_append_getElem hlt, List.take_succ_eq_append_getElem hlt2, HAB.out, List.append_cancel_left_eq, List.cons.injEq]; simp only [and_true])
        have HT2 := Lib.hid (show a = b → a[k] = b[k] from fun e => by subst e; rfl)
        obtain ⟨x, hx⟩ : ∃ x, a[k] = x := ⟨_, rfl⟩
        obtain ⟨y, hy⟩ : ∃ y, b[k] = y := ⟨_, rfl⟩
        rw [hx] at h1 h2 h3 HT HT2
        rw [hy] at h4 h5 h6 HT HT2
        clear hkp hab hx hy
        by_cases e3 : x = y
        · subst e3
          go_wp2_with (go_quiet (fail))
          go_wp2
          go_round
          case rel => exact ⟨k + 1, by omega, by go_num, HT.out.2 rfl, (below_draw HK.out _)⟩
          case measure => simp [intOf]; omega
        · have hd : decide (a = b) = false := decide_eq_false (fun e => e3 (HT2.out e))
          obtain ⟨nx, kx, dx⟩ := x
          obtain ⟨ny, ky, dy⟩ := y
          simp only at h1 h2 h3 h4 h5 h6
          by_cases hnn : nx = ny
          · subst hnn
            by_cases hkk : kx = ky
            · subst hkk
              have hne : dx ≠ dy := fun e => e3 (by rw [e])
              have s1 : ¬ tb dx = tb dy := fun e => hne (tb_inj e)
              have s3 : ((tb dx).toList == (tb dy).toList) = false := by rw [beq_eq_false_iff_ne, ByteArray.toList_eq, ByteArray.toList_eq, tb_list, tb_list]; exact hne
              clear hne e3 HT HT2
              go_wp2_with (go_quiet (fail))
              go_wp2
              go_ret
              exact ⟨by rw [hd]; rfl, below_draw HK.out _⟩
            · have s1 : ¬ ((kx.toNat : Int) = (ky.toNat : Int)) := fun e => hkk (UInt8.toNat.inj (by omega))
              have s2 : ((kx.toNat : Int) == (ky.toNat : Int)) = false := by rw [beq_eq_false_iff_ne]; exact s1
              clear e3 HT HT2 hkk
              go_wp2_with (go_quiet (fail))
              go_wp2
              go_ret
              exact ⟨by rw [hd]; rfl, below_draw HK.out _⟩
          · have s1 : ¬ ((nx : Int) = (ny : Int)) := fun e => hnn (by omega)
            have s2 : ((nx : Int) == (ny : Int)) = false := by rw [beq_eq_false_iff_ne]; exact s1
            clear e3 HT HT2 hnn
            go_wp2_with (go_quiet (fail))
            go_wp2
            go_ret
            exact ⟨by rw [hd]; rfl, below_draw HK.out _⟩
      · obtain rfl : k = a.length := by omega
        clear hkp hab
        go_wp2
        go_ret
        have hll : a = b := by
          have := HAB.out
          rwa [List.take_length, ← HN.out, List.take_length] at this
        exact ⟨by rw [decide_eq_true hll]; rfl, HK.out⟩
  · have e3 : ¬ ((a.length : Int) = (n : Int)) := by omega
    go_enter Tryd.func15, Tryd.ntmps15
    go_wp2
    go_ret
    have hd : decide (a = b) = false := decide_eq_false (fun e => e1 (by rw [e, HN.out]))
    exact ⟨by rw [hd]; rfl, Below.refl _ _⟩
end Go.Proofs.YtjahkaockjhibaaDoor

/-
  The document's log: Append.
-/
namespace Go.Proofs.YtjahkaockjhibaaDoor
open Go.RowKit

section
variable {t e : TypeId} {z : Value} {sz bytes : Nat}
/-- One more, onto a row of the call's own. -/
theorem run_onto (ht : Tryd.prog.underlying t = some (.slice e)) (hin : (Tryd.prog.info? e).map (fun i => (i.zero, i.size, i.bytes)) = some (some z, sz, bytes)) (hzs : z.cells.size = sz) (hsz : 0 < sz) (hby : bytes ≤ 64)
    (w : World) (ty : TypeId) (base : Nat) (v : Value) (n : Nat) (xs : List Value) (hown : w.ownsRow base e sz v n xs) (ad : Addr) (c : Nat) (news : List Value) (hl : news.length = sz) (hnews : ∀ j u, news[j]? = some u → w.cell? (ad.add j) = some u) (h1 : ∀ u ∈ news, u.oneCell' = true) (hle : n ≤ 5000000) (hbase : base ≤ w.heap.size) :
    ∃ (g cap : Nat) (w' : World), (Builtin.append_ #[t, t] ty #[v, .slice (some ad) 1 c]).run Tryd.prog w = .ok (.slice (some ⟨g, 0, none⟩) (n + 1) cap) w' ∧ w'.ownsRow base e sz (.slice (some ⟨g, 0, none⟩) (n + 1) cap) (n + 1) (xs ++ news) ∧ w.grownBy w' v.ownBlock ∧ (v.ownBlock = some g ∨ w.heap.size ≤ g) := by
  obtain ⟨i0, hi0, hz0, hz1, hz2⟩ := info_parts hin
  have hb : (n + 1) * bytes ≤ 5000001 * 64 := Nat.mul_le_mul (by omega) hby
  obtain ⟨v', w', hr, h2, h3, h4, h5⟩ := run_append_own_at (P := Tryd.prog) w base t ty e i0 z sz bytes ht hi0 hz0 hz1 hz2 hzs hsz v n xs hown ad 1 c news (by rw [hl, Nat.one_mul]) hnews h1 (by unfold maxLen; omega) (by omega) hbase
  have hv : v' ≠ .slice none 0 0 := fun e => by
    have := (h4.1 e).2
    cases this
  obtain ⟨g, cap, rfl⟩ : ∃ g cap, v' = .slice (some ⟨g, 0, none⟩) (n + 1) cap := by
    rcases h2.2 with ⟨h0, _⟩ | ⟨g, cap, cur, hv', _⟩
    · exact absurd h0 hv
    · exact ⟨g, cap, hv'⟩
  refine ⟨g, cap, w', hr, h2, h3, ?_⟩
  rcases h5 with h5 | h5
  · exact .inl h5.symm
  · have : some g = some w.heap.size := h5
    injection this with this
    exact .inr (by omega)
theorem step_onto {ops : Array Oper} {o : Oper} {a : Act} {w : World} {K : Act → World → Prop} {Q : Exit → Act → World → Prop} {E : Prop} (ht : Tryd.prog.underlying t = some (.slice e)) (hin : (Tryd.prog.info? e).map (fun i => (i.zero, i.size, i.bytes)) = some (some z, sz, bytes)) (hzs : z.cells.size = sz) (hsz : 0 < sz) (hby : bytes ≤ 64)
    (hgd : o.guard = none) (s x : Operand) (ho : o.op = .call { callee := .builtin .append, args := #[s, x], argTypes := #[t, t] }) (base : Nat) (v : Value) (n : Nat) (xs : List Value) (hs : a.eval s = v) (hown : w.ownsRow base e sz v n xs)
    (ad : Addr) (c : Nat) (news : List Value) (hx : a.eval x = .slice (some ad) 1 c) (hl : news.length = sz) (hnews : ∀ j u, news[j]? = some u → w.cell? (ad.add j) = some u) (h1 : ∀ u ∈ news, u.oneCell' = true) (hle : n ≤ 5000000) (hbase : base ≤ w.heap.size)
    (h : ∀ g c' w', w'.ownsRow base e sz (.slice (some ⟨g, 0, none⟩) (n + 1) c') (n + 1) (xs ++ news) → w.grownBy w' v.ownBlock → (v.ownBlock = some g ∨ w.heap.size ≤ g) → K (a.put o.dst (.slice (some ⟨g, 0, none⟩) (n + 1) c')) w') :
    if Region.wanted o (yielded ops a.tmps) = true then Oper.wp Tryd.prog o a w K Q else E := by
  have hw : Region.wanted o (yielded ops a.tmps) = true := by simp [Region.wanted, hgd]
  rw [if_pos hw]
  obtain ⟨g, cap, w', hr, h2, h3, h4⟩ := run_onto ht hin hzs hsz hby w o.type base v n xs hown ad c news hl hnews h1 hle hbase
  unfold Oper.wp execOp
  simp only [ho, resolve, invoke, builtin, Sem.run_bind, Sem.run_pure, Result.andThen_ok, List.map_toArray, List.map_cons, List.map_nil, hs, hx, hr]
  exact h g cap w' h2 h3 h4
end

theorem ownE_snoc {w : World} {A : Option Addr} {l : List Ent} {e : Ent} {c : Nat} (h : w.ownsRow 0 48 3 (.slice A (l.length + 1) c) (l.length + 1) (ents l ++ entC e)) : OwnE w A (l ++ [e]) c := by
  unfold OwnE
  rw [ents_snoc, List.length_append]
  exact h
theorem ownBlock_slice (A : Option Addr) (n c : Nat) : (Value.slice A n c).ownBlock = blk A := by cases A <;> rfl
theorem size_tb (x : List UInt8) : (tb x).size = x.length := tb_size x
theorem txt_tb (x : List UInt8) : txt (tb x) = x := by simp [txt, tb]

/-- What stands behind it. -/
theorem rwput_set {d : RL} {w w1 w2 w4 w5 : World} {r' : RT} {k : UInt8} {x : List UInt8} (h : d.In w) (hc : d.g.can x) (hs : d.g.st.fin + (21 + x.length) ≤ 100000000)
    (hb : Below w.heap.size w w1) (ht : RIn d.T r' w2) (he : r'.st = d.r.st.append (tb (one (recE ⟨d.g.last + 1, k, x⟩)))) (ho : Only (· = d.T) w1 w2)
    (hb4 : Below (w2.setCell ⟨d.B, 2, none⟩ (.int .u64 ((d.g.last + 1 : Nat) : Int))).heap.size (w2.setCell ⟨d.B, 2, none⟩ (.int .u64 ((d.g.last + 1 : Nat) : Int))) w4)
    (g c' : Nat) (hown : OwnE w5 (some ⟨g, 0, none⟩) (d.g.l ++ [⟨d.g.last + 1, k, x⟩]) c') (hg : w4.grownBy w5 (blk d.A)) (hgg : blk d.A = some g ∨ w4.heap.size ≤ g) :
    d.Turned w (d.g.put k x) (.tuple #[.int .u64 ((d.g.last + 1 : Nat) : Int), .int .i64 0]) (.returned (.tuple #[.int .u64 ((d.g.last + 1 : Nat) : Int), .int .i64 0])) (w5.setCell ⟨d.B, 1, none⟩ (.slice (some ⟨g, 0, none⟩) (d.g.l.length + 1) c')) ∧
    (w5.setCell ⟨d.B, 1, none⟩ (.slice (some ⟨g, 0, none⟩) (d.g.l.length + 1) c')).cell? ⟨d.B, 2, none⟩ = some (.int .u64 ((d.g.last + 1 : Nat) : Int)) ∧ w5.cell? ⟨d.B, 1, none⟩ = some (.slice d.A d.g.l.length d.c) ∧ w5.frozen? ⟨d.B, 1, none⟩ = false := by
  have hm := h.mineLt
  have k1 := h.keeps hb
  have row2 := k1.row.only ho h.bt
  have own2 := k1.own.only ho h.ta
  obtain ⟨w3, hw3⟩ : ∃ w3, w2.setCell ⟨d.B, 2, none⟩ (.int .u64 ((d.g.last + 1 : Nat) : Int)) = w3 := ⟨_, rfl⟩
  have oB : Only (· = d.B) w2 w3 := hw3 ▸ (Only.refl (· = d.B) w2).setCell rfl _
  have row3 : Row w3 d.B 95 [rptr d.T, .slice d.A d.g.l.length d.c, .int .u64 ((d.g.last + 1 : Nat) : Int), .int .u64 (d.g.stable : Int)] (0, 0) := hw3 ▸ row2.put 2 _
  have tape3 := ht.only oB (fun e => h.bt e.symm)
  have own3 := own2.only oB h.ba
  rw [hw3] at hb4
  have row4 := row3.below hb4 row3.lt
  have tape4 := tape3.keeps hb4
  have own4 := own3.keeps hb4
  have o5 : Only (fun k => blk d.A = some k) w4 w5 := (Only.refl _ w4).grown hg (fun k hk => hk)
  have row5 := row4.only o5 (fun e => h.ba _ e rfl)
  have tape5 := tape4.only o5 (fun e => h.ta _ e rfl)
  have hgB : g ≠ d.B := by
    obtain ⟨cs, hr⟩ := hown.at_block g rfl
    exact hr.ne_ row5 (by decide)
  have hst : r'.st = (d.g.put k x).st := by
    rw [he, h.st]
    have hf : d.g.st.fits (tb (one (recE ⟨d.g.last + 1, k, x⟩))) := by
      unfold ST.fits
      rw [size_tb, one_recE]
      exact hc.2.2
    rw [ST.append, if_pos hf, txt_tb]
    rfl
  have hsz4 : w.heap.size ≤ w4.heap.size := Nat.le_trans hb.size (Nat.le_trans ho.size (Nat.le_trans oB.size hb4.size))
  refine ⟨⟨⟨d.B, d.T, r', some ⟨g, 0, none⟩, c', d.g.put k x⟩, rfl, rfl, rfl, rfl, ⟨?_, ?_, hst, ?_, h.ok.put k x hc hs⟩, ?_, ?_⟩, ?_, row5.cell 1, row5.loose 1⟩
  · have := row5.put 1 (.slice (some ⟨g, 0, none⟩) (d.g.l.length + 1) c')
    have e : (d.g.put k x).l.length = d.g.l.length + 1 := by show (d.g.l ++ [_]).length = _; simp
    show Row _ d.B _ [rptr d.T, .slice (some ⟨g, 0, none⟩) (d.g.put k x).l.length c', .int .u64 ((d.g.last + 1 : Nat) : Int), .int .u64 (d.g.stable : Int)] (0, 0)
    rw [e]
    exact this
  · exact tape5.only ((Only.refl (· = d.B) w5).setCell rfl _) (fun e => h.bt e.symm)
  · exact hown.only ((Only.refl (· = d.B) w5).setCell rfl _) (fun k hk => by injection hk with hk; subst hk; exact hgB)
  · have a1 : Only d.mine w w2 := (Only.below hb d.mine).then ho (fun k _ hk => .inr (.inl hk))
    have a2 : Only d.mine w w3 := a1.then oB (fun k _ hk => .inl hk)
    have a3 : Only d.mine w w4 := a2.trans (Only.below hb4 d.mine)
    have a4 : Only d.mine w w5 := a3.then o5 (fun k _ hk => .inr (.inr hk))
    exact a4.setCell (.inl rfl) _
  · rintro k (rfl | rfl | hk)
    · exact .inl (.inl rfl)
    · exact .inl (.inr (.inl rfl))
    · injection hk with hk
      subst hk
      rcases hgg with e | e
      · exact .inl (.inr (.inr e))
      · exact .inr (Nat.le_trans hsz4 e)
  · have := (row5.put 1 (.slice (some ⟨g, 0, none⟩) (d.g.l.length + 1) c')).cell 2
    exact this

section
variable (d : RL) (w : World)
set_option maxRecDepth 100000 in
set_option maxHeartbeats 4000000 in
theorem rwappend_any (k : UInt8) (x : List UInt8) (h : d.In w) (hx : x.length ≤ 30000) (hs : d.g.st.fin + (21 + x.length) ≤ 100000000) :
    Calls Tryd.prog 28 #[d.ptr, .int .u8 (k.toNat : Int), .string (tb x)] w (d.Turned w (d.g.append k x) (.tuple #[.int .u64 (((if d.g.can x then d.g.last + 1 else 0) : Nat) : Int), .int .i64 (((if d.g.can x then 0 else 6) : Nat) : Int)])) := by
  have zd : (tb x).size = x.length := tb_size x
  have hxI : ¬ (262136 : Int) < (x.length : Int) := by omega
  have c0 := h.c0
  have c2 := h.c2
  have hmax := h.ok.max
  have HIN := Lib.hid h
  have hcount := h.ok.count
  obtain ⟨Q, hQ⟩ : ∃ Q, d.Turned w (d.g.append k x) (.tuple #[.int .u64 (((if d.g.can x then d.g.last + 1 else 0) : Nat) : Int), .int .i64 (((if d.g.can x then 0 else 6) : Nat) : Int)]) = Q := ⟨_, rfl⟩
  rw [hQ]
  have HNO := Lib.hid (show ¬ d.g.can x → ∀ (w' : World) (r' : RT), Only (· = d.T) w w' → RIn d.T r' w' → r'.st = d.r.st → Q (.returned (.tuple #[.int .u64 0, .int .i64 6])) w' from fun hc w' r' ho hr he => by
    rw [← hQ, LG.append, if_neg hc, if_neg hc, if_neg hc]
    exact ⟨⟨d.B, d.T, r', d.A, d.c, d.g⟩, rfl, rfl, rfl, rfl, ⟨h.row.only ho h.bt, hr, he.trans h.st, h.own.only ho h.ta, h.ok⟩, ho.imp (fun k _ hk => .inr (.inl hk)), fun k hk => .inl hk⟩)
  have HYE := Lib.hid (show d.g.can x → ∀ w', d.Turned w (d.g.put k x) (.tuple #[.int .u64 ((d.g.last + 1 : Nat) : Int), .int .i64 0]) (.returned (.tuple #[.int .u64 ((d.g.last + 1 : Nat) : Int), .int .i64 0])) w' → Q (.returned (.tuple #[.int .u64 ((d.g.last + 1 : Nat) : Int), .int .i64 0])) w' from fun hc w' ht => by
    rw [← hQ, LG.append, if_pos hc, if_pos hc, if_pos hc]
    exact ht)
  clear hQ
  unfold RL.ptr
  by_cases hl : d.g.last = 281474976710656
  · have HE := Lib.hid (HNO.out (fun hc => by have := hc.2.1; omega) w d.r (Only.refl _ w) h.tape rfl)
    rw [hl] at c2
    generalize tb x = sx at *
    clear h HNO HYE hs hl
    go_enter Tryd.func28, Tryd.ntmps28
    go_wp2
    exact HE.out
  have hlI : ¬ (d.g.last : Int) = 281474976710656 := by omega
  have hlB : ((d.g.last : Int) == 281474976710656) = false := beq_eq_false_iff_ne.2 hlI
  have hlw : IntKind.u64.wrap ((d.g.last : Int) + 1) = ((d.g.last + 1 : Nat) : Int) := by rw [IntWalk.u64_in _ (by omega)]; omega
  have hlt : d.g.last < 281474976710656 := by omega
  have HLT := Lib.hid hlt
  have HBY := Lib.hid (fun w1 => show Calls Tryd.prog 54 #[.agg #[.int .u64 ((d.g.last + 1 : Nat) : Int), .int .u8 (k.toNat : Int), .string (tb x)]] w1 fun e w' => e = .returned (.string (tb (one (recE ⟨d.g.last + 1, k, x⟩)))) ∧ Below w1.heap.size w1 w' from rbytes_any ⟨d.g.last + 1, k, x⟩ w1 (show d.g.last + 1 < _ by omega) hx)
  obtain ⟨t, ht⟩ : ∃ t, tb (one (recE ⟨d.g.last + 1, k, x⟩)) = t := ⟨_, rfl⟩
  have hts : t.size = 21 + x.length := by rw [← ht, size_tb, one_recE]
  have hfit : d.r.st.fits t ↔ d.g.can x := by
    rw [h.st]
    unfold ST.fits LG.can LG.fits
    rw [hts]
    exact ⟨fun hh => ⟨by omega, hlt, hh⟩, fun hh => hh.2.2⟩
  have HAP := Lib.hid (fun w1 (hb : Below w.heap.size w w1) => rappend_any d.T d.r w1 t (h.tape.keeps hb) (by rw [h.st, hts]; exact hs))
  have HPUT := Lib.hid (fun (hc : d.g.can x) w1 w2 w4 w5 r' hb hr he ho hb4 g c' hown hg hgg => rwput_set (k := k) (w1 := w1) (w2 := w2) (w4 := w4) (w5 := w5) (r' := r') h hc hs hb hr he ho hb4 g c' hown hg hgg)
  simp only [ht] at HBY HPUT
  unfold rptr at HAP
  have HFIT := Lib.hid hfit
  have hB := h.row.lt
  have hX : ∀ wa, w.alloc (.cells #[.int .u64 ((d.g.last + 1 : Nat) : Int), .int .u8 (k.toNat : Int), .string (tb x)] 48) = wa → Row wa w.heap.size 48 [.int .u64 ((d.g.last + 1 : Nat) : Int), .int .u8 (k.toNat : Int), .string (tb x)] (0, 0) ∧ Below w.heap.size w wa := fun wa e => ⟨e ▸ Row.new w 48 [.int .u64 ((d.g.last + 1 : Nat) : Int), .int .u8 (k.toNat : Int), .string (tb x)] (0, 0), e ▸ (Below.refl _ _).alloc (Nat.le_refl _) _⟩
  have HX := Lib.hid hX
  clear hX hfit hts hs hx
  obtain ⟨L, hL⟩ : ∃ L, d.g.last + 1 = L := ⟨_, rfl⟩
  rw [hL] at hlw
  simp only [hL] at HYE HPUT HX HBY
  have HNEW := Lib.hid (show ∀ wq : World, ∀ j u, (entC ⟨L, k, x⟩)[j]? = some u → (wq.alloc (.cells #[.int .u64 (L : Int), .int .u8 (k.toNat : Int), .string (tb x)] 48)).cell? ((⟨wq.heap.size, 0, none⟩ : Addr).add j) = some u from fun wq => new_ent wq 48 ⟨L, k, x⟩)
  generalize tb x = sx at *
  clear h
  go_enter Tryd.func28, Tryd.ntmps28
  go_wp2_with fail
  obtain ⟨wa, hwa⟩ : ∃ wa, w.alloc (.cells #[.int .u64 (L : Int), .int .u8 (k.toNat : Int), .string sx] 48) = wa := ⟨_, rfl⟩
  obtain ⟨hr, hb⟩ := HX.out wa hwa
  try rw [hwa]
  clear hwa HX
  obtain ⟨wd, hwd⟩ : ∃ wd, wa.drew = wd := ⟨_, rfl⟩
  have hrd : Row wd w.heap.size 48 [.int .u64 (L : Int), .int .u8 (k.toNat : Int), .string sx] (0, 0) := hwd ▸ hr
  have hbd : Below w.heap.size w wd := hwd ▸ hb.drew
  clear hr hb
  have HRD := Lib.hid hrd
  have HBD := Lib.hid hbd
  have HCX := Lib.hid (show ∀ wx, Below wd.heap.size wd wx → wx.cell? ⟨d.B, 0, none⟩ = some (.pointer (some ⟨d.T, 0, none⟩)) ∧ wx.cell? ⟨w.heap.size, 0, none⟩ = some (.int .u64 (L : Int)) ∧ wx.cell? ⟨w.heap.size, 1, none⟩ = some (.int .u8 (k.toNat : Int)) ∧ wx.cell? ⟨w.heap.size, 2, none⟩ = some (.string sx) from fun wx hb => by
    have hr := HRD.out.below hb HRD.out.lt
    exact ⟨(HIN.out.keeps (HBD.out.trans (hb.mono HBD.out.size))).c0, hr.cell 0, hr.cell 1, hr.cell 2⟩)
  have HTX := Lib.hid (show ∀ wx wy, Below wd.heap.size wd wx → Only (· = d.T) wx wy → wy.cell? ⟨d.B, 0, none⟩ = some (.pointer (some ⟨d.T, 0, none⟩)) ∧ wy.cell? ⟨w.heap.size, 0, none⟩ = some (.int .u64 (L : Int)) ∧ wy.cell? ⟨w.heap.size, 1, none⟩ = some (.int .u8 (k.toNat : Int)) ∧ wy.cell? ⟨w.heap.size, 2, none⟩ = some (.string sx) from fun wx wy hb ho => by
    have hr := (HRD.out.below hb HRD.out.lt).only ho (fun e => by have := HIN.out.tape.row.lt; omega)
    have hk := HIN.out.keeps (HBD.out.trans (hb.mono HBD.out.size))
    exact ⟨(hk.row.only ho hk.bt).cell 0, hr.cell 0, hr.cell 1, hr.cell 2⟩)
  have hHeld := HCX.out wd (Below.refl _ _)
  clear hrd hbd
  by_cases hc : d.g.can x
  · simp only [HFIT.out.2 hc, if_true] at HAP
    refine wp_region_noPanic ?_
    refine wp_region_sch (fun wx => wx.cell? ⟨d.B, 0, none⟩ = some (.pointer (some ⟨d.T, 0, none⟩)) ∧ wx.cell? ⟨w.heap.size, 0, none⟩ = some (.int .u64 (L : Int)) ∧ wx.cell? ⟨w.heap.size, 1, none⟩ = some (.int .u8 (k.toNat : Int)) ∧ wx.cell? ⟨w.heap.size, 2, none⟩ = some (.string sx)) (fun i => [5, 6].contains i)
      (.takes [0, 1, 2, 3, 4] (.run 5 (.run 6 (.takes [7] .done)))) (by kernel_rfl) (fun _ _ _ _ _ h => h) (by kernel_rfl) ?_
    rw [hwd]
    clear hwd
    iterate 5 (
      refine sch_takes_cons ?_
      first
        | (refine sch_take (v := ?_) rfl (by assumption) (by rfl) ?_ ?_; rotate_left; (focus (intro wy hSy; (try dsimp only at hSy); go_simp; (try with_reducible rfl))))
        | (refine sch_pass rfl (by assumption) (by rfl) ?_)
      simp only [Act.put, List.setIfInBounds_toArray, List.set_cons_zero, List.set_cons_succ])
    refine sch_takes_nil ?_
    refine sch_run rfl (fun K hK => ?_)
    go_simp
    with_reducible refine (HBY.out wd).mono ?_
    rintro e w1 ⟨rfl, hb1⟩
    have hHeld := HCX.out w1 hb1
    try dsimp only
    refine hK.out _ _ (fun _ => hHeld) ?_
    clear hK K
    try simp only [Act.put, List.setIfInBounds_toArray, List.set_cons_zero, List.set_cons_succ]
    refine sch_run rfl (fun K hK => ?_)
    go_simp
    with_reducible refine (HAP.out w1 (HBD.out.trans (hb1.mono HBD.out.size))).mono ?_
    rintro e w2 ⟨rfl, r', hr2, hst2, ho2⟩
    have hHeld := HTX.out w1 w2 hb1 ho2
    try dsimp only
    refine hK.out _ _ (fun _ => hHeld) ?_
    clear hK K
    try simp only [Act.put, List.setIfInBounds_toArray, List.set_cons_zero, List.set_cons_succ]
    refine sch_takes_cons ?_
    first
      | (refine sch_take (v := ?_) rfl (by assumption) (by rfl) ?_ ?_; rotate_left; (focus (intro wy hSy; (try dsimp only at hSy); go_simp; (try with_reducible rfl))))
      | (refine sch_pass rfl (by assumption) (by rfl) ?_)
    simp only [Act.put, List.setIfInBounds_toArray, List.set_cons_zero, List.set_cons_succ]
    refine sch_takes_nil ?_
    refine sch_done ?_
    refine NoPanic.normal ?_
    have hbw1 := HBD.out.trans (hb1.mono HBD.out.size)
    obtain ⟨s0, s1, s2, s3⟩ := hHeld
    have row2 := (HIN.out.keeps hbw1).row.only ho2 HIN.out.bt
    have c1 := row2.cell 1
    have c2' := row2.cell 2
    have f2 := row2.loose 2
    simp only [RL.cells, List.getElem?_cons_zero, List.getElem?_cons_succ] at c1 c2'
    have HX3 := Lib.hid (show ∀ u wx, Below (w2.setCell ⟨d.B, 2, none⟩ u).heap.size (w2.setCell ⟨d.B, 2, none⟩ u) wx → wx.cell? ⟨d.B, 1, none⟩ = some (.slice d.A d.g.l.length d.c) ∧ wx.cell? ⟨w.heap.size, 0, none⟩ = some (.int .u64 (L : Int)) ∧ wx.cell? ⟨w.heap.size, 1, none⟩ = some (.int .u8 (k.toNat : Int)) ∧ wx.cell? ⟨w.heap.size, 2, none⟩ = some (.string sx) from fun u wx hb => by
      have hX := ((HRD.out.below hb1 HRD.out.lt).only ho2 (fun e => by have := HIN.out.tape.row.lt; omega)).far (p := ⟨d.B, 2, none⟩) (fun e => by have := HIN.out.row.lt; simp only at e; omega) u
      have hR := row2.put 2 u
      exact ⟨(hR.below hb hR.lt).cell 1, (hX.below hb hX.lt).cell 0, (hX.below hb hX.lt).cell 1, (hX.below hb hX.lt).cell 2⟩)
    have HXR0 := Lib.hid (fun u => ((HRD.out.below hb1 HRD.out.lt).only ho2 (fun e => by have := HIN.out.tape.row.lt; omega)).far (p := ⟨d.B, 2, none⟩) (fun e => by have := HIN.out.row.lt; simp only at e; omega) u)
    have HOW := Lib.hid (show ∀ u wx, Below (w2.setCell ⟨d.B, 2, none⟩ u).heap.size (w2.setCell ⟨d.B, 2, none⟩ u) wx → OwnE wx d.A d.g.l d.c from fun u wx hb => (((HIN.out.keeps hbw1).own.only ho2 HIN.out.ta).only ((Only.refl (· = d.B) w2).setCell rfl u) HIN.out.ba).keeps hb)
    have HP2 := Lib.hid (fun w4 w5 hb4 g c' hown hg hgg => HPUT.out hc w1 w2 w4 w5 r' hbw1 hr2 hst2 ho2 hb4 g c' hown hg hgg)
    have HYE2 := Lib.hid (HYE.out hc)
    clear HPUT HYE HNO HCX HTX HAP HBY hb1 ho2 hr2 hst2 row2 hbw1 s0
    go_wp2_with fail
    obtain ⟨w3, hw3⟩ : ∃ w3, w2.setCell ⟨d.B, 2, none⟩ (.int .u64 (L : Int)) = w3 := ⟨_, rfl⟩
    have HX4 := Lib.hid (HX3.out (.int .u64 (L : Int)))
    have HO4 := Lib.hid (HOW.out (.int .u64 (L : Int)))
    have HXR := Lib.hid (HXR0.out (.int .u64 (L : Int)))
    rw [hw3] at HX4 HO4 HP2 HXR
    obtain ⟨wq, hwq⟩ : ∃ wq, w3.drew = wq := ⟨_, rfl⟩
    have HQ3 := Lib.hid (show Below w3.heap.size w3 wq from hwq ▸ (Below.refl _ _).drew)
    have hHeld9 := HX4.out wq HQ3.out
    have HX5 := Lib.hid (show ∀ w4 w5, Below w3.heap.size w3 w4 → w4.grownBy w5 (blk d.A) → Row w5 w.heap.size 48 [.int .u64 (L : Int), .int .u8 (k.toNat : Int), .string sx] (0, 0) from fun w4 w5 hb hg => (HXR.out.below hb HXR.out.lt).only ((Only.refl (fun k => blk d.A = some k) w4).grown hg fun k hk => hk) (fun e => by have := HIN.out.own.lt _ e; omega))
    clear s1 s2 s3 HX3 HOW c1 c2' f2
    refine wp_region_noPanic ?_
    refine wp_region_sch (fun wx => wx.cell? ⟨w.heap.size, 0, none⟩ = some (.int .u64 (L : Int)) ∧ wx.cell? ⟨w.heap.size, 1, none⟩ = some (.int .u8 (k.toNat : Int)) ∧ wx.cell? ⟨w.heap.size, 2, none⟩ = some (.string sx)) (fun i => [4, 6, 7, 10].contains i)
      (.takes [0, 1, 2, 3, 5] (.fork [4, 6] (fun k => if k = 4 then (.run 6 (.run 7 (.takes [8, 9] (.run 10 .done)))) else (.run 4 (.run 7 (.takes [8, 9] (.run 10 .done))))))) (by kernel_rfl) (fun _ _ _ _ _ h => h) (by kernel_rfl) ?_
    rw [hw3, hwq]
    clear hwq
    obtain ⟨hS1, hHeld⟩ := hHeld9
    iterate 5 (
      refine sch_takes_cons ?_
      first
        | (refine sch_take (v := ?_) rfl (by assumption) (by rfl) ?_ ?_; rotate_left; (focus (intro wy hSy; (try dsimp only at hSy); go_simp; (try with_reducible rfl))))
        | (refine sch_pass rfl (by assumption) (by rfl) ?_)
      simp only [Act.put, List.setIfInBounds_toArray, List.set_cons_zero, List.set_cons_succ])
    refine sch_takes_nil ?_
    refine sch_fork rfl (fun K hK => ?_) (sch_fork rfl (fun K hK => ?_) sch_fork_nil)
    · go_simp
      refine hK.out _ _ (fun _ => hHeld) ?_
      clear hK K
      change wpSch _ _ _ _ _ _ (.run 6 (.run 7 (.takes [8, 9] (.run 10 .done)))) _ _
      try simp only [Act.put, List.setIfInBounds_toArray, List.set_cons_zero, List.set_cons_succ]
      refine sch_run rfl (fun K hK => ?_)
      go_simp
      have hb4 : Below w3.heap.size w3 (wq.alloc (.cells #[.int .u64 (L : Int), .int .u8 (k.toNat : Int), .string sx] 48)) := HQ3.out.alloc HQ3.out.size _
      obtain ⟨hS1, hHeld⟩ := HX4.out _ hb4
      refine hK.out _ _ (fun _ => hHeld) ?_
      clear hK K
      try simp only [Act.put, List.setIfInBounds_toArray, List.set_cons_zero, List.set_cons_succ]
      refine sch_run rfl (fun K hK => ?_)
      refine step_onto Tryd.underlying38 Tryd.infoEnt rfl (by decide) (by decide) rfl (.tmp 44) (.tmp 46) rfl 0 (.slice d.A d.g.l.length d.c) d.g.l.length (ents d.g.l) rfl (HO4.out _ hb4) ⟨wq.heap.size, 0, none⟩ 1 (entC ⟨L, k, x⟩) rfl rfl (HNEW.out wq) (entC_one _) hcount (Nat.zero_le _) ?_
      intro g c' w5 hown hg hgg
      rw [ownBlock_slice] at hg hgg
      have hown' := ownE_snoc hown
      obtain ⟨hT, k2, k1, kf⟩ := HP2.out _ w5 hb4 g c' hown' hg hgg
      have hHeld5 := HX5.out _ w5 hb4 hg
      have hHeld := And.intro (hHeld5.cell 0) (And.intro (hHeld5.cell 1) (hHeld5.cell 2))
      refine hK.out _ _ (fun _ => hHeld) ?_
      clear hK K
      try simp only [Act.put, List.setIfInBounds_toArray, List.set_cons_zero, List.set_cons_succ]
      iterate 2 (
        refine sch_takes_cons ?_
        first
          | (refine sch_take (v := ?_) rfl (by assumption) (by rfl) ?_ ?_; rotate_left; (focus (intro wy hSy; (try dsimp only at hSy); go_simp; (try with_reducible rfl))))
          | (refine sch_pass rfl (by assumption) (by rfl) ?_)
        simp only [Act.put, List.setIfInBounds_toArray, List.set_cons_zero, List.set_cons_succ])
      refine sch_takes_nil ?_
      refine sch_run rfl (fun K hK => ?_)
      go_simp
      have hX6 := hHeld5.far (p := ⟨d.B, 1, none⟩) (fun e => by have := HIN.out.row.lt; simp only at e; omega) (.slice (some ⟨g, 0, none⟩) (d.g.l.length + 1) c')
      have hHeld := And.intro (hX6.cell 0) (And.intro (hX6.cell 1) (hX6.cell 2))
      refine hK.out _ _ (fun _ => hHeld) ?_
      clear hK K
      try simp only [Act.put, List.setIfInBounds_toArray, List.set_cons_zero, List.set_cons_succ]
      refine sch_done ?_
      refine NoPanic.normal ?_
      have HE := Lib.hid (HYE2.out _ hT)
      clear hT HYE2 HP2
      go_wp2
      exact HE.out
    · go_simp
      have hb4 : Below w3.heap.size w3 (wq.alloc (.cells #[.int .u64 (L : Int), .int .u8 (k.toNat : Int), .string sx] 48)) := HQ3.out.alloc HQ3.out.size _
      obtain ⟨hS1, hHeld⟩ := HX4.out _ hb4
      refine hK.out _ _ (fun _ => hHeld) ?_
      clear hK K
      change wpSch _ _ _ _ _ _ (.run 4 (.run 7 (.takes [8, 9] (.run 10 .done)))) _ _
      try simp only [Act.put, List.setIfInBounds_toArray, List.set_cons_zero, List.set_cons_succ]
      refine sch_run rfl (fun K hK => ?_)
      go_simp
      refine hK.out _ _ (fun _ => hHeld) ?_
      clear hK K
      try simp only [Act.put, List.setIfInBounds_toArray, List.set_cons_zero, List.set_cons_succ]
      refine sch_run rfl (fun K hK => ?_)
      refine step_onto Tryd.underlying38 Tryd.infoEnt rfl (by decide) (by decide) rfl (.tmp 44) (.tmp 46) rfl 0 (.slice d.A d.g.l.length d.c) d.g.l.length (ents d.g.l) rfl (HO4.out _ hb4) ⟨wq.heap.size, 0, none⟩ 1 (entC ⟨L, k, x⟩) rfl rfl (HNEW.out wq) (entC_one _) hcount (Nat.zero_le _) ?_
      intro g c' w5 hown hg hgg
      rw [ownBlock_slice] at hg hgg
      have hown' := ownE_snoc hown
      obtain ⟨hT, k2, k1, kf⟩ := HP2.out _ w5 hb4 g c' hown' hg hgg
      have hHeld5 := HX5.out _ w5 hb4 hg
      have hHeld := And.intro (hHeld5.cell 0) (And.intro (hHeld5.cell 1) (hHeld5.cell 2))
      refine hK.out _ _ (fun _ => hHeld) ?_
      clear hK K
      try simp only [Act.put, List.setIfInBounds_toArray, List.set_cons_zero, List.set_cons_succ]
      iterate 2 (
        refine sch_takes_cons ?_
        first
          | (refine sch_take (v := ?_) rfl (by assumption) (by rfl) ?_ ?_; rotate_left; (focus (intro wy hSy; (try dsimp only at hSy); go_simp; (try with_reducible rfl))))
          | (refine sch_pass rfl (by assumption) (by rfl) ?_)
        simp only [Act.put, List.setIfInBounds_toArray, List.set_cons_zero, List.set_cons_succ])
      refine sch_takes_nil ?_
      refine sch_run rfl (fun K hK => ?_)
      go_simp
      have hX6 := hHeld5.far (p := ⟨d.B, 1, none⟩) (fun e => by have := HIN.out.row.lt; simp only at e; omega) (.slice (some ⟨g, 0, none⟩) (d.g.l.length + 1) c')
      have hHeld := And.intro (hX6.cell 0) (And.intro (hX6.cell 1) (hX6.cell 2))
      refine hK.out _ _ (fun _ => hHeld) ?_
      clear hK K
      try simp only [Act.put, List.setIfInBounds_toArray, List.set_cons_zero, List.set_cons_succ]
      refine sch_done ?_
      refine NoPanic.normal ?_
      have HE := Lib.hid (HYE2.out _ hT)
      clear hT HYE2 HP2
      go_wp2
      exact HE.out
  · simp only [show ¬ d.r.st.fits t from fun hh => hc (HFIT.out.1 hh), if_false] at HAP
    refine wp_region_noPanic ?_
    refine wp_region_sch (fun wx => wx.cell? ⟨d.B, 0, none⟩ = some (.pointer (some ⟨d.T, 0, none⟩)) ∧ wx.cell? ⟨w.heap.size, 0, none⟩ = some (.int .u64 (L : Int)) ∧ wx.cell? ⟨w.heap.size, 1, none⟩ = some (.int .u8 (k.toNat : Int)) ∧ wx.cell? ⟨w.heap.size, 2, none⟩ = some (.string sx)) (fun i => [5, 6].contains i)
      (.takes [0, 1, 2, 3, 4] (.run 5 (.run 6 (.takes [7] .done)))) (by kernel_rfl) (fun _ _ _ _ _ h => h) (by kernel_rfl) ?_
    rw [hwd]
    clear hwd
    iterate 5 (
      refine sch_takes_cons ?_
      first
        | (refine sch_take (v := ?_) rfl (by assumption) (by rfl) ?_ ?_; rotate_left; (focus (intro wy hSy; (try dsimp only at hSy); go_simp; (try with_reducible rfl))))
        | (refine sch_pass rfl (by assumption) (by rfl) ?_)
      simp only [Act.put, List.setIfInBounds_toArray, List.set_cons_zero, List.set_cons_succ])
    refine sch_takes_nil ?_
    refine sch_run rfl (fun K hK => ?_)
    go_simp
    with_reducible refine (HBY.out wd).mono ?_
    rintro e w1 ⟨rfl, hb1⟩
    have hHeld := HCX.out w1 hb1
    try dsimp only
    refine hK.out _ _ (fun _ => hHeld) ?_
    clear hK K
    try simp only [Act.put, List.setIfInBounds_toArray, List.set_cons_zero, List.set_cons_succ]
    refine sch_run rfl (fun K hK => ?_)
    go_simp
    with_reducible refine (HAP.out w1 (HBD.out.trans (hb1.mono HBD.out.size))).mono ?_
    rintro e w2 ⟨rfl, r', hr2, hst2, ho2⟩
    have hHeld := HTX.out w1 w2 hb1 ho2
    try dsimp only
    refine hK.out _ _ (fun _ => hHeld) ?_
    clear hK K
    try simp only [Act.put, List.setIfInBounds_toArray, List.set_cons_zero, List.set_cons_succ]
    refine sch_takes_cons ?_
    first
      | (refine sch_take (v := ?_) rfl (by assumption) (by rfl) ?_ ?_; rotate_left; (focus (intro wy hSy; (try dsimp only at hSy); go_simp; (try with_reducible rfl))))
      | (refine sch_pass rfl (by assumption) (by rfl) ?_)
    simp only [Act.put, List.setIfInBounds_toArray, List.set_cons_zero, List.set_cons_succ]
    refine sch_takes_nil ?_
    refine sch_done ?_
    refine NoPanic.normal ?_
    have HE := Lib.hid (HNO.out hc w2 r' (((Only.below (HBD.out.trans (hb1.mono HBD.out.size)) (· = d.T))).trans ho2) hr2 (hst2.trans (if_neg (fun hh => hc (HFIT.out.1 hh)))))
    clear hHeld hb1 ho2 hr2 hst2 HNO HYE HPUT HCX HTX HAP HBY
    go_wp2
    exact HE.out
end
end Go.Proofs.YtjahkaockjhibaaDoor

/-
  The document's log: Trim.
-/
namespace Go.Proofs.YtjahkaockjhibaaDoor
open Go.RowKit

theorem below_le (g : LG) (n : Nat) : g.below n ≤ g.l.length := by
  unfold LG.below
  exact (List.takeWhile_sublist _).length_le
theorem below_get {l : List Ent} {n : Nat} : ∀ (i : Nat) (h : i < l.length) (_ : i < (l.takeWhile fun e => decide (e.n < n)).length), l[i].n < n := by
  induction l with
  | nil => intro i h; exact absurd h (Nat.not_lt_zero _)
  | cons x l ih =>
    intro i h h2
    rw [List.takeWhile_cons] at h2
    by_cases hx : x.n < n
    · rw [if_pos (decide_eq_true hx)] at h2
      cases i with
      | zero => exact hx
      | succ i => exact ih i (by simpa using h) (by simpa using h2)
    · rw [if_neg (by simp [hx])] at h2
      exact absurd h2 (Nat.not_lt_zero _)
theorem below_end {l : List Ent} {n : Nat} (h : (l.takeWhile fun e => decide (e.n < n)).length < l.length) : n ≤ (l[(l.takeWhile fun e => decide (e.n < n)).length]).n := by
  induction l with
  | nil => exact absurd h (Nat.not_lt_zero _)
  | cons x l ih =>
    by_cases hx : x.n < n
    · have e : ((x :: l).takeWhile fun e => decide (e.n < n)) = x :: l.takeWhile fun e => decide (e.n < n) := by rw [List.takeWhile_cons, if_pos (decide_eq_true hx)]
      simp only [e, List.length_cons] at h ⊢
      simp only [List.getElem_cons_succ]
      exact ih (by omega)
    · have e : ((x :: l).takeWhile fun e => decide (e.n < n)) = [] := by rw [List.takeWhile_cons, if_neg (by simp [hx])]
      simp only [e, List.length_nil, List.getElem_cons_zero]
      omega

section
variable (d : RL) (w : World)
/-- What stands behind it. -/
theorem rwtrim_set {d : RL} {w w1 w2 w3 : World} {r' : RT} {n : Nat} (h : d.In w) (hn : n ≤ d.g.stable + 1) (hb : Below w.heap.size w w1) (ht : RIn d.T r' w2)
    (he : r'.st = d.r.st.drop (d.g.st.base + (logB (d.g.l.take (d.g.below n))).length)) (ho : Only (· = d.T) w1 w2) (A : Option Addr) (c : Nat)
    (hg : GrE w2 (d.g.l.filter fun e => decide (n ≤ e.n)) (.slice A (d.g.l.filter fun e => decide (n ≤ e.n)).length c) w3) :
    w3.cell? ⟨d.B, 1, none⟩ = some (.slice d.A d.g.l.length d.c) ∧ w3.frozen? ⟨d.B, 1, none⟩ = false ∧
    d.Turned w (d.g.trim n) (.int .i64 0) (.returned (.int .i64 0)) (w3.setCell ⟨d.B, 1, none⟩ (.slice A (d.g.l.filter fun e => decide (n ≤ e.n)).length c)) := by
  have k1 := h.keeps hb
  have row2 := k1.row.only ho h.bt
  have row3 := row2.below hg.2 row2.lt
  have tape3 := ht.keeps hg.2
  have hfl : (d.g.l.filter fun e => decide (n ≤ e.n)) = d.g.l.drop (d.g.below n) := h.ok.from_ n
  have hown := OwnE.of_gr hg
  have hfr := hg.fresh
  have hBlt : d.B < w2.heap.size := row2.lt
  have eg : d.g.trim n = { d.g with st := d.g.st.drop (d.g.st.base + (logB (d.g.l.take (d.g.below n))).length), l := d.g.l.drop (d.g.below n) } := if_pos hn
  refine ⟨row3.cell 1, row3.loose 1, ⟨d.B, d.T, r', A, c, d.g.trim n⟩, rfl, rfl, rfl, rfl, ⟨?_, ?_, ?_, ?_, h.ok.trim n⟩, ?_, ?_⟩
  · have := row3.put 1 (.slice A (d.g.l.filter fun e => decide (n ≤ e.n)).length c)
    show Row _ d.B _ [rptr d.T, .slice A (d.g.trim n).l.length c, .int .u64 ((d.g.trim n).last : Int), .int .u64 ((d.g.trim n).stable : Int)] (0, 0)
    rw [eg]
    show Row _ d.B _ [rptr d.T, .slice A (d.g.l.drop (d.g.below n)).length c, .int .u64 (d.g.last : Int), .int .u64 (d.g.stable : Int)] (0, 0)
    rw [hfl] at this ⊢
    exact this
  · exact tape3.only ((Only.refl (· = d.B) w3).setCell rfl _) (fun e => h.bt e.symm)
  · show r'.st = (d.g.trim n).st
    rw [he, eg, h.st]
  · show OwnE _ A (d.g.trim n).l c
    rw [eg]
    show OwnE _ A (d.g.l.drop (d.g.below n)) c
    rw [hfl] at hown ⊢
    exact hown.only ((Only.refl (· = d.B) w3).setCell rfl _) (fun k hk e => by
      cases A with
      | none => cases hk
      | some ad =>
        have := hfr ad rfl
        simp only [blk, Option.map_some, Option.some.injEq] at hk
        omega)
  · have a1 : Only d.mine w w2 := (Only.below hb d.mine).then ho (fun k _ hk => .inr (.inl hk))
    exact (a1.trans (Only.below hg.2 d.mine)).setCell (.inl rfl) _
  · rintro k (rfl | rfl | hk)
    · exact .inl (.inl rfl)
    · exact .inl (.inr (.inl rfl))
    · refine .inr ?_
      cases A with
      | none => cases hk
      | some ad =>
        have := hfr ad rfl
        simp only [blk, Option.map_some, Option.some.injEq] at hk
        have := hb.size
        have := ho.size
        omega

set_option maxRecDepth 100000 in
set_option maxHeartbeats 4000000 in
theorem rwtrim_any (n : Nat) (h : d.In w) (hsm : ∀ e ∈ d.g.l, e.d.length ≤ 30000) : Calls Tryd.prog 22 #[d.ptr, .int .u64 (n : Int)] w (d.Turned w (d.g.trim n) (.int .i64 (((if n ≤ d.g.stable + 1 then 0 else 9) : Nat) : Int))) := by
  have c3 := h.c3
  have c0 := h.c0
  have hmax := h.ok.max
  have hstb := h.ok.stb
  have hst1 : IntKind.u64.wrap ((d.g.stable : Int) + 1) = (d.g.stable : Int) + 1 := IntWalk.u64_in _ (by omega)
  by_cases hn : n ≤ d.g.stable + 1
  · have hnI : ¬ (d.g.stable : Int) + 1 < (n : Int) := by omega
    rw [if_pos hn]
    have HCW := Lib.hid (fun wx (hb : Below w.heap.size w wx) => And.intro (h.keeps hb).c1 (h.keeps hb).c0)
    have HA := Lib.hid (fun wx (hb : Below w.heap.size w wx) i hi => h.at_ hb i hi)
    have hT2 : w.cell? ⟨d.T, 2, none⟩ = some (.int .i64 (d.g.st.base : Int)) := by
      have e : d.r.base = d.g.st.base := by rw [← h.st]; rfl
      rw [← e]; exact h.tape.c2
    have hsmall := h.ok.st.small
    have hfin : d.g.st.base + (logB d.g.l).length ≤ 100000000 := by rw [← h.ok.bytes]; exact hsmall
    have HBY := Lib.hid (fun i (hi : i < d.g.l.length) w1 => show Calls Tryd.prog 54 #[.agg #[.int .u64 (d.g.l[i].n : Int), .int .u8 (d.g.l[i].k.toNat : Int), .string (tb d.g.l[i].d)]] w1 fun e w' => e = .returned (.string (tb (one (recE d.g.l[i])))) ∧ Below w1.heap.size w1 w' from rbytes_any d.g.l[i] w1 (by have := (h.ok.num i hi).2; omega) (hsm _ (List.getElem_mem hi)))
    have HLT := Lib.hid (fun i (hi : i < d.g.l.length) => logB_take_le d.g.l (i + 1))
    have HDR := Lib.hid (fun w1 (hb : Below w.heap.size w w1) (p : Nat) (hp : p < 18446744073709551616) => rdrop_any d.T d.r w1 p (h.tape.keeps hb) hp)
    have HSET := Lib.hid (fun w1 w2 w3 r' hb ht he ho A c hg => rwtrim_set (w1 := w1) (w2 := w2) (w3 := w3) (r' := r') h hn hb ht he ho A c hg)
    have HFR := Lib.hid (fun w1 w2 (hb : Below w.heap.size w w1) (ho : Only (· = d.T) w1 w2) => rwfrom_row d.B d.A d.c d.g.l (rptr d.T) (.int .u64 (d.g.last : Int)) (.int .u64 (d.g.stable : Int)) w2 n ((h.keeps hb).row.only ho h.bt) ((h.keeps hb).own.only ho h.ta) h.ok.count)
    have HOK := Lib.hid (fun w1 w2 (hb : Below w.heap.size w w1) (ho : Only (· = d.T) w1 w2) => (h.keeps hb).row.only ho h.bt)
    have hbl := below_le d.g n
    have HG1 := Lib.hid (fun i hi h2 => below_get (l := d.g.l) (n := n) i hi h2)
    have HG2 := Lib.hid (fun hh => below_end (l := d.g.l) (n := n) hh)
    have hcount := h.ok.count
    clear h hsm
    unfold LG.below at hbl HSET
    rw [show LG.trim d.g n = LG.trim d.g n from rfl]
    obtain ⟨Q, hQ⟩ : ∃ Q, d.Turned w (d.g.trim n) (.int .i64 (((0 : Nat)) : Int)) = Q := ⟨_, rfl⟩
    rw [hQ]
    have HSET2 := Lib.hid (show ∀ w1 w2 w3 r', Below w.heap.size w w1 → RIn d.T r' w2 → r'.st = d.r.st.drop (d.g.st.base + (logB (d.g.l.take (d.g.l.takeWhile fun e => decide (e.n < n)).length)).length) → Only (· = d.T) w1 w2 → ∀ (A : Option Addr) (c m : Nat), (d.g.l.filter fun e => decide (n ≤ e.n)).length = m → GrE w2 (d.g.l.filter fun e => decide (n ≤ e.n)) (.slice A m c) w3 →
        w3.cell? ⟨d.B, 1, none⟩ = some (.slice d.A d.g.l.length d.c) ∧ w3.frozen? ⟨d.B, 1, none⟩ = false ∧ Q (.returned (.int .i64 0)) (w3.setCell ⟨d.B, 1, none⟩ (.slice A m c)) from fun w1 w2 w3 r' hb ht he ho A c m hm hg => by
      subst hm
      rw [← hQ]
      exact HSET.out w1 w2 w3 r' hb ht he ho A c hg)
    clear hQ HSET
    generalize hbw : (d.g.l.takeWhile fun e => decide (e.n < n)).length = bw at *
    obtain ⟨base, hbase⟩ : ∃ base, d.g.st.base = base := ⟨_, rfl⟩
    rw [hbase] at hT2 HSET2 hfin
    generalize hll : d.g.l = l at *
    unfold RL.ptr
    go_enter Tryd.func22, Tryd.ntmps22
    go_wp2_with fail
    go_loopw [5, 6] (fun vt vi wr => ∃ i : Nat, i ≤ bw ∧ vi = .int .i64 i ∧ vt = .int .i64 ((base + (logB (l.take i)).length : Nat) : Int) ∧ Below w.heap.size w wr) (fun _ vi _ => bw - (intOf vi).toNat)
    case atStart => exact ⟨0, by omega, rfl, by rw [List.take_zero, logB_nil]; rfl, Below.refl _ _⟩
    case round =>
      obtain ⟨i, hi, rfl, rfl, hb⟩ := hrel
      obtain ⟨c1, c0r⟩ := HCW.out wr hb
      have HB := Lib.hid hb
      clear hb
      by_cases hlt : i < bw
      · have hil : i < l.length := by omega
        obtain ⟨g, off, hA, x1, x2, x3⟩ := HA.out wr HB.out i hil
        have hx := HG1.out i hil hlt
        have hxI : (l[i].n : Int) < (n : Int) := by omega
        have hiI : (i : Int) < (l.length : Int) := by omega
        have hBY := HBY.out i hil wr
        have hle := HLT.out i hil
        have htk : logB (l.take (i + 1)) = logB (l.take i) ++ one (recE l[i]) := by
          rw [(List.take_append_getElem hil).symm, logB_app, logB_cons, logB_nil, List.append_nil]
        have hsz : (logB (l.take (i + 1))).length = (logB (l.take i)).length + (one (recE l[i])).length := by rw [htk, List.length_append]
        have hts : (tb (one (recE l[i]))).size = (one (recE l[i])).length := size_tb _
        generalize (one (recE l[i])) = O at *
        generalize l[i] = x at *
        have HBYI := Lib.hid hBY
        have hwr : IntKind.i64.wrap (((base + (logB (l.take i)).length : Nat) : Int) + (O.length : Int)) = ((base + (logB (l.take (i + 1))).length : Nat) : Int) := by
          rw [IntWalk.i64_in _ (by omega)]; omega
        obtain ⟨P0, hP0⟩ : ∃ P0, base + (logB (l.take i)).length = P0 := ⟨_, rfl⟩
        obtain ⟨P1, hP1⟩ : ∃ P1, base + (logB (l.take (i + 1))).length = P1 := ⟨_, rfl⟩
        rw [hP0, hP1] at hwr
        rw [hP0]
        have HP1 := Lib.hid hP1
        clear hBY htk hx hle hP0 hP1 hsz
        rw [hA] at c1
        clear hA c0r
        go_wp2_with fail
        refine HBYI.out.mono ?_
        rintro e w5 ⟨rfl, hb5⟩
        have HB5 := Lib.hid (HB.out.trans (hb5.mono HB.out.size))
        clear hb5 HBYI
        go_wp2
        go_roundw
        case rel => exact ⟨i + 1, hlt, by go_num, by rw [HP1.out], HB5.out⟩
        case measure => simp [intOf]; omega
      · obtain rfl : i = bw := by omega
        have htl := logB_take_le l i
        obtain ⟨p, hp⟩ : ∃ p, base + (logB (l.take i)).length = p := ⟨_, rfl⟩
        have hp1 : p ≤ 100000000 := by omega
        have hpw : IntKind.u64.wrap (p : Int) = (p : Int) := IntWalk.u64_in _ (by omega)
        have HDR1 := Lib.hid (HDR.out wr HB.out p (by omega))
        unfold rptr at HDR1
        rw [hp] at HSET2
        have HSET3 := Lib.hid (fun w2 w3 r' => HSET2.out wr w2 w3 r' HB.out)
        have HFR1 := Lib.hid (fun w2 => HFR.out wr w2 HB.out)
        obtain ⟨m, hm⟩ : ∃ m, (l.filter fun e => decide (n ≤ e.n)).length = m := ⟨_, rfl⟩
        rw [hm] at HFR1
        have HRK := Lib.hid (fun w2 => HOK.out wr w2 HB.out)
        rw [hp]
        clear HDR HSET2 HFR HOK HBY HLT hp htl hlt hfin
        by_cases hil : i < l.length
        · obtain ⟨g, off, hA, x1, x2, x3⟩ := HA.out wr HB.out i hil
          have hx : n ≤ (l[i]).n := HG2.out hil
          have hxI : ¬ (l[i].n : Int) < (n : Int) := by omega
          have hiI : (i : Int) < (l.length : Int) := by omega
          generalize l[i] = x at *
          have c1' := c1
          rw [hA] at c1'
          clear hx c1 x2 x3
          go_wp2_with fail
          refine HDR1.out.mono ?_
          rintro e w2 ⟨he, r', hr2, hst2, ho2⟩
          obtain ⟨ve, he'⟩ : ∃ ve, e = .returned ve := ⟨_, he⟩
          clear he
          subst he'
          have rk := HRK.out w2 ho2
          have b1 := rk.cell 1
          have b0 := rk.cell 0
          simp only [RL.cells, List.getElem?_cons_zero, List.getElem?_cons_succ] at b1 b0
          have HS4 := Lib.hid (fun w3 => HSET3.out w2 w3 r' hr2 hst2 ho2)
          have HF2 := Lib.hid (HFR1.out w2 ho2)
          clear HSET3 HFR1 HRK rk hr2 hst2 ho2
          go_wp2_with fail
          refine HF2.out.mono ?_
          rintro e w3 ⟨A', c', rfl, hg3, _, _⟩
          obtain ⟨k1, k2, k3⟩ := HS4.out w3 A' c' m hm hg3
          have HE := Lib.hid k3
          clear k3 HS4 HF2 hg3
          go_wp2
          exact HE.out
        · obtain rfl : i = l.length := by omega
          have hno : ¬ (l.length : Int) < (l.length : Int) := by omega
          go_wp2_with fail
          refine HDR1.out.mono ?_
          rintro e w2 ⟨he, r', hr2, hst2, ho2⟩
          obtain ⟨ve, he'⟩ : ∃ ve, e = .returned ve := ⟨_, he⟩
          clear he
          subst he'
          have rk := HRK.out w2 ho2
          have b1 := rk.cell 1
          have b0 := rk.cell 0
          simp only [RL.cells, List.getElem?_cons_zero, List.getElem?_cons_succ] at b1 b0
          have HS4 := Lib.hid (fun w3 => HSET3.out w2 w3 r' hr2 hst2 ho2)
          have HF2 := Lib.hid (HFR1.out w2 ho2)
          clear HSET3 HFR1 HRK rk hr2 hst2 ho2
          go_wp2_with fail
          refine HF2.out.mono ?_
          rintro e w3 ⟨A', c', rfl, hg3, _, _⟩
          obtain ⟨k1, k2, k3⟩ := HS4.out w3 A' c' m hm hg3
          have HE := Lib.hid k3
          clear k3 HS4 HF2 hg3
          go_wp2
          exact HE.out
  · have hnI : (d.g.stable : Int) + 1 < (n : Int) := by omega
    rw [if_neg hn, show d.g.trim n = d.g from if_neg hn]
    have HE := Lib.hid (show d.Turned w d.g (.int .i64 9) (.returned (.int .i64 9)) w from ⟨d, rfl, rfl, rfl, rfl, h, Only.refl _ _, fun k hk => .inl hk⟩)
    obtain ⟨Q, hQ⟩ : ∃ Q, d.Turned w d.g (.int .i64 9) = Q := ⟨_, rfl⟩
    simp only [hQ] at HE ⊢
    rw [show (((9 : Nat)) : Int) = 9 from rfl, hQ]
    clear hQ h
    unfold RL.ptr
    go_enter Tryd.func22, Tryd.ntmps22
    go_wp2
    exact HE.out
end
end Go.Proofs.YtjahkaockjhibaaDoor
