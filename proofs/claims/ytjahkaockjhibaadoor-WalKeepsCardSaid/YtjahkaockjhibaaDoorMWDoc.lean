/-
  The walks over the document's answer for package wal, part A: a number's bytes; a record's bytes.
-/
import Derived.Test.YtjahkaockjhibaaDoorWalBase
namespace Go.Proofs.YtjahkaockjhibaaDoor
open Go.RowKit

set_option maxRecDepth 100000 in
set_option maxHeartbeats 1000000 in
theorem rnum_any (v : Nat) (w : World) (hv : v < 18446744073709551616) :
    Calls Tryd.prog 72 #[.int .u64 (v : Int)] w fun e w' => e = .returned (.string (tb (be v 8))) ∧ Below w.heap.size w w' := by
  have hmk := make_bytes 8 (by omega) 8 rfl
  have HE := Lib.hid (show ∀ wx (v' : List UInt8), Row wx w.heap.size 5 (byt v') (0, 0) → v'.length = 8 → (convert 80 9 (.slice (some ⟨w.heap.size, 0, none⟩) 8 8)).run Tryd.prog wx = .ok (.string (tb v')) wx from fun wx v' hr hl => text_n (some ⟨w.heap.size, 0, none⟩) v' 8 8 wx hl (row_reads hr))
  have HR0 := Lib.hid (Row.new w 5 (byt (List.replicate 8 0)) (0, 0))
  have HB0 := Lib.hid (show Below w.heap.size w (w.alloc (.cells (byt (List.replicate 8 0)).toArray 5)) from (Below.refl _ _).alloc (Nat.le_refl _) _)
  obtain ⟨o, ho⟩ : ∃ o, w.alloc (.cells (byt (List.replicate 8 0)).toArray 5) = o := ⟨_, rfl⟩
  have HR1 := Lib.hid (show Row o w.heap.size 5 (splice (byt (List.replicate 8 0)) (8 - 0) (byt (be v 0))) (0, 0) from by
    have : splice (byt (List.replicate 8 0)) (8 - 0) (byt (be v 0)) = byt (List.replicate 8 0) := by simp [be, byt, splice]
    rw [this, ← ho]; exact HR0.out)
  have HB1 := Lib.hid (show Below w.heap.size w o from ho ▸ HB0.out)
  have hm := hmk w
  rw [ho] at hm
  clear hmk HR0 HB0 ho
  go_enter Tryd.func72, Tryd.ntmps72
  go_wp2_with fail
  go_loopw [0, 4] (fun x i wr => ∃ k : Nat, k ≤ 8 ∧ i = .int .i64 (7 - (k : Int)) ∧ x = .int .u64 ((v / 256 ^ k : Nat) : Int) ∧ Row wr w.heap.size 5 (splice (byt (List.replicate 8 0)) (8 - k) (byt (be v k))) (0, 0) ∧ Below w.heap.size w wr) (fun _ i _ => (intOf i + 1).toNat)
  case atStart => exact ⟨0, by omega, rfl, by simp, HR1.out, HB1.out⟩
  case round =>
    obtain ⟨k, hk, rfl, rfl, hr, hb⟩ := hrel
    have HR := Lib.hid hr
    have HB := Lib.hid hb
    by_cases hlt : k < 8
    · have hdv := div_step v k
      have hle : v / 256 ^ k ≤ v := Nat.div_le_self _ _
      have HF := Lib.hid (number_fill 8 k v hlt)
      have hsl : (splice (byt (List.replicate 8 0)) (8 - k) (byt (be v k))).length = 8 := by
        rw [length_splice _ _ _ (by rw [byt_length, be_length]; simp [byt]; omega)]; simp [byt]
      have hcell : ∃ u, wr.cell? ⟨w.heap.size, 7 - k, none⟩ = some u := by
        rw [hr.cell]
        exact ⟨_, List.getElem?_eq_getElem (by omega)⟩
      obtain ⟨u, hu⟩ := hcell
      have hfr : wr.frozen? ⟨w.heap.size, 7 - k, none⟩ = false := hr.loose _
      obtain ⟨q2, hq2⟩ : ∃ q2, v / 256 ^ (k + 1) = q2 := ⟨_, rfl⟩
      rw [hq2] at hdv
      have HQ2 := Lib.hid hq2
      have HRN := Lib.hid (show Row (wr.setCell ⟨w.heap.size, 7 - k, none⟩ (.int .u8 (((v / 256 ^ k : Nat) : Int) % 256))) w.heap.size 5 (splice (byt (List.replicate 8 0)) (8 - (k + 1)) (byt (be v (k + 1)))) (0, 0) from by
        have := HR.out.put (7 - k) (.int .u8 (((v / 256 ^ k : Nat) : Int) % 256))
        rwa [show 7 - k = 8 - 1 - k by omega, HF.out] at this)
      generalize v / 256 ^ k = q at *
      have hq0 : (0 : Int) ≤ (q : Int) := by omega
      have hqm : (q : Int) / 256 = (q2 : Int) := by omega
      have hqb : (q : Int) < 18446744073709551616 := by omega
      obtain ⟨m, hm7⟩ : ∃ m, 7 - k = m := ⟨_, rfl⟩
      rw [hm7] at hu hfr HRN
      have hmI : 7 - (k : Int) = (m : Int) := by omega
      have hm8 : m < 8 := by omega
      have HMK := Lib.hid (show (m : Int) - 1 = 7 - ((k + 1 : Nat) : Int) by omega)
      clear hr hb hdv hsl hle hq2 hm7
      rw [hmI]
      go_wp2
      go_roundw
      case rel => exact ⟨k + 1, by omega, by rw [← HMK.out], by rw [HQ2.out], HRN.out, HB.out.setCell (Nat.le_refl _) _⟩
      case measure => simp [intOf]
    · obtain rfl : k = 8 := by omega
      have hspl : splice (byt (List.replicate 8 0)) (8 - 8) (byt (be v 8)) = byt (be v 8) := by
        have e : (byt (be v 8)).length = 8 := by rw [byt_length, be_length]
        unfold splice
        rw [Nat.sub_self, List.take_zero, List.nil_append, Nat.zero_add, List.drop_of_length_le (by rw [e]; simp [byt]), List.append_nil]
      rw [hspl] at HR
      have hct := HE.out wr (be v 8) HR.out (be_length _ _)
      obtain ⟨S, hS⟩ : ∃ S, tb (be v 8) = S := ⟨_, rfl⟩
      rw [hS] at hct
      have HS := Lib.hid hS
      clear hr hb hS hspl
      go_wp2
      go_ret
      exact ⟨by rw [HS.out]; rfl, HB.out⟩


/-- A record's bytes. -/
theorem one_rec_put (e : Ent) : allR [recE e] = one (recE e) := by rw [allR_cons, allR_nil, List.append_nil]

set_option maxRecDepth 100000 in
set_option maxHeartbeats 1000000 in
theorem rbytes_any (x : Ent) (w : World) (hn : x.n < 18446744073709551616) (hd : x.d.length ≤ 30000) :
    Calls Tryd.prog 54 #[entV x] w fun e w' => e = .returned (.string (tb (one (recE x)))) ∧ Below w.heap.size w w' := by
  obtain ⟨o, ho⟩ : ∃ o, w.alloc (.cells #[.int .u64 (x.n : Int), .int .u8 (x.k.toNat : Int), .string (tb x.d)] 48) = o := ⟨_, rfl⟩
  obtain ⟨W, hW⟩ : ∃ W, o.drew = W := ⟨_, rfl⟩
  have HB0 := Lib.hid (show Below w.heap.size w W by rw [← hW, ← ho]; exact ((Below.refl _ _).alloc (Nat.le_refl _) _).drew)
  have hrow : Row W w.heap.size 48 [.int .u64 (x.n : Int), .int .u8 (x.k.toNat : Int), .string (tb x.d)] (0, 0) := by rw [← hW, ← ho]; exact Row.new w 48 [.int .u64 (x.n : Int), .int .u8 (x.k.toNat : Int), .string (tb x.d)] (0, 0)
  have HC := Lib.hid (show ∀ wx, Below W.heap.size W wx → wx.cell? ⟨w.heap.size, 0, none⟩ = some (.int .u64 (x.n : Int)) ∧ wx.cell? ⟨w.heap.size, 1, none⟩ = some (.int .u8 (x.k.toNat : Int)) ∧ wx.cell? ⟨w.heap.size, 2, none⟩ = some (.string (tb x.d)) from fun wx hb => by
    have h := hrow.below hb hrow.lt
    exact ⟨by rw [h.cell]; rfl, by rw [h.cell]; rfl, by rw [h.cell]; rfl⟩)
  have hHeld := HC.out W (Below.refl _ _)
  have HN := Lib.hid (show ∀ q : Unit, Calls Tryd.prog 72 #[.int .u64 (x.n : Int)] W fun e w' => e = .returned (.string (tb (be x.n 8))) ∧ Below W.heap.size W w' from fun _ => rnum_any x.n W hn)
  have HBA := Lib.hid (show ∀ w2, Below W.heap.size W w2 → Below W.heap.size W (w2.alloc (.cells #[.int .u8 (x.k.toNat : Int), .string (tb (be x.n 8 ++ x.d))] 107)) from fun w2 h => h.alloc h.size _)
  have HP := Lib.hid (show ∀ w2, Below W.heap.size W w2 → Calls Tryd.prog 71 #[.slice (some ⟨w2.heap.size, 0, none⟩) 1 1] (w2.alloc (.cells #[.int .u8 (x.k.toNat : Int), .string (tb (be x.n 8 ++ x.d))] 107)) fun e w' => e = .returned (.tuple #[.string (tb (one (recE x))), .int .i64 0]) ∧ Below W.heap.size W w' from fun w2 h => by
    have hr : Recs (w2.alloc (.cells #[.int .u8 (x.k.toNat : Int), .string (tb (be x.n 8 ++ x.d))] 107)) (some ⟨w2.heap.size, 0, none⟩) [recE x] := ⟨fun i hi => by
      obtain rfl : i = 0 := by simpa using hi
      have hrw : Row (w2.alloc (.cells #[.int .u8 (x.k.toNat : Int), .string (tb (be x.n 8 ++ x.d))] 107)) w2.heap.size 107 [.int .u8 (x.k.toNat : Int), .string (tb (be x.n 8 ++ x.d))] (0, 0) := Row.new w2 107 [.int .u8 (x.k.toNat : Int), .string (tb (be x.n 8 ++ x.d))] (0, 0)
      exact ⟨w2.heap.size, 0, rfl, hrw.lt, by rw [hrw.cell]; rfl, by rw [hrw.cell]; rfl⟩⟩
    have hb : Below W.heap.size W (w2.alloc (.cells #[.int .u8 (x.k.toNat : Int), .string (tb (be x.n 8 ++ x.d))] 107)) := h.alloc h.size _
    refine (rput_any (some ⟨w2.heap.size, 0, none⟩) [recE x] 1 _ hr (by simp) (fun r hr2 => by rw [List.mem_singleton] at hr2; subst hr2; rw [recE_len]; omega)).mono fun e w' ⟨h1, h2⟩ => ⟨by rw [h1, one_rec_put], hb.trans (h2.mono hb.size)⟩)
  have hX := tb_app (be x.n 8) x.d
  have z1 : (tb (be x.n 8)).size = 8 := by rw [tb_size, be_length]
  have z2 : (tb x.d).size = x.d.length := tb_size _
  have q1 : ¬ 9223372036854775807 < 8 + x.d.length := by omega
  have HNn := HN.out ()
  clear HN
  have HN := Lib.hid (fun _ : Unit => HNn)
  clear HNn
  generalize tb (one (recE x)) = Y at *
  generalize tb (be x.n 8 ++ x.d) = Z at *
  generalize tb (be x.n 8) = Bn at *
  unfold entV
  generalize tb x.d = D at *
  generalize x.k.toNat = kq at *
  clear hrow
  go_enter Tryd.func54, Tryd.ntmps54
  go_wp2_with fail
  refine wp_region_noPanic ?_
  refine wp_region_sch (fun wx => wx.cell? ⟨w.heap.size, 0, none⟩ = some (.int .u64 (x.n : Int)) ∧ wx.cell? ⟨w.heap.size, 1, none⟩ = some (.int .u8 (kq : Int)) ∧ wx.cell? ⟨w.heap.size, 2, none⟩ = some (.string D)) (fun i => [4, 9, 10].contains i)
    (.takes [0, 1, 2, 3, 5, 6] (.run 4 (.takes [7, 8] (.run 9 (.run 10 (.takes [11, 12, 13, 14, 15] .done)))))) (by kernel_rfl) (fun _ _ _ _ _ h => h) (by kernel_rfl) ?_
  rw [hW]
  clear hW ho
  iterate 6 (
    refine sch_takes_cons ?_
    first
      | (refine sch_take (v := ?_) rfl (by assumption) (by rfl) ?_ ?_; rotate_left; (focus (intro wy hSy; (try dsimp only at hSy); go_simp; (try with_reducible rfl))))
      | (refine sch_pass rfl (by assumption) (by rfl) ?_)
    simp only [Act.put, List.setIfInBounds_toArray, List.set_cons_zero, List.set_cons_succ])
  refine sch_takes_nil ?_
  refine sch_run rfl (fun K hK => ?_)
  go_simp
  refine (HN.out ()).mono ?_
  rintro e w2 ⟨rfl, hb2⟩
  have hHeld := HC.out w2 hb2
  try dsimp only
  refine hK.out _ _ (fun _ => hHeld) ?_
  clear hK K
  try simp only [Act.put, List.setIfInBounds_toArray, List.set_cons_zero, List.set_cons_succ]
  iterate 2 (
    refine sch_takes_cons ?_
    first
      | (refine sch_take (v := ?_) rfl (by assumption) (by rfl) ?_ ?_; rotate_left; (focus (intro wy hSy; (try dsimp only at hSy); go_simp; (try with_reducible rfl))))
      | (refine sch_pass rfl (by assumption) (by rfl) ?_)
    simp only [Act.put, List.setIfInBounds_toArray, List.set_cons_zero, List.set_cons_succ])
  refine sch_takes_nil ?_
  refine sch_run rfl (fun K hK => ?_)
  go_simp
  have hHeld := HC.out _ (HBA.out w2 hb2)
  refine hK.out _ _ (fun _ => hHeld) ?_
  clear hK K
  try simp only [Act.put, List.setIfInBounds_toArray, List.set_cons_zero, List.set_cons_succ]
  refine sch_run rfl (fun K hK => ?_)
  go_simp
  refine (HP.out w2 hb2).mono ?_
  rintro e w3 ⟨rfl, hb3⟩
  have hHeld := HC.out w3 hb3
  try dsimp only
  refine hK.out _ _ (fun _ => hHeld) ?_
  clear hK K
  try simp only [Act.put, List.setIfInBounds_toArray, List.set_cons_zero, List.set_cons_succ]
  iterate 5 (
    refine sch_takes_cons ?_
    first
      | (refine sch_take (v := ?_) rfl (by assumption) (by rfl) ?_ ?_; rotate_left; (focus (intro wy hSy; (try dsimp only at hSy); go_simp; (try with_reducible rfl))))
      | (refine sch_pass rfl (by assumption) (by rfl) ?_)
    simp only [Act.put, List.setIfInBounds_toArray, List.set_cons_zero, List.set_cons_succ])
  refine sch_takes_nil ?_
  refine sch_done ?_
  refine NoPanic.normal ?_
  have HE := Lib.hid hb3
  clear hb2 hb3 hHeld
  go_wp2
  go_ret
  exact ⟨rfl, HB0.out.trans (HE.out.mono HB0.out.size)⟩
end Go.Proofs.YtjahkaockjhibaaDoor

/-
  The walk over the document's answer for package wal, part B: the records of bytes.
-/
namespace Go.Proofs.YtjahkaockjhibaaDoor
open Go.RowKit

/-- The records that bytes are, and how many bytes they have. -/
def logRead (b : List UInt8) : Option (List Ent × Nat) := if (scan b).2.2 = 2 then none else (entsOf 0 (scan b).1).map fun m => (m, (scan b).2.1)

/-- What read hands back. -/
def RReadV (b : List UInt8) (w : World) (e : Ending) (w' : World) : Prop :=
  (logRead b = none ∧ e = .returned (.tuple #[.slice none 0 0, .int .i64 0, .bool false]) ∧ Below w.heap.size w w') ∨
  ∃ (m : List Ent) (n : Nat) (A : Option Addr) (c : Nat), logRead b = some (m, n) ∧ e = .returned (.tuple #[.slice A m.length c, .int .i64 (n : Int), .bool true]) ∧ GrE w m (.slice A m.length c) w' ∧ m.length ≤ c ∧ (A = none → c = 0)

theorem logRead_bad {b : List UInt8} (h : (scan b).2.2 = 2) : logRead b = none := if_pos h
theorem logRead_none {b : List UInt8} (h : entsOf 0 (scan b).1 = none) : logRead b = none := by
  unfold logRead
  split
  · rfl
  · rw [h]; rfl
theorem logRead_some {b : List UInt8} {m : List Ent} (h2 : (scan b).2.2 ≠ 2) (h : entsOf 0 (scan b).1 = some m) : logRead b = some (m, (scan b).2.1) := by
  unfold logRead
  rw [if_neg h2, h]; rfl

/-- In the midst of it: these are told, this was the last number, those are left. -/
def Midst (rs : List Rec) (m : List Ent) (p : Nat) (rest : List Rec) : Prop := entsOf 0 rs = (entsOf p rest).map (m ++ ·)
theorem Midst.none {rs : List Rec} {m : List Ent} {p : Nat} {r : Rec} {rest : List Rec} (h : Midst rs m p (r :: rest)) (hr : entOf r = .none) : entsOf 0 rs = .none := by
  unfold Midst at h
  rw [h]; simp only [entsOf, hr]; rfl
theorem Midst.gap {rs : List Rec} {m : List Ent} {p : Nat} {r : Rec} {rest : List Rec} {e : Ent} (h : Midst rs m p (r :: rest)) (hr : entOf r = some e) (hp : ¬ (p = 0 ∨ e.n = p + 1)) : entsOf 0 rs = .none := by
  unfold Midst at h
  rw [h]; simp only [entsOf, hr, if_neg hp]; rfl
theorem Midst.on {rs : List Rec} {m : List Ent} {p : Nat} {r : Rec} {rest : List Rec} {e : Ent} (h : Midst rs m p (r :: rest)) (hr : entOf r = some e) (hp : p = 0 ∨ e.n = p + 1) : Midst rs (m ++ [e]) e.n rest := by
  unfold Midst at h ⊢
  rw [h]; simp only [entsOf, hr, if_pos hp]
  cases entsOf e.n rest with
  | none => rfl
  | some t => simp
theorem Midst.done {rs : List Rec} {m : List Ent} {p : Nat} (h : Midst rs m p []) : entsOf 0 rs = some m := by
  unfold Midst at h
  rw [h]; simp [entsOf]

theorem entOf_short {r : Rec} (h : r.d.length < 8) : entOf r = none := by unfold entOf; rw [if_neg (fun x => by have := x.1; omega)]
theorem entOf_zero {r : Rec} (h : val (r.d.take 8) = 0) : entOf r = none := by unfold entOf; rw [if_neg (fun x => x.2.1 h)]
theorem entOf_great {r : Rec} (h : 281474976710656 < val (r.d.take 8)) : entOf r = none := by unfold entOf; rw [if_neg (fun x => by have := x.2.2; omega)]
theorem entOf_ok {r : Rec} (h8 : 8 ≤ r.d.length) (h0 : val (r.d.take 8) ≠ 0) (h1 : val (r.d.take 8) ≤ 281474976710656) : entOf r = some ⟨val (r.d.take 8), r.k, r.d.drop 8⟩ := by unfold entOf; rw [if_pos ⟨h8, h0, h1⟩]

/-- The last number: 0 if there is none. -/
def lastN (m : List Ent) : Nat := (m.getLast?.map (·.n)).getD 0
theorem lastN_snoc (m : List Ent) (e : Ent) : lastN (m ++ [e]) = e.n := by simp [lastN]

theorem index_at (x : List UInt8) (j : Nat) (h : j < x.length) : ∀ W : World, (Instr.index 9 (.string (tb x)) (.int .i64 (j : Int))).run Tryd.prog W = .ok (.int .u8 ((x[j]).toNat : Int)) W := fun W => by
  rw [run_index_string _ _ _ _ _ Tryd.underlying9, dif_pos ⟨by omega, by rw [tb_size]; omega⟩]
  congr 3
theorem val_step (x : List UInt8) (j : Nat) (h : j < x.length) : val (x.take (j + 1)) = val (x.take j) * 256 + (x[j]).toNat := by
  rw [List.take_succ_eq_append_getElem h, val_snoc]

set_option maxRecDepth 100000 in
set_option maxHeartbeats 4000000 in
theorem rread8_any (b : List UInt8) (w : World) (hmax : b.length ≤ 30000) : Calls Tryd.prog 43 #[.string (tb b)] w (RReadV b w) := by
  have HS := Lib.hid (rscan_any b w hmax)
  have HNO := Lib.hid (show ∀ w', logRead b = none → Below w.heap.size w w' → RReadV b w (.returned (.tuple #[.slice none 0 0, .int .i64 0, .bool false])) w' from fun w' h1 h2 => .inl ⟨h1, rfl, h2⟩)
  have HYE := Lib.hid (show ∀ (m : List Ent) (n : Nat) (A : Option Addr) (c : Nat) w', logRead b = some (m, n) → GrE w m (.slice A m.length c) w' → m.length ≤ c → (A = none → c = 0) → RReadV b w (.returned (.tuple #[.slice A m.length c, .int .i64 (n : Int), .bool true])) w' from fun m n A c w' h1 h2 h3 h4 => .inr ⟨m, n, A, c, h1, rfl, h2, h3, h4⟩)
  have HL2 := Lib.hid (fun (h : (scan b).2.2 = 2) => logRead_bad h)
  have HLN := Lib.hid (fun (h : entsOf 0 (scan b).1 = none) => logRead_none h)
  have HLS := Lib.hid (fun (h2 : (scan b).2.2 ≠ 2) (m : List Ent) (h : entsOf 0 (scan b).1 = some m) => logRead_some h2 h)
  have hfit := (scan_takes _ b (Nat.le_refl _)).2.2.2
  have hrl := scan_len b
  have hx2 := (scan_takes _ b (Nat.le_refl _)).2.2.1
  obtain ⟨Q, hQ⟩ : ∃ Q, RReadV b w = Q := ⟨_, rfl⟩
  rw [hQ] at HNO HYE
  rw [hQ]
  obtain ⟨lr, hlr⟩ : ∃ lr, logRead b = lr := ⟨_, rfl⟩
  rw [hlr] at HL2 HLN HLS HNO HYE
  generalize scan b = SC at *
  obtain ⟨rs, n, x⟩ := SC
  simp only at HL2 HLN HLS HS hfit hrl hx2
  have hrl2 : rs.length ≤ 30000 := by omega
  generalize tb b = sb at *
  have HF := Lib.hid hfit
  clear hQ hlr hfit hmax hrl
  go_enter Tryd.func43, Tryd.ntmps43
  go_wp2_with fail
  refine HS.out.mono ?_
  rintro e w1 ⟨A, c, rfl, _, _, hr, hb1⟩
  have HR := Lib.hid hr
  have HB1 := Lib.hid hb1
  have HG0 := Lib.hid (GrE.nil (Below.refl w1.heap.size w1))
  clear hr hb1 HS
  by_cases h2 : x = 2
  · subst h2
    have HE := Lib.hid (HNO.out w1 (HL2.out rfl) HB1.out)
    clear HNO HYE HL2 HLN HLS
    go_wp2
    refine bodyPost_ret (v := .tuple #[.slice none 0 0, .int .i64 0, .bool false]) (by simp [results, Tryd.results43, go_sem]) rfl ?_
    exact HE.out
  have hxI : ¬ (x : Int) = 2 := by omega
  have hxB : ((x : Int) == 2) = false := beq_eq_false_iff_ne.2 hxI
  have HX := Lib.hid h2
  clear h2 HL2 hx2
  go_wp2_with fail
  go_loopw [8, 9] (fun vo vi wr => ∃ (k : Nat) (m : List Ent) (u : Value), k ≤ rs.length ∧ m.length = k ∧ u = vo ∧ vi = .int .i64 k ∧ Midst rs m (lastN m) (rs.drop k) ∧ (∀ e ∈ m, e.n ≠ 0 ∧ e.n ≤ 281474976710656) ∧ GrE w1 m u wr) (fun _ vi _ => rs.length - (intOf vi).toNat)
  case atStart => exact ⟨0, [], _, by omega, rfl, rfl, rfl, by unfold Midst; simp [lastN], (fun e he => by cases he), HG0.out⟩
  case round =>
    obtain ⟨k, m, v, hk, hmk, rfl, rfl, hmid, hnz, hg⟩ := hrel
    have hbk := hg.2
    have HM := Lib.hid hmid
    have HNZ := Lib.hid hnz
    have HG := Lib.hid hg
    have HBK := Lib.hid hbk
    obtain ⟨Ao, co, hv, hco, hao⟩ := hg.slot
    rw [hmk] at hv hco
    subst hv
    have HCO := Lib.hid (And.intro hco hao)
    clear hmid hnz hg hco hao HG0
    by_cases hlt : k < rs.length
    · obtain ⟨g, off, rfl, _, h1, h2⟩ := (HR.out.keeps hbk).at_ k hlt
      have hdr : rs.drop k = rs[k] :: rs.drop (k + 1) := List.drop_eq_getElem_cons hlt
      rw [hdr] at HM
      obtain ⟨r, hr⟩ : ∃ r, rs[k] = r := ⟨_, rfl⟩
      rw [hr] at HM h1 h2
      have hrd : r.d.length ≤ 262144 := hr ▸ HF.out _ (List.getElem_mem hlt)
      have zd : (tb r.d).size = r.d.length := tb_size _
      have HGB := Lib.hid (show Below w.heap.size w wr from HB1.out.trans (HBK.out.mono HB1.out.size))
      have hkI : (k : Int) < (rs.length : Int) := by omega
      have hrk0 := Lib.hid hr
      clear hdr hr hbk
      by_cases h8 : r.d.length < 8
      · have h8I : (r.d.length : Int) < 8 := by omega
        have HE := Lib.hid (HNO.out wr (HLN.out (HM.out.none (entOf_short h8))) HGB.out)
        generalize tb r.d = sd at *
        clear HNO HYE HLN HLS h8 HM
        go_wp2
        refine bodyPost_ret (v := .tuple #[.slice none 0 0, .int .i64 0, .bool false]) (by simp [results, Tryd.results43, go_sem]) rfl ?_
        exact HE.out
      have h8I : ¬ (r.d.length : Int) < 8 := by omega
      have h8J : (8 : Int) ≤ (r.d.length : Int) := by omega
      replace h8 : 8 ≤ r.d.length := by omega
      have hX8 : (tb r.d).extract 8 r.d.length = tb (r.d.drop 8) := by rw [tb_cut, List.take_length]
      have HIX := Lib.hid (fun j (hj : j < 8) => index_at r.d j (by omega))
      have HVS := Lib.hid (fun j (hj : j < 8) => val_step r.d j (by omega))
      have HVL := Lib.hid (fun j (hj : j < 8) => show val (r.d.take j) < 256 ^ 7 from by
        have h := val_lt (r.d.take j)
        rw [List.length_take, Nat.min_eq_left (by omega)] at h
        exact Nat.lt_of_lt_of_le h (Nat.pow_le_pow_right (by omega) (by omega)))
      have HD8 := Lib.hid (show (r.d.take 0).foldl (fun n c => n * 256 + c.toNat) 0 = 0 from rfl)
      obtain ⟨wd, hwd⟩ : ∃ wd, wr.drew = wd := ⟨_, rfl⟩
      have hbd : Below wr.heap.size wr wd := hwd ▸ ⟨rfl, rfl, rfl, Nat.le_refl _, fun _ _ => rfl⟩
      have HBD := Lib.hid hbd
      have HSZ := Lib.hid (show wd.heap.size = wr.heap.size from by rw [← hwd]; rfl)
      have HGD := Lib.hid (HG.out.keeps hbd)
      have hRD := HR.out.keeps (HBK.out.trans (hbd.mono HBK.out.size))
      have HRD := Lib.hid hRD
      have HCR := Lib.hid (show ∀ wx, Below wd.heap.size wd wx → wx.cell? ⟨g, off + k * 2, none⟩ = some (.int .u8 (r.k.toNat : Int)) ∧ wx.cell? ⟨g, off + k * 2 + 1, none⟩ = some (.string (tb r.d)) from fun wx hb => by
        obtain ⟨g', off', hA', hg', c1, c2⟩ := hRD.at_ k hlt
        simp only [Option.some.injEq, Addr.mk.injEq, and_true] at hA'
        obtain ⟨rfl, rfl⟩ := hA'
        have hrk : rs[k] = r := hrk0.out
        rw [hrk] at c1 c2
        exact ⟨(hb.cell (p := ⟨g, off + k * 2, none⟩) hg').trans c1, (hb.cell (p := ⟨g, off + k * 2 + 1, none⟩) hg').trans c2⟩)
      have hHeld := HCR.out wd (Below.refl _ _)
      clear hRD hbd
      go_wp2_with fail
      refine wp_region_noPanic ?_
      refine wp_region_sch (fun wx => wx.cell? ⟨g, off + k * 2, none⟩ = some (.int .u8 (r.k.toNat : Int)) ∧ wx.cell? ⟨g, off + k * 2 + 1, none⟩ = some (.string (tb r.d))) (fun i => [12, 13].contains i)
        (.takes [0, 1, 2, 3, 4, 5, 6, 7, 8, 9, 10, 11] (.run 12 (.run 13 .done))) (by kernel_rfl) (fun _ _ _ _ _ h => h) (by kernel_rfl) ?_
      rw [hwd]
      clear hwd
      iterate 12 (
        refine sch_takes_cons ?_
        first
          | (refine sch_take (v := ?_) rfl (by assumption) (by rfl) ?_ ?_; rotate_left; (focus (intro wy hSy; (try dsimp only at hSy); go_simp; (try with_reducible rfl))))
          | (refine sch_pass rfl (by assumption) (by rfl) ?_)
        simp only [Act.put, List.setIfInBounds_toArray, List.set_cons_zero, List.set_cons_succ])
      refine sch_takes_nil ?_
      refine sch_run rfl (fun K hK => ?_)
      go_simp
      have hHeld := HCR.out (wd.alloc (.cells #[.int .u64 0, .int .u8 0, .string ⟨#[]⟩] 48)) ((Below.refl wd.heap.size wd).alloc (Nat.le_refl _) _)
      refine hK.out _ _ (fun _ => hHeld) ?_
      clear hK K
      try simp only [Act.put, List.setIfInBounds_toArray, List.set_cons_zero, List.set_cons_succ]
      refine sch_last rfl (by kernel_rfl) (fun K hK => ?_)
      go_simp
      refine hK.out _ _ ?_
      clear hK K
      try simp only [Act.put, List.setIfInBounds_toArray, List.set_cons_zero, List.set_cons_succ]
      refine sch_done ?_
      refine NoPanic.normal ?_
      obtain ⟨wb, hwb⟩ : ∃ wb, wd.alloc (.cells #[.int .u64 0, .int .u8 (r.k.toNat : Int), .string (tb (r.d.drop 8))] 48) = wb := ⟨_, rfl⟩
      have HB5 := Lib.hid (show Below wd.heap.size wd wb from hwb ▸ (Below.refl _ _).alloc (Nat.le_refl _) _)
      have HW5 := Lib.hid (show Row wb wd.heap.size 48 [.int .u64 ((val (r.d.take 0) : Nat) : Int), .int .u8 (r.k.toNat : Int), .string (tb (r.d.drop 8))] (0, 0) from hwb ▸ Row.new wd 48 [.int .u64 0, .int .u8 (r.k.toNat : Int), .string (tb (r.d.drop 8))] (0, 0))
      go_wp2_with fail
      try rw [hwb]
      clear hwb
      go_loopw [11] (fun vj wj => ∃ j : Nat, j ≤ 8 ∧ vj = .int .i64 j ∧ Row wj wd.heap.size 48 [.int .u64 ((val (r.d.take j) : Nat) : Int), .int .u8 (r.k.toNat : Int), .string (tb (r.d.drop 8))] (0, 0) ∧ Below wd.heap.size wd wj) (fun vj _ => 8 - (intOf vj).toNat)
      case atStart => exact ⟨0, by omega, rfl, HW5.out, HB5.out⟩
      case round =>
        obtain ⟨j, hj, rfl, hrw, hbj⟩ := hrel
        have HRW := Lib.hid hrw
        have HBJ := Lib.hid hbj
        clear hrw hbj
        by_cases hj8 : j < 8
        · have hix := HIX.out j hj8
          have hvs := HVS.out j hj8
          have hvl := HVL.out j hj8
          have hbl := (r.d[j]'(by omega)).toNat_lt
          have HRN := Lib.hid (show ∀ n : Nat, Row ((wr.drewN n).setCell ⟨wd.heap.size, 0, none⟩ (.int .u64 ((val (r.d.take (j + 1)) : Nat) : Int))) wd.heap.size 48 [.int .u64 ((val (r.d.take (j + 1)) : Nat) : Int), .int .u8 (r.k.toNat : Int), .string (tb (r.d.drop 8))] (0, 0) from fun n => (HRW.out.drewN n).put 0 _)
          have HBN := Lib.hid (show ∀ (n : Nat) (u : Value), Below wd.heap.size wd ((wr.drewN n).setCell ⟨wd.heap.size, 0, none⟩ u) from fun n u => (below_draw HBJ.out n).setCell (Nat.le_refl _) _)
          generalize hN1 : val (r.d.take (j + 1)) = N1 at *
          generalize val (r.d.take j) = N0 at *
          generalize (r.d[j]'(by omega)).toNat = bj at *
          have e1 : 256 * (N0 : Int) + (bj : Int) = (N1 : Int) := by omega
          have w1' : IntKind.u64.wrap (256 * (N0 : Int)) = 256 * (N0 : Int) := IntWalk.u64_in _ (by omega)
          have w2' : IntKind.u64.wrap (N1 : Int) = (N1 : Int) := IntWalk.u64_in _ (by omega)
          have wbj : IntKind.u64.wrap (bj : Int) = (bj : Int) := IntWalk.u64_in _ (by omega)
          have HN1 := Lib.hid hN1
          have c0 : wr.drew.cell? ⟨wd.heap.size, 0, none⟩ = some (.int .u64 (N0 : Int)) := by rw [HRW.out.drew.cell]; rfl
          have f0 : wr.drew.frozen? ⟨wd.heap.size, 0, none⟩ = false := HRW.out.drew.loose 0
          obtain ⟨k1, k2⟩ := HCR.out wr.drew (below_draw HBJ.out 1)
          have hj8I : (j : Int) < 8 := by omega
          clear hvs hvl hN1 hbl
          go_wp2_with fail
          refine wp_region_noPanic ?_
          refine wp_region_sch (fun wx => wx.cell? ⟨wd.heap.size, 0, none⟩ = some (.int .u64 (N0 : Int)) ∧ wx.cell? ⟨g, off + k * 2 + 1, none⟩ = some (.string (tb r.d))) (fun i => [13].contains i)
            (.takes [0, 1, 2, 3, 4, 5, 6, 7, 8, 9, 10, 11, 12] (.run 13 .done)) (by kernel_rfl) (fun _ _ _ _ _ h => h) (by kernel_rfl) ?_
          have hHeld := And.intro c0 k2
          iterate 13 (
            refine sch_takes_cons ?_
            first
              | (refine sch_take (v := ?_) rfl (by assumption) (by rfl) ?_ ?_; rotate_left; (focus (intro wy hSy; (try dsimp only at hSy); go_simp; (try with_reducible rfl))))
              | (refine sch_pass rfl (by assumption) (by rfl) ?_)
            simp only [Act.put, List.setIfInBounds_toArray, List.set_cons_zero, List.set_cons_succ])
          refine sch_takes_nil ?_
          refine sch_last rfl (by kernel_rfl) (fun K hK => ?_)
          go_simp
          refine hK.out _ _ ?_
          clear hK K
          try simp only [Act.put, List.setIfInBounds_toArray, List.set_cons_zero, List.set_cons_succ]
          refine sch_done ?_
          refine NoPanic.normal ?_
          go_wp2
          go_roundw
          case rel => exact ⟨j + 1, by omega, by go_num, by rw [HN1.out]; exact HRN.out 1, HBN.out 1 _⟩
          case measure => simp [intOf]; omega
        · obtain rfl : j = 8 := by omega
          have HB8 := Lib.hid (show Below w.heap.size w wr from HB1.out.trans ((HGD.out.2.trans (HBJ.out.mono HGD.out.2.size)).mono HB1.out.size))
          have HG8 := Lib.hid (HGD.out.keeps HBJ.out)
          have c0 : wr.cell? ⟨wd.heap.size, 0, none⟩ = some (.int .u64 ((val (r.d.take 8) : Nat) : Int)) := by rw [HRW.out.cell]; rfl
          have c1 : wr.cell? ⟨wd.heap.size, 1, none⟩ = some (.int .u8 (r.k.toNat : Int)) := by rw [HRW.out.cell]; rfl
          have c2 : wr.cell? ⟨wd.heap.size, 2, none⟩ = some (.string (tb (r.d.drop 8))) := by rw [HRW.out.cell]; rfl
          have HLT := Lib.hid (HRW.out.lt)
          have HV0 := Lib.hid (fun h => entOf_zero (r := r) h)
          have HVG := Lib.hid (fun h => entOf_great (r := r) h)
          have HVO := Lib.hid (fun h0 h1 => entOf_ok (r := r) h8 h0 h1)
          obtain ⟨N, hN⟩ : ∃ N, val (r.d.take 8) = N := ⟨_, rfl⟩
          rw [hN] at c0 HV0 HVG HVO
          by_cases hN0 : N = 0
          · subst hN0
            have HE := Lib.hid (fun n => HNO.out (wr.drewN n) (HLN.out (HM.out.none (HV0.out rfl))) (below_draw HB8.out n))
            clear HNO HYE HLN HLS hN h8
            go_wp2_with (go_quiet (fail))
            go_wp2
            refine bodyPost_ret (v := .tuple #[.slice none 0 0, .int .i64 0, .bool false]) (by simp [results, Tryd.results43, go_sem]) rfl ?_
            exact HE.out _
          have hN0I : ¬ (N : Int) = 0 := by omega
          have hN0B : ((N : Int) == 0) = false := beq_eq_false_iff_ne.2 hN0I
          by_cases hNG : 281474976710656 < N
          · have HE := Lib.hid (fun n => HNO.out (wr.drewN n) (HLN.out (HM.out.none (HVG.out hNG))) (below_draw HB8.out n))
            have hNGI : (281474976710656 : Int) < (N : Int) := by omega
            clear HNO HYE HLN HLS hN h8 hNG hN0
            go_wp2_with (go_quiet (fail))
            go_wp2
            refine bodyPost_ret (v := .tuple #[.slice none 0 0, .int .i64 0, .bool false]) (by simp [results, Tryd.results43, go_sem]) rfl ?_
            exact HE.out _
          have hNGI : ¬ (281474976710656 : Int) < (N : Int) := by omega
          have hNGD : decide ((281474976710656 : Int) < (N : Int)) = false := decide_eq_false hNGI
          clear hNGI
          have HVE := Lib.hid (HVO.out hN0 (by omega))
          by_cases hk0 : k = 0
          · have HON := Lib.hid (HM.out.on HVE.out (.inl (by have : m = [] := List.eq_nil_of_length_eq_zero (by omega); rw [this]; rfl)))
            have hk0D : decide ((0 : Int) < (k : Int)) = false := decide_eq_false (by omega)
            have hk0N : decide (0 < k) = false := decide_eq_false (by omega)
            clear hk0
            have c0d : wr.drew.cell? ⟨wd.heap.size, 0, none⟩ = some (.int .u64 (N : Int)) := c0
            go_wp2_with fail
            refine wp_region_noPanic ?_
            refine wp_region_sch (fun wx => wx.cell? ⟨wd.heap.size, 0, none⟩ = some (.int .u64 (N : Int))) (fun i => [].contains i)
              (.takes [0, 1, 2, 3, 4, 5, 6, 7, 8, 9, 10, 11, 12, 13, 14, 15, 16, 17, 18, 19, 20, 21, 22, 23] .done) (by kernel_rfl) (fun _ _ _ _ _ h => h) (by kernel_rfl) ?_
            have hHeld := c0d
            iterate 24 (
              refine sch_takes_cons ?_
              first
                | (refine sch_take (v := ?_) rfl (by assumption) (by rfl) ?_ ?_; rotate_left; (focus (intro wy hSy; (try dsimp only at hSy); go_simp; (try with_reducible rfl))))
                | (refine sch_pass rfl (by assumption) (by rfl) ?_)
              simp only [Act.put, List.setIfInBounds_toArray, List.set_cons_zero, List.set_cons_succ])
            refine sch_takes_nil ?_
            refine sch_done ?_
            refine NoPanic.normal ?_
            obtain ⟨wq, hwq⟩ : ∃ wq, wr.drew = wq := ⟨_, rfl⟩
            have hbq : Below wr.heap.size wr wq := hwq ▸ ⟨rfl, rfl, rfl, Nat.le_refl _, fun _ _ => rfl⟩
            have HBQ := Lib.hid hbq
            have HGQ := Lib.hid (HG8.out.keeps hbq)
            have q0 : wq.cell? ⟨wd.heap.size, 0, none⟩ = some (.int .u64 (N : Int)) := (hbq.cell (Nat.lt_of_lt_of_le HLT.out (Nat.le_refl _))).trans c0
            have q1 : wq.cell? ⟨wd.heap.size, 1, none⟩ = some (.int .u8 (r.k.toNat : Int)) := (hbq.cell (Nat.lt_of_lt_of_le HLT.out (Nat.le_refl _))).trans c1
            have q2 : wq.cell? ⟨wd.heap.size, 2, none⟩ = some (.string (tb (r.d.drop 8))) := (hbq.cell (Nat.lt_of_lt_of_le HLT.out (Nat.le_refl _))).trans c2
            rw [hwq]
            have HGA := Lib.hid (HGQ.out.alloc (.cells (entC ⟨N, r.k, r.d.drop 8⟩).toArray 48))
            have HNA := Lib.hid (new_ent wq 48 ⟨N, r.k, r.d.drop 8⟩)
            have hll : m.length ≤ 5000000 := by omega
            have HNN := Lib.hid (And.intro hN0 hNG)
            clear hwq hbq c0 c1 c2
            go_wp2_with (at_builtin; refine wpList_ent ⟨N, r.k, r.d.drop 8⟩ rfl (.tmp 86) (.tmp 88) rfl rfl HGA.out ⟨wq.heap.size, 0, none⟩ 1 rfl HNA.out hll ?_)
            intro v8 w8 hg8 _
            have HG9 := Lib.hid hg8
            clear hg8 HGA HNA q0 q1 q2 HGQ HBQ
            go_wp2
            go_roundw
            case rel => exact ⟨k + 1, m ++ [⟨N, r.k, r.d.drop 8⟩], _, by omega, by simp [hmk], rfl, by go_num, by rw [lastN_snoc]; exact HON.out, (fun e he => by
                rcases List.mem_append.1 he with h | h
                · exact HNZ.out e h
                · rw [List.mem_singleton.1 h]; exact ⟨HNN.out.1, Nat.le_of_not_lt HNN.out.2⟩), HG9.out⟩
            case measure => simp [intOf]; omega
          · have hk0D : decide ((0 : Int) < (k : Int)) = true := decide_eq_true (by omega)
            have hk0N : decide (0 < k) = true := decide_eq_true (by omega)
            have hlm : m.length - 1 < m.length := by omega
            obtain ⟨g2, off2, hA2, hg2, d1, d2, d3⟩ := HG8.out.ents_of hmk (m.length - 1) hlm
            have hlast : lastN m = (m[m.length - 1]'hlm).n := by
              unfold lastN
              rw [List.getLast?_eq_getElem?, List.getElem?_eq_getElem hlm]
              rfl
            rw [hlast] at HM
            rw [show off2 + (m.length - 1) * 3 = off2 + (k - 1) * 3 by rw [hmk]] at d1
            have hpb := (HNZ.out _ (List.getElem_mem hlm)).2
            obtain ⟨p, hp⟩ : ∃ p, (m[m.length - 1]'hlm).n = p := ⟨_, rfl⟩
            rw [hp] at HM d1 hpb
            have hpz : p ≠ 0 := hp ▸ (HNZ.out _ (List.getElem_mem hlm)).1
            subst hA2
            have wp1 : IntKind.u64.wrap ((p : Int) + 1) = (p : Int) + 1 := IntWalk.u64_in _ (by omega)
            have wk1 : IntKind.i64.wrap ((k : Int) - 1) = (k : Int) - 1 := IntWalk.i64_in _ (by omega)
            obtain ⟨k', hk'⟩ : ∃ k', k - 1 = k' := ⟨_, rfl⟩
            have hkk : (k : Int) - 1 = (k' : Int) := by omega
            have hk'l : (k' : Int) < (k : Int) := by omega
            have wk2 : IntKind.i64.wrap (k' : Int) = (k' : Int) := IntWalk.i64_in _ (by omega)
            rw [hk'] at d1
            clear d2 d3 hlast hp hk' hg2 hlm
            by_cases hgap : N = p + 1
            · have HON := Lib.hid (HM.out.on HVE.out (.inr hgap))
              have hgI : (N : Int) = (p : Int) + 1 := by omega
              have hgB : ((N : Int) == (p : Int) + 1) = true := by rw [hgI]; simp
              clear hgap hgI
              have c0d : wr.drew.cell? ⟨wd.heap.size, 0, none⟩ = some (.int .u64 (N : Int)) := c0
              have d1d : wr.drew.cell? ⟨g2, off2 + k' * 3, none⟩ = some (.int .u64 (p : Int)) := d1
              go_wp2_with fail
              refine wp_region_noPanic ?_
              refine wp_region_sch (fun wx => wx.cell? ⟨wd.heap.size, 0, none⟩ = some (.int .u64 (N : Int)) ∧ wx.cell? ⟨g2, off2 + k' * 3, none⟩ = some (.int .u64 (p : Int))) (fun i => [].contains i)
                (.takes [0, 1, 2, 3, 4, 5, 6, 7, 8, 9, 10, 11, 12, 13, 14, 15, 16, 17, 18, 19, 20, 21, 22, 23] .done) (by kernel_rfl) (fun _ _ _ _ _ h => h) (by kernel_rfl) ?_
              have hHeld := And.intro c0d d1d
              iterate 24 (
                refine sch_takes_cons ?_
                first
                  | (refine sch_take (v := ?_) rfl (by assumption) (by rfl) ?_ ?_; rotate_left; (focus (intro wy hSy; (try dsimp only at hSy); go_simp; (try with_reducible rfl))))
                  | (refine sch_pass rfl (by assumption) (by rfl) ?_)
                simp only [Act.put, List.setIfInBounds_toArray, List.set_cons_zero, List.set_cons_succ])
              refine sch_takes_nil ?_
              refine sch_done ?_
              refine NoPanic.normal ?_
              obtain ⟨wq, hwq⟩ : ∃ wq, wr.drew = wq := ⟨_, rfl⟩
              have hbq : Below wr.heap.size wr wq := hwq ▸ ⟨rfl, rfl, rfl, Nat.le_refl _, fun _ _ => rfl⟩
              have HBQ := Lib.hid hbq
              have HGQ := Lib.hid (HG8.out.keeps hbq)
              have q0 : wq.cell? ⟨wd.heap.size, 0, none⟩ = some (.int .u64 (N : Int)) := (hbq.cell (Nat.lt_of_lt_of_le HLT.out (Nat.le_refl _))).trans c0
              have q1 : wq.cell? ⟨wd.heap.size, 1, none⟩ = some (.int .u8 (r.k.toNat : Int)) := (hbq.cell (Nat.lt_of_lt_of_le HLT.out (Nat.le_refl _))).trans c1
              have q2 : wq.cell? ⟨wd.heap.size, 2, none⟩ = some (.string (tb (r.d.drop 8))) := (hbq.cell (Nat.lt_of_lt_of_le HLT.out (Nat.le_refl _))).trans c2
              rw [hwq]
              have HGA := Lib.hid (HGQ.out.alloc (.cells (entC ⟨N, r.k, r.d.drop 8⟩).toArray 48))
              have HNA := Lib.hid (new_ent wq 48 ⟨N, r.k, r.d.drop 8⟩)
              have hll : m.length ≤ 5000000 := by omega
              have HNN := Lib.hid (And.intro hN0 hNG)
              clear hwq hbq c0 c1 c2
              go_wp2_with (at_builtin; refine wpList_ent ⟨N, r.k, r.d.drop 8⟩ rfl (.tmp 86) (.tmp 88) rfl rfl HGA.out ⟨wq.heap.size, 0, none⟩ 1 rfl HNA.out hll ?_)
              intro v8 w8 hg8 _
              have HG9 := Lib.hid hg8
              clear hg8 HGA HNA q0 q1 q2 HGQ HBQ
              go_wp2
              go_roundw
              case rel => exact ⟨k + 1, m ++ [⟨N, r.k, r.d.drop 8⟩], _, by omega, by simp [hmk], rfl, by go_num, by rw [lastN_snoc]; exact HON.out, (fun e he => by
                  rcases List.mem_append.1 he with h | h
                  · exact HNZ.out e h
                  · rw [List.mem_singleton.1 h]; exact ⟨HNN.out.1, Nat.le_of_not_lt HNN.out.2⟩), HG9.out⟩
              case measure => simp [intOf]; omega
            · have hgI : ¬ (N : Int) = (p : Int) + 1 := by omega
              have hgB : ((N : Int) == (p : Int) + 1) = false := beq_eq_false_iff_ne.2 hgI
              have HE := Lib.hid (fun n => HNO.out (wr.drewN n) (HLN.out (HM.out.gap HVE.out (fun x => x.elim hpz hgap))) (below_draw HB8.out n))
              clear HNO HYE HLN HLS hN h8 hgap hN0 hNG
              have c0d : wr.drew.cell? ⟨wd.heap.size, 0, none⟩ = some (.int .u64 (N : Int)) := c0
              have d1d : wr.drew.cell? ⟨g2, off2 + k' * 3, none⟩ = some (.int .u64 (p : Int)) := d1
              go_wp2_with fail
              refine wp_region_noPanic ?_
              refine wp_region_sch (fun wx => wx.cell? ⟨wd.heap.size, 0, none⟩ = some (.int .u64 (N : Int)) ∧ wx.cell? ⟨g2, off2 + k' * 3, none⟩ = some (.int .u64 (p : Int))) (fun i => [].contains i)
                (.takes [0, 1, 2, 3, 4, 5, 6, 7, 8, 9, 10, 11, 12, 13, 14, 15, 16, 17, 18, 19, 20, 21, 22, 23] .done) (by kernel_rfl) (fun _ _ _ _ _ h => h) (by kernel_rfl) ?_
              have hHeld := And.intro c0d d1d
              iterate 24 (
                refine sch_takes_cons ?_
                first
                  | (refine sch_take (v := ?_) rfl (by assumption) (by rfl) ?_ ?_; rotate_left; (focus (intro wy hSy; (try dsimp only at hSy); go_simp; (try with_reducible rfl))))
                  | (refine sch_pass rfl (by assumption) (by rfl) ?_)
                simp only [Act.put, List.setIfInBounds_toArray, List.set_cons_zero, List.set_cons_succ])
              refine sch_takes_nil ?_
              refine sch_done ?_
              refine NoPanic.normal ?_
              go_wp2
              refine bodyPost_ret (v := .tuple #[.slice none 0 0, .int .i64 0, .bool false]) (by simp [results, Tryd.results43, go_sem]) rfl ?_
              exact HE.out 1
    · have hke : k = rs.length := by omega
      subst hke
      have hno : ¬ (rs.length : Int) < (rs.length : Int) := by omega
      rw [List.drop_length] at HM
      have HE := Lib.hid (HYE.out m n Ao co wr (HLS.out HX.out m HM.out.done) ((show GrE w1 m (.slice Ao m.length co) wr from hmk.symm ▸ HG.out).low HB1.out) (show m.length ≤ co from hmk.symm ▸ HCO.out.1) HCO.out.2)
      rw [hmk] at HE
      clear HNO HYE HLN HLS HM
      go_wp2
      refine bodyPost_ret (v := .tuple #[.slice Ao rs.length co, .int .i64 (n : Int), .bool true]) (by simp [results, Tryd.results43, go_sem]) rfl ?_
      exact HE.out
end Go.Proofs.YtjahkaockjhibaaDoor
