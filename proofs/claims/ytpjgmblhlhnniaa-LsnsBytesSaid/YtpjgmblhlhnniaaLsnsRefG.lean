/-
  The walk over the document's Get of sets.
-/
import Derived.Test.YtpjgmblhlhnniaaLsnsOwnB
import Derived.Test.YtpjgmblhlhnniaaLsnsCodeG
namespace Go.Proofs.Ytpjgmblhlhnniaa
open Go.RowKit

theorem slice_part {P : Program} {t : TypeId} (ht : P.underlying t = some (.slice (P.elem t))) (hs : ∀ w, (sizeOf (P.elem t)).run P w = .ok 1 w) (A : Option Addr) (n c : Nat) (i j : Int) (lo hi : Nat) (h1 : i = (lo : Int)) (h2 : j = (hi : Int)) (hlo : lo ≤ hi) (hk : hi ≤ c) (w : World) :
    (Instr.slice t (.slice A n c) (some (.int .i64 i)) (some (.int .i64 j)) none).run P w = .ok (.slice (if c = lo then A else A.map (·.add lo)) (hi - lo) (c - lo)) w := by
  subst h1
  subst h2
  rw [run_slice_lh (w := w) t A n c ht .i64 .i64 (lo : Int) (hi : Int) (by omega) (by omega) (by omega), hs]
  simp only [Result.andThen, sliced, Nat.mul_one, Int.toNat_natCast]

theorem enters_worth : Enters Try.prog 47 := enters_of Try.func47 (by kernel_rfl) rfl

/-- In the midst of the document's Get: the result's cells, and the set that grows. -/
structure MidK (w : World) (g lo : Nat) (l : List Nat) (v : Value) (wr : World) : Prop where
  made : Made w l v wr
  res : Row wr w.heap.size 25 [.int .u64 0, .slice none 0 0] (0, 0)
  set : Row wr g 25 [.int .u64 (lo : Int), v] (0, 0)
  up : w.heap.size < g

section
variable {w wr w' : World} {g lo m : Nat} {l l' : List Nat} {v v' : Value}
theorem MidK.drew (h : MidK w g lo l v wr) : MidK w g lo l v wr.drew := ⟨h.made.drew, h.res.drew, h.set.drew, h.up⟩
theorem MidK.alloc (h : MidK w g lo l v wr) (o : Obj) : MidK w g lo l v (wr.alloc o) := ⟨h.made.keepRow o, h.res.alloc o, h.set.alloc o, h.up⟩
theorem MidK.keeps (h : MidK w g lo l v wr) (hb : Below wr.heap.size wr w') : MidK w g lo l v w' := ⟨h.made.keep hb, h.res.below hb h.res.lt, h.set.below hb h.set.lt, h.up⟩
theorem MidK.more (h : MidK w g lo l v wr) (hm : l'.length = m) (h1 : w'.ownsRow w.heap.size 22 1 v' (l.length + m) (nv l ++ nv l')) (hg : wr.grownBy w' v.ownBlock) :
    w'.cell? ⟨g, 1, none⟩ = some v ∧ w'.frozen? ⟨g, 1, none⟩ = false ∧ MidK w g lo (l ++ l') v' (w'.setCell ⟨g, 1, none⟩ v') := by
  have hs := h.set.grown hg (own_ne h.made.1 h.set (by decide))
  have hr := h.res.grown hg (own_ne h.made.1 h.res (by decide))
  have hM := h.made.more hm h1 hg
  exact ⟨by rw [hs.cell]; rfl, hs.loose 1, hM.setCell hs (by have := h.up; omega) 1 v', hr.far (by have := h.up; show w.heap.size ≠ g; omega) v', hs.put 1 v', h.up⟩
theorem MidK.r0 (h : MidK w g lo l v wr) : wr.cell? ⟨w.heap.size, 0, none⟩ = some (.int .u64 0) := by rw [h.res.cell]; rfl
theorem MidK.r1 (h : MidK w g lo l v wr) : wr.cell? ⟨w.heap.size, 1, none⟩ = some (.slice none 0 0) := by rw [h.res.cell]; rfl
theorem MidK.f0 (h : MidK w g lo l v wr) : wr.frozen? ⟨w.heap.size, 0, none⟩ = false := h.res.loose 0
theorem MidK.f1 (h : MidK w g lo l v wr) : wr.frozen? ⟨w.heap.size, 1, none⟩ = false := h.res.loose 1
theorem MidK.s0 (h : MidK w g lo l v wr) : wr.cell? ⟨g, 0, none⟩ = some (.int .u64 (lo : Int)) := by rw [h.set.cell]; rfl
theorem MidK.s1 (h : MidK w g lo l v wr) : wr.cell? ⟨g, 1, none⟩ = some v := by rw [h.set.cell]; rfl
/-- The end where an error is told. -/
theorem zeroG {w wr : World} (hr : Row wr w.heap.size 25 [.int .u64 0, .slice none 0 0] (0, 0)) (hb : Below w.heap.size w wr) (e : Nat) : Row ((wr.setCell ⟨w.heap.size, 0, none⟩ (.int .u64 0)).setCell ⟨w.heap.size, 1, none⟩ (.slice none 0 0)) w.heap.size 25 [.int .u64 0, .slice none 0 0] (0, 0) ∧
    GotG w LS.zero 0 e (.returned (.tuple #[.agg #[.int .u64 0, .slice none 0 0], .int .i64 0, .int .i64 (e : Int)])) ((wr.setCell ⟨w.heap.size, 0, none⟩ (.int .u64 0)).setCell ⟨w.heap.size, 1, none⟩ (.slice none 0 0)) :=
  ⟨(hr.put 0 _).put 1 _, ⟨0, none, 0, 0, []⟩, rfl, rfl, ⟨rfl, Nat.le_refl _, fun _ => rfl, by decide, (fun k hk => by cases hk), RN.nil⟩, (hb.setCell (Nat.le_refl _) _).setCell (Nat.le_refl _) _⟩
end

set_option maxRecDepth 100000 in
set_option maxHeartbeats 8000000 in
theorem rget_any {T : TypeId} (A : Option Addr) (b : List UInt8) (c : Nat) (w : World) (hr : Reads T w A b) (hbc : b.length ≤ c) (hb : b.length ≤ 100000) :
    Calls Try.prog 30 #[.slice A b.length c] w (GotG w (getS b).1 (getS b).2.1 (getS b).2.2) := by
  obtain ⟨i0, hi0, hz0, hz1, hz2⟩ := Try.info64
  have HG := Lib.hid (show getS b = if b.length < 10 then (LS.zero, 0, 4) else if 1000 < val ((b.drop 8).take 2) then (LS.zero, 0, 40) else if b.length < 10 + 8 * val ((b.drop 8).take 2) then (LS.zero, 0, 4) else if LS.right ⟨val (b.take 8), nums b (val ((b.drop 8).take 2))⟩ then (⟨val (b.take 8), nums b (val ((b.drop 8).take 2))⟩, 10 + 8 * val ((b.drop 8).take 2), 0) else (LS.zero, 0, 40) from rfl)
  obtain ⟨G, hG⟩ : ∃ G, getS b = G := ⟨_, rfl⟩
  rw [hG] at HG ⊢
  clear hG
  have HR0 := Lib.hid (Row.new w 25 [.int .u64 0, .slice none 0 0] (0, 0))
  have HB0 := Lib.hid (below_new w (.cells #[.int .u64 0, .slice none 0 0] 25))
  have HRD := Lib.hid (fun (wx : World) (hk : Keep (w.alloc (.cells #[.int .u64 0, .slice none 0 0] 25)) wx) => show Reads T wx A b from (hr.below ((Below.refl _ _).alloc (Nat.le_refl _) _) (Nat.le_refl _)).below hk (Nat.le_refl _))
  have HRW := Lib.hid (fun (wx : World) (hk : Below w.heap.size w wx) => show Reads T wx A b from hr.below hk (Nat.le_refl _))
  clear hr
  by_cases h10 : b.length < 10
  · have hg : G = (LS.zero, 0, 4) := by rw [HG.out, if_pos h10]
    subst hg
    clear HG
    have hi10 : (b.length : Int) < 10 := by omega
    go_enter Try.func30, Try.ntmps30
    go_wp2
    refine bodyPost_ret (v := .tuple #[.agg #[.int .u64 0, .slice none 0 0], .int .i64 0, .int .i64 4]) (by simp [results, Try.results30, go_sem]) rfl ⟨⟨0, none, 0, 0, []⟩, rfl, rfl, ⟨rfl, Nat.le_refl _, fun _ => rfl, by decide, (fun k hk => by cases hk), RN.nil⟩, HB0.out⟩
  · have HG1 := Lib.hid (show G = if 1000 < val ((b.drop 8).take 2) then (LS.zero, 0, 40) else if b.length < 10 + 8 * val ((b.drop 8).take 2) then (LS.zero, 0, 4) else if LS.right ⟨val (b.take 8), nums b (val ((b.drop 8).take 2))⟩ then (⟨val (b.take 8), nums b (val ((b.drop 8).take 2))⟩, 10 + 8 * val ((b.drop 8).take 2), 0) else (LS.zero, 0, 40) from by have := HG.out; rwa [if_neg h10] at this)
    have hi10 : ¬ ((b.length : Int) < 10) := by omega
    have hsl := slice_part (P := Try.prog) (t := 44) Try.underlying44 (fun w => by kernel_rfl) A b.length c 8 10 8 10 rfl rfl (by omega) (by omega)
    have HKV := Lib.hid (show val ((b.drop 8).take 2) < 65536 by
      have := val_lt ((b.drop 8).take 2)
      rwa [List.length_take, List.length_drop, Nat.min_eq_left (by omega)] at this)
    have HW := Lib.hid (fun wx (hk : Keep (w.alloc (.cells #[.int .u64 0, .slice none 0 0] 25)) wx) => rworth_any (if c = 8 then A else A.map (·.add 8)) ((b.drop 8).take 2) 2 (c - 8) wx (by rw [List.length_take, List.length_drop]; omega) (((HRD.out wx hk).drop 8 c hbc).take 2) (by omega))
    clear HG
    obtain ⟨A1, hA1⟩ : ∃ A1, (if c = 8 then A else A.map (·.add 8)) = A1 := ⟨_, rfl⟩
    rw [hA1] at hsl HW
    clear hA1
    obtain ⟨K, hK⟩ : ∃ K, val ((b.drop 8).take 2) = K := ⟨_, rfl⟩
    rw [hK] at HW HG1 HKV
    have hKV := HKV.out
    clear hK HKV
    go_enter Try.func30, Try.ntmps30
    go_wp2_with fail
    refine (HW.out _ (Keep.refl _)).mono ?_
    rintro e w1 ⟨rfl, rfl⟩
    clear hsl
    by_cases hk : 1000 < K
    · have hk2 : (1000 : Int) < (K : Int) := by omega
      have hg : G = (LS.zero, 0, 40) := by rw [HG1.out, if_pos hk]
      subst hg
      clear HG1
      go_wp2
      refine bodyPost_ret (v := .tuple #[.agg #[.int .u64 0, .slice none 0 0], .int .i64 0, .int .i64 40]) (by simp [results, Try.results30, go_sem]) rfl ⟨⟨0, none, 0, 0, []⟩, rfl, rfl, ⟨rfl, Nat.le_refl _, fun _ => rfl, by decide, (fun k hk => by cases hk), RN.nil⟩, HB0.out⟩
    · have hk2 : ¬ ((1000 : Int) < (K : Int)) := by omega
      by_cases hs : b.length < 10 + 8 * K
      · have hs2 : (b.length : Int) < 10 + 8 * (K : Int) := by omega
        have hg : G = (LS.zero, 0, 4) := by rw [HG1.out, if_neg hk, if_pos hs]
        subst hg
        clear HG1
        go_wp2
        refine bodyPost_ret (v := .tuple #[.agg #[.int .u64 0, .slice none 0 0], .int .i64 0, .int .i64 4]) (by simp [results, Try.results30, go_sem]) rfl ⟨⟨0, none, 0, 0, []⟩, rfl, rfl, ⟨rfl, Nat.le_refl _, fun _ => rfl, by decide, (fun k hk => by cases hk), RN.nil⟩, HB0.out⟩
      · have hs2 : ¬ ((b.length : Int) < 10 + 8 * (K : Int)) := by omega
        have HG2 := Lib.hid (show G = if LS.right ⟨val (b.take 8), nums b K⟩ then (⟨val (b.take 8), nums b K⟩, 10 + 8 * K, 0) else (LS.zero, 0, 40) by rw [HG1.out, if_neg hk, if_neg hs])
        have HLO := Lib.hid (val_take8 b)
        have hsl8 := slice_head (P := Try.prog) (t := 44) Try.underlying44 (fun w => by kernel_rfl) A b.length c 8 8 rfl (by omega)
        have HW8 := Lib.hid (fun wx (hk : Keep (w.alloc (.cells #[.int .u64 0, .slice none 0 0] 25)) wx) => rworth_any A (b.take 8) 8 c wx (by rw [List.length_take]; omega) ((HRD.out wx hk).take 8) (by omega))
        obtain ⟨lo, hlo⟩ : ∃ lo, val (b.take 8) = lo := ⟨_, rfl⟩
        rw [hlo] at HW8 HG2 HLO
        clear hlo HG1 HW
        go_wp2_with fail
        refine (HW8.out _ (Keep.refl _)).mono ?_
        rintro e w1 ⟨rfl, rfl⟩
        clear hsl8
        go_wp2_with fail
        have HM0 := Lib.hid (show MidK w (w.heap.size + 1) lo [] (.slice none 0 0) ((w.alloc (.cells #[.int .u64 0, .slice none 0 0] 25)).alloc (.cells #[.int .u64 (lo : Int), .slice none 0 0] 25)) from
          ⟨Made.nil _ _ (HB0.out.alloc (by rw [size_new]; omega) _), HR0.out.alloc _, by
            have := Row.new (w.alloc (.cells #[.int .u64 0, .slice none 0 0] 25)) 25 [.int .u64 (lo : Int), .slice none 0 0] (0, 0)
            rw [size_new] at this
            exact this, by omega⟩)
        clear hk2 hs2
        go_loopw [7] (fun i wr => ∃ (k : Nat) (v : Value), k ≤ K ∧ i = .int .i64 k ∧ MidK w (w.heap.size + 1) lo (nums b k) v wr) (fun i _ => K - (intOf i).toNat)
        case atStart => exact ⟨0, _, by omega, rfl, HM0.out⟩
        case round =>
          obtain ⟨k, v, hkK, rfl, hm⟩ := hrel
          have HMK := Lib.hid hm
          have HRK := Lib.hid (HRW.out wr hm.made.2)
          obtain ⟨A2, c2, hv, _⟩ := hm.made.own
          rw [nums_length] at hv
          subst hv
          clear hm HM0 HW8
          have HLN := Lib.hid (nums_length b k)
          by_cases hlt : k < K
          · have hw1 : IntKind.i64.wrap (8 * (k : Int)) = 8 * (k : Int) := IntWalk.i64_in _ (by omega)
            have hw2 : IntKind.i64.wrap (10 + 8 * (k : Int)) = 10 + 8 * (k : Int) := IntWalk.i64_in _ (by omega)
            have hw3 : IntKind.i64.wrap (18 + 8 * (k : Int)) = 18 + 8 * (k : Int) := IntWalk.i64_in _ (by omega)
            have hsl := slice_part (P := Try.prog) (t := 44) Try.underlying44 (fun w => by kernel_rfl) A b.length c (10 + 8 * (k : Int)) (18 + 8 * (k : Int)) (10 + 8 * k) (18 + 8 * k) (by omega) (by omega) (by omega) (by omega)
            have HWK := Lib.hid (fun wx (hk : Keep wr wx) => show Calls Try.prog 47 #[.slice (if c = 10 + 8 * k then A else A.map (·.add (10 + 8 * k))) (18 + 8 * k - (10 + 8 * k)) (c - (10 + 8 * k))] wx fun r w' => r = .returned (.int .u64 (val ((b.drop (10 + 8 * k)).take 8) : Int)) ∧ wx = w' from
              rworth_any _ ((b.drop (10 + 8 * k)).take 8) _ _ wx (by rw [List.length_take, List.length_drop]; omega) (((HRK.out.below hk (Nat.le_refl _)).drop (10 + 8 * k) c hbc).take 8) (by omega))
            have HNS := Lib.hid (nums_succ b k)
            obtain ⟨y, hy⟩ : ∃ y, val ((b.drop (10 + 8 * k)).take 8) = y := ⟨_, rfl⟩
            obtain ⟨A1, hA1⟩ : ∃ A1, (if c = 10 + 8 * k then A else A.map (·.add (10 + 8 * k))) = A1 := ⟨_, rfl⟩
            obtain ⟨n1, hn1⟩ : ∃ n1, 18 + 8 * k - (10 + 8 * k) = n1 := ⟨_, rfl⟩
            obtain ⟨c1, hc1⟩ : ∃ c1, c - (10 + 8 * k) = c1 := ⟨_, rfl⟩
            rw [hA1, hn1, hc1] at hsl HWK
            simp only [hy] at HWK HNS
            clear hA1 hn1 hc1 hy
            have s1 := HMK.out.s1
            have hal : ∀ o, (wr.alloc o).cell? ⟨w.heap.size + 1, 1, none⟩ = some (.slice A2 k c2) := fun o => (HMK.out.alloc o).s1
            have HB := Lib.hid ((HMK.out.alloc (.cells #[.int .u64 (y : Int)] 22)).drew)
            have HOW := Lib.hid (show (wr.alloc (.cells #[.int .u64 (y : Int)] 22)).drew.ownsRow w.heap.size 22 1 (.slice A2 k c2) k (nv (nums b k)) by have := HB.out.made.1; rwa [HLN.out] at this)
            have HRY := Lib.hid (show RN (wr.alloc (.cells #[.int .u64 (y : Int)] 22)).drew (some ⟨wr.heap.size, 0, none⟩) [y] from (rn_one wr y).keeps (Below.refl _ _).drew)
            have HSZ := Lib.hid HB.out.made.2.size
            have HGG := Lib.hid (fun (v4 : Value) (w4 : World) (hown : w4.ownsRow w.heap.size 22 1 v4 (k + 1) (nv (nums b k) ++ nv [y])) (hgr : (wr.alloc (.cells #[.int .u64 (y : Int)] 22)).drew.grownBy w4 (Value.slice A2 k c2).ownBlock) =>
              show ∃ A4 c4, v4 = .slice A4 (k + 1) c4 ∧ w4.cell? ⟨w.heap.size + 1, 1, none⟩ = some (.slice A2 k c2) ∧ w4.frozen? ⟨w.heap.size + 1, 1, none⟩ = false ∧ MidK w (w.heap.size + 1) lo (nums b (k + 1)) v4 (w4.setCell ⟨w.heap.size + 1, 1, none⟩ v4) from by
                obtain ⟨h1, h2, h3⟩ := HB.out.more (l' := [y]) (m := 1) rfl (by rw [HLN.out]; exact hown) hgr
                obtain ⟨A4, c4, hv, _⟩ := h3.made.own
                rw [List.length_append, HLN.out] at hv
                rw [HNS.out]
                exact ⟨A4, c4, hv, h1, h2, h3⟩)
            have hk0 : Keep wr wr.drew := (Below.refl _ wr).drew
            go_wp2_with fail
            go_region_law (first
              | (refine step_call rfl 47 #[.tmp 44] _ (by rfl) #[.slice A1 n1 c1] (by simp [Act.eval, Act.put]) enters_worth (HWK.out _ hk0) ?_; rintro e wa ⟨rfl, rfl⟩; refine ⟨_, rfl, ?_⟩)
              | (refine step_own_nums rfl (.tmp 36) (.tmp 46) 23 (by rfl) w.heap.size 22 i0 Try.underlying23 hi0 hz0 hz1 hz2 (.slice A2 k c2) k _ (by rfl) HOW.out (some ⟨wr.heap.size, 0, none⟩) [y] 1 1 (by rfl) rfl HRY.out (fun e => by cases e) (by omega) HSZ.out ?_; intro v4 w4 hown hgr; obtain ⟨A4, c4, rfl, z1, zf, hm4⟩ := HGG.out v4 w4 hown hgr; clear hown hgr))
            all_goals
              go_wp2
              go_roundw
              case rel => exact ⟨k + 1, _, by omega, by go_num, hm4⟩
              case measure => simp [intOf]; omega
          · obtain rfl : k = K := by omega
            have HX := Lib.hid (HMK.out.made.isIn HLN.out HLO.out (nums_fit b k))
            have HRT := Lib.hid (rright_any ⟨lo, A2, k, c2, nums b k⟩ wr HX.out (by show k ≤ _; omega))
            have HFI := Lib.hid (nums_fit b k)
            simp only [LV.v, LV.s] at HRT
            obtain ⟨F, hF⟩ : ∃ F, nums b k = F := ⟨_, rfl⟩
            rw [hF] at HRT HMK HLN HG2 HFI
            clear hF HX
            obtain ⟨q, hq⟩ : ∃ q, LS.right ⟨lo, F⟩ = q := ⟨_, rfl⟩
            rw [hq] at HRT HG2
            clear hq
            have s0 := HMK.out.s0
            have s1 := HMK.out.s1
            go_wp2_with fail
            refine HRT.out.mono ?_
            rintro e w6 ⟨rfl, hb6⟩
            have HM6 := Lib.hid (HMK.out.keeps hb6)
            clear hb6 HMK HRT s0 s1
            have r0 := HM6.out.r0
            have r1 := HM6.out.r1
            have f0 := HM6.out.f0
            have f1 := HM6.out.f1
            cases q
            · have hg : G = (LS.zero, 0, 40) := HG2.out
              subst hg
              clear HG2
              go_wp2
              obtain ⟨hr, ht⟩ := zeroG HM6.out.res HM6.out.made.2 40
              have k0 := hr.cell 0
              have k1 := hr.cell 1
              simp at k0 k1
              refine bodyPost_ret (v := .tuple #[.agg #[.int .u64 0, .slice none 0 0], .int .i64 0, .int .i64 40]) ?_ rfl ht
              simp [results, Try.results30, go_sem, k0, k1]
            · have hg : G = (⟨lo, F⟩, 10 + 8 * k, 0) := HG2.out
              subst hg
              clear HG2
              have s0 := HM6.out.s0
              have s1 := HM6.out.s1
              go_wp2
              obtain ⟨hr, hm⟩ := HM6.out.made.laid HM6.out.res (Nat.le_refl _) (.int .u64 (lo : Int)) (.slice A2 k c2)
              have y0 := hr.cell 0
              have y1 := hr.cell 1
              simp at y0 y1
              refine bodyPost_ret (v := .tuple #[.agg #[.int .u64 (lo : Int), .slice A2 k c2], .int .i64 (10 + 8 * (k : Int)), .int .i64 0]) ?_ rfl ?_
              · simp [results, Try.results30, go_sem, y0, y1]
              · exact ⟨⟨lo, A2, k, c2, F⟩, by rw [show (((10 + 8 * k : Nat)) : Int) = 10 + 8 * (k : Int) by omega]; rfl, rfl, hm.isIn HLN.out HLO.out HFI.out, hm.2⟩

end Go.Proofs.Ytpjgmblhlhnniaa
