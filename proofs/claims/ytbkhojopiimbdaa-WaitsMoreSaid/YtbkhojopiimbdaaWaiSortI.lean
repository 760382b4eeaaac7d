/-
  slices.Sort of numbers of 64 bits, seventh part: the recursion, over contracts of breakPatterns and of partialInsertionSort.
-/
import Derived.Test.YtbkhojopiimbdaaWaiSortE
import Derived.Test.YtbkhojopiimbdaaWaiSortF
import Derived.Deep.Cut
import Derived.Deep.CutRange
import Derived.Deep.LoopGhost
namespace Go.Proofs.Ytbkhojopiimbdaa
open Go.RowKit

def Sorts (w0 : World) (g : Nat) (rest : List Value) (n a b : Nat) (d : Array Nat) (e : Ending) (wx : World) : Prop := e = .returned (.tuple #[]) ∧ ∃ d' : Array Nat, d'.size = n ∧ Sort.PermIn a b d d' ∧ Sort.SortedIn ltN a b d' ∧ SD w0 g rest d' wx
def Turned (w0 : World) (g : Nat) (rest : List Value) (a b : Nat) (d : Array Nat) (e : Ending) (wx : World) : Prop := e = .returned (.tuple #[]) ∧ ∃ d' : Array Nat, Sort.PermIn a b d d' ∧ SD w0 g rest d' wx
def Tried (w0 : World) (g : Nat) (rest : List Value) (a b : Nat) (d : Array Nat) (e : Ending) (wx : World) : Prop := ∃ (ok : Bool) (d' : Array Nat), e = .returned (.bool ok) ∧ Sort.PermIn a b d d' ∧ (ok = true → Sort.SortedIn ltN a b d') ∧ SD w0 g rest d' wx
def BreakC : Prop := ∀ (w0 : World) (g n c a b : Nat) (rest : List Value) (d : Array Nat) (w : World), SD w0 g rest d w → d.size = n → a + 12 < b → b ≤ n → n ≤ 1100 →
  Calls Try.prog 21 #[.slice (some ⟨g, 0, none⟩) n c, .int .i64 (a : Int), .int .i64 (b : Int)] w (Turned w0 g rest a b d)
def TryC : Prop := ∀ (w0 : World) (g n c a b : Nat) (rest : List Value) (d : Array Nat) (w : World), SD w0 g rest d w → d.size = n → a + 12 < b → b ≤ n → n ≤ 1100 → Sort.Below ltN a b d →
  Calls Try.prog 24 #[.slice (some ⟨g, 0, none⟩) n c, .int .i64 (a : Int), .int .i64 (b : Int)] w (Tried w0 g rest a b d)
/-- What a stretch of a round has done: it has turned what lies between. -/
def Mid1 (w0 : World) (g : Nat) (rest : List Value) (a b : Nat) (d : Array Nat) (wx : World) : Prop := ∃ d' : Array Nat, Sort.PermIn a b d d' ∧ SD w0 g rest d' wx
def CutA (w0 : World) (g : Nat) (rest : List Value) (a b : Nat) (d : Array Nat) (s : Value) (wx : World) : Prop := ∃ L : Nat, s = .int .i64 (L : Int) ∧ L ≤ 64 ∧ Mid1 w0 g rest a b d wx
def CutB (w0 : World) (g : Nat) (rest : List Value) (a b : Nat) (d : Array Nat) (s t : Value) (wx : World) : Prop := ∃ p h : Nat, s = .int .i64 (p : Int) ∧ t = .int .i64 (h : Int) ∧ a ≤ p ∧ p < b ∧ (h = 0 ∨ h = 1) ∧ Mid1 w0 g rest a b d wx
def CutD (w0 : World) (g : Nat) (rest : List Value) (a p : Nat) (d : Array Nat) (s : Value) (wx : World) : Prop := s = .bool (decide (0 < a) && !ltN d[a - 1]! d[p]!) ∧ SD w0 g rest d wx

theorem pivot_back {a b p : Nat} (h1 : a ≤ p) (h2 : p < b) : ((b : Int) - 1 - ((p : Int) - (a : Int))) = ((b - 1 - (p - a) : Nat) : Int) := by omega

set_option maxRecDepth 100000 in
set_option maxHeartbeats 16000000 in
theorem pdq_any (BR : BreakC) (PI : TryC) (w0 : World) (g n c : Nat) (rest : List Value) (hn : n ≤ 1100) : ∀ (m a b L : Nat) (d : Array Nat) (w : World), b - a < m → a ≤ b → b ≤ n → L ≤ 64 → d.size = n → SD w0 g rest d w → Sort.Below ltN a b d →
    Calls Try.prog 16 #[.slice (some ⟨g, 0, none⟩) n c, .int .i64 (a : Int), .int .i64 (b : Int), .int .i64 (L : Int)] w (Sorts w0 g rest n a b d) := by
  intro m
  induction m with
  | zero => intro a b L d w h; exact absurd h (Nat.not_lt_zero _)
  | succ m ih =>
    intro a b L d w hm hab hb hL hd hs hbel
    have IH := Lib.hid ih
    have HF0 := Lib.hid (show ∀ R, Sort.PermIn a b d R → Sort.SortedIn ltN a b R → Sort.PermIn a b d R ∧ Sort.SortedIn ltN a b R from fun R h1 h2 => ⟨h1, h2⟩)
    have HS0 := Lib.hid hs
    have HD0 := Lib.hid hd
    have HB0 := Lib.hid hbel
    clear ih hs hd hbel
    go_enter Try.func16, Try.ntmps16
    go_wp2_with fail
    go_loopg [1, 2, 3, 8, 9] (b - a) (fun k s1 s2 s3 s8 s9 wr => ∃ (A B L : Nat) (wb wp : Bool) (D : Array Nat), s1 = .int .i64 A ∧ s2 = .int .i64 B ∧ s3 = .int .i64 L ∧ s8 = .bool wb ∧ s9 = .bool wp ∧ A ≤ B ∧ B ≤ n ∧ B - A ≤ k ∧ k ≤ b - a ∧ L ≤ 64 ∧ Hid (D.size = n) ∧ Hid (SD w0 g rest D wr) ∧ Hid (Sort.Below ltN A B D) ∧ Hid (∀ R, Sort.PermIn A B D R → Sort.SortedIn ltN A B R → Sort.PermIn a b d R ∧ Sort.SortedIn ltN a b R))
    case atStart => exact ⟨a, b, L, true, true, d, rfl, rfl, rfl, rfl, rfl, hab, hb, Nat.le_refl _, Nat.le_refl _, hL, HD0, HS0, HB0, HF0⟩
    case round =>
      clear HF0 HS0 HD0 HB0
      obtain ⟨A, B, L, wb, wp, D, rfl, rfl, rfl, rfl, rfl, hAB, hBn, hk, hkm, hL, HD, HS, HB, HF⟩ := hrel
      by_cases h12 : B - A ≤ 12
      · have i12 : (B : Int) - (A : Int) ≤ 12 := by omega
        have HC := Lib.hid (insertion_any w0 g n c A B rest D wr HS.out HD.out hBn (by omega) hAB)
        have HX := Lib.hid (Sort.insertionSort_holds swo_ltN D A B hAB (by rw [HD.out]; exact hBn))
        go_wp2_with (go_at_call 19; refine HC.out.mono ?_; rintro e w1 ⟨rfl, hw1⟩)
        exact bodyPost_ret (v := .tuple #[]) (by simp [results, Try.results16, go_sem]) rfl ⟨rfl, _, by rw [HX.out.1.1]; exact HD.out, (HF.out _ HX.out.1 HX.out.2).1, (HF.out _ HX.out.1 HX.out.2).2, hw1⟩
      · have i12 : ¬ ((B : Int) - (A : Int) ≤ 12) := by omega
        by_cases hl0 : L = 0
        · subst hl0
          have HC := Lib.hid (heap_any w0 g n c A B rest D wr HS.out HD.out (by omega) hBn (by omega))
          have HX := Lib.hid (Sort.heapSort_holds swo_ltN D A B hAB (by rw [HD.out]; exact hBn))
          go_wp2_with (go_at_call 20; refine HC.out.mono ?_; rintro e w1 ⟨rfl, hw1⟩)
          exact bodyPost_ret (v := .tuple #[]) (by simp [results, Try.results16, go_sem]) rfl ⟨rfl, _, by rw [HX.out.1.1]; exact HD.out, (HF.out _ HX.out.1 HX.out.2).1, (HF.out _ HX.out.1 HX.out.2).2, hw1⟩
        · have il0 : ¬ ((L : Int) = 0) := by omega
          have h12' : A + 12 < B := by omega
          go_upto_if 35 with fail
          go_cut [3] from 19 to 133 (fun s3 wc => CutA w0 g rest A B D s3 wc)
          case first =>
            cases wb
            · have HC := Lib.hid (BR w0 g n c A B rest D wr HS.out HD.out h12' hBn hn)
              go_wp2_with (go_at_call 21; refine HC.out.mono ?_; rintro e w1 ⟨rfl, hw1⟩)
              go_meet
              case rel => exact ⟨L - 1, congrArg (Value.int IntKind.i64) (by omega), by omega, hw1⟩
            · go_wp2_with fail
              go_meet
              case rel => exact ⟨L, rfl, hL, D, Sort.permIn_refl _ _ _, HS.out⟩
          case rest =>
            obtain ⟨L1, rfl, hL1, D1, hp1, hs1⟩ := hcut
            have HS1 := Lib.hid hs1
            have HP1 := Lib.hid hp1
            have HD1 := Lib.hid (hp1.1.trans HD.out)
            clear hs1 hp1
            have HC17 := Lib.hid (pivot_any w0 wc g n c A B rest D1 HS1.out HD1.out h12' hBn (by omega))
            go_upto_if 50 with (go_at_call 22; refine HC17.out.mono ?_; rintro e w2 ⟨p, h, rfl, hap, hpb, hh, hbel⟩)
            have HS2 := Lib.hid (HS1.out.keep hbel)
            clear hbel HC17
            go_cut [11, 12] from 19 to 133 (fun s11 s12 wc => CutB w0 g rest A B D s11 s12 wc)
            case first =>
              by_cases h2 : h = 2
              · subst h2
                have HC := Lib.hid (reverse_any w0 g n c A B rest D1 w2 HS2.out HD1.out (by omega) hBn (by omega))
                have epb := pivot_back hap hpb
                have HX := Lib.hid (Sort.reverseRange_holds D1 A B hAB (by rw [HD1.out]; exact hBn))
                go_wp2_with (go_at_call 23; refine HC.out.mono ?_; rintro e w3 ⟨rfl, hw3⟩)
                go_meet
                case rel => exact ⟨B - 1 - (p - A), 1, congrArg (Value.int IntKind.i64) (by omega), rfl, by omega, by omega, .inr rfl, _, Sort.permIn_trans _ _ _ A B HP1.out HX.out, hw3⟩
              · have ih2 : ¬ ((h : Int) = 2) := by omega
                go_wp2_with fail
                go_meet
                case rel => exact ⟨p, h, rfl, rfl, hap, hpb, by omega, D1, HP1.out, HS2.out⟩
            case rest =>
              obtain ⟨q, h, rfl, rfl, hap, hpb, hh, D2, hp2, hs2⟩ := hcut
              have HS3 := Lib.hid hs2
              have HP2 := Lib.hid hp2
              have HD2 := Lib.hid (hp2.1.trans HD.out)
              have HB2 := Lib.hid (HB.out.perm (by rw [HD.out]; exact hBn) hp2)
              clear hs2 hp2 HS1 HP1 HD1 HS2
              go_upto_region 15 with fail
              go_cut [68] from 19 to 133 (fun s68 wx => (∃ x : Bool, s68 = .bool x) ∧ wx = wc)
              case first =>
                rcases hh with rfl | rfl <;> cases wb <;> cases wp <;>
                  (go_wp2_with fail
                   go_meet
                   exact ⟨⟨_, rfl⟩, rfl⟩)
              case rest =>
                obtain ⟨⟨x68, rfl⟩, rfl⟩ := hcut
                go_upto_if 68 with fail
                go_cut [] from 19 to 133 (fun wx => Mid1 w0 g rest A B D wx)
                case first =>
                  cases x68
                  · go_wp2_with fail
                    go_meet
                    case rel => exact ⟨D2, HP2.out, HS3.out⟩
                  · have HC := Lib.hid (PI w0 g n c A B rest D2 _ HS3.out HD2.out h12' hBn hn HB2.out)
                    go_wp2_with (go_at_call 24; refine HC.out.mono ?_; rintro e w4 ⟨ok, D3, rfl, hp3, hs3, hw4⟩)
                    all_goals first
                      | (have hok : ok = false := by assumption
                         go_meet
                         exact ⟨D3, Sort.permIn_trans _ _ _ A B HP2.out hp3, hw4⟩)
                      | (have hok : ok = true := by assumption
                         have HX := HF.out D3 (Sort.permIn_trans _ _ _ A B HP2.out hp3) (hs3 hok)
                         exact bodyPost_ret (v := .tuple #[]) (by simp [results, Try.results16, go_sem]) rfl ⟨rfl, D3, by rw [hp3.1]; exact HD2.out, HX.1, HX.2, hw4⟩)
                case rest =>
                  obtain ⟨D3, hp3, hs3⟩ := hcut
                  have HS4 := Lib.hid hs3
                  have HP3 := Lib.hid hp3
                  have HD3 := Lib.hid (hp3.1.trans HD.out)
                  have HB3 := Lib.hid (HB.out.perm (by rw [HD.out]; exact hBn) hp3)
                  clear hs3 hp3 HS3 HP2 HD2 HB2
                  go_upto_region 17 with fail
                  go_cut [87] from 19 to 133 (fun s87 wx => CutD w0 g rest A q D3 s87 wx)
                  case first =>
                    rcases Nat.eq_zero_or_pos A with hA | hA
                    · have hA1 : decide ((0 : Int) < (A : Int)) = false := decide_eq_false (by omega)
                      go_wp2_with (go_quiet (fail))
                      try go_wp2_with fail
                      go_meet
                      exact ⟨by simp [hA], HS4.out.drewN _⟩
                    · obtain ⟨A1, hA1⟩ : ∃ A1, A - 1 = A1 := ⟨_, rfl⟩
                      have eA : (A : Int) - 1 = (A1 : Int) := by omega
                      have g1 := HS4.out.cell (j := A1) (by rw [HD3.out]; omega)
                      have g2 := HS4.out.cell (j := q) (by rw [HD3.out]; omega)
                      obtain ⟨x, hx⟩ : ∃ x, D3[A1]! = x := ⟨_, rfl⟩
                      obtain ⟨y, hy⟩ : ∃ y, D3[q]! = y := ⟨_, rfl⟩
                      rw [hx] at g1
                      rw [hy] at g2
                      have HV := Lib.hid (show (decide (0 < A) && !ltN D3[A - 1]! D3[q]!) = !ltN x y by rw [hA1, hx, hy, decide_eq_true hA, Bool.true_and])
                      clear hx hy
                      have j0 : (0 : Int) ≤ (A1 : Int) := by omega
                      have j1 : (A1 : Int) < (n : Int) := by omega
                      have j2 : (0 : Int) ≤ (q : Int) := by omega
                      have j3 : (q : Int) < (n : Int) := by omega
                      have j4 : (0 : Int) < (A : Int) := by omega
                      clear hA1
                      have HL := Lib.hid (fun w => less_any x y w)
                      go_wp2_with (go_quiet ((go_at_call 25; exact Calls.quiet_of_same (HL.out _))))
                      try go_wp2_with fail
                      go_meet
                      exact ⟨by rw [HV.out], HS4.out.drewN _⟩
                  case rest =>
                    obtain ⟨hsl, hs5⟩ := hcut
                    have HS5 := Lib.hid hs5
                    obtain ⟨t, ht⟩ : ∃ t, (decide (0 < A) && !ltN D3[A - 1]! D3[q]!) = t := ⟨_, rfl⟩
                    rw [ht] at hsl
                    subst hsl
                    have HT := Lib.hid ht
                    clear hs5 ht HS4
                    cases t
                    · obtain ⟨M, ap, D4, hx⟩ : ∃ M ap D4, Sort.partition ltN D3 A B q = (M, ap, D4) := ⟨(Sort.partition ltN D3 A B q).1, (Sort.partition ltN D3 A B q).2.1, (Sort.partition ltN D3 A B q).2.2, rfl⟩
                      have HR := Lib.hid (Sort.round_part swo_ltN (Sort.partition_holds ltN) hap hpb (by rw [HD3.out]; exact hBn) HB3.out hx)
                      obtain ⟨r1, r2⟩ : A ≤ M ∧ M < B := ⟨HR.out.1, HR.out.2.1⟩
                      have HD4 := Lib.hid (HR.out.2.2.1.trans HD3.out)
                      have HC := part_any w0 g n c A B q rest D3 wc HS5.out HD3.out hap hpb (by omega) hBn (by omega)
                      rw [hx] at HC
                      have HC := Lib.hid HC
                      clear hx
                      have u1 : (M : Int) - (A : Int) = ((M - A : Nat) : Int) := by omega
                      have u2 : (B : Int) - (M : Int) = ((B - M : Nat) : Int) := by omega
                      go_upto_if 113 with (go_at_call 27; refine HC.out.mono ?_; rintro e w7 ⟨ap2, rfl, hw7⟩)
                      have HS7 := Lib.hid hw7
                      clear hw7 HC
                      by_cases h4 : M - A < B - M
                      · have h4z : (M : Int) - (A : Int) < (B : Int) - (M : Int) := by omega
                        have HIH := Lib.hid (IH.out A M L1 D4 w7 (by omega) r1 (by omega) hL1 HD4.out HS7.out HR.out.2.2.2.1)
                        go_wp2_with (go_at_call 16; refine HIH.out.mono ?_; rintro e w8 ⟨rfl, D5, hsz, hperm, hsort, hw8⟩)
                        go_roundg (B - (M + 1))
                        case measure => omega
                        case rel =>
                          have HLF := HR.out.2.2.2.2.2.1 D5 hperm hsort
                          exact ⟨M + 1, B, L1, _, ap2, D5, by simp, rfl, rfl, rfl, rfl, by omega, hBn, Nat.le_refl _, by omega, hL1, Lib.hid hsz, Lib.hid hw8, Lib.hid HLF.1, Lib.hid (fun R h1 h2 => HF.out R (Sort.permIn_trans _ _ _ A B HP3.out (HLF.2 R h1 h2).1) (HLF.2 R h1 h2).2)⟩
                      · have h4z : ¬ ((M : Int) - (A : Int) < (B : Int) - (M : Int)) := by omega
                        have e1 : (M : Int) + 1 = ((M + 1 : Nat) : Int) := by omega
                        have HIH := Lib.hid (IH.out (M + 1) B L1 D4 w7 (by omega) r2 hBn hL1 HD4.out HS7.out HR.out.2.2.2.2.1)
                        rw [← e1] at HIH
                        clear e1
                        go_wp2_with (go_at_call 16; refine HIH.out.mono ?_; rintro e w8 ⟨rfl, D5, hsz, hperm, hsort, hw8⟩)
                        go_roundg (M - A)
                        case measure => omega
                        case rel =>
                          have HLF := HR.out.2.2.2.2.2.2 D5 hperm hsort
                          exact ⟨A, M, L1, _, ap2, D5, rfl, rfl, rfl, rfl, rfl, r1, by omega, Nat.le_refl _, by omega, hL1, Lib.hid hsz, Lib.hid hw8, Lib.hid HLF.1, Lib.hid (fun R h1 h2 => HF.out R (Sort.permIn_trans _ _ _ A B HP3.out (HLF.2 R h1 h2).1) (HLF.2 R h1 h2).2)⟩
                    · obtain ⟨M, D4, hx⟩ : ∃ M D4, Sort.partitionEqual ltN D3 A B q = (M, D4) := ⟨(Sort.partitionEqual ltN D3 A B q).1, (Sort.partitionEqual ltN D3 A B q).2, rfl⟩
                      have hA0 : 0 < A ∧ ltN D3[A - 1]! D3[q]! = false := by have := HT.out; simpa using this
                      have HR := Lib.hid (Sort.round_eq swo_ltN (Sort.partitionEqual_holds ltN) hA0.1 hap hpb (by rw [HD3.out]; exact hBn) HB3.out hA0.2 hx)
                      obtain ⟨r1, r2⟩ : A < M ∧ M ≤ B := ⟨HR.out.1, HR.out.2.1⟩
                      have HC := parteq_any w0 g n c A B q rest D3 wc HS5.out HD3.out hap hpb (by omega) hBn (by omega)
                      rw [hx] at HC
                      have HC := Lib.hid HC
                      clear hx hA0
                      go_wp2_with (go_at_call 26; refine HC.out.mono ?_; rintro e w7 ⟨rfl, hw7⟩)
                      go_roundg (B - M)
                      case measure => omega
                      case rel => exact ⟨M, B, L1, wb, wp, D4, rfl, rfl, rfl, rfl, rfl, r2, hBn, Nat.le_refl _, by omega, hL1, Lib.hid (HR.out.2.2.1.trans HD3.out), Lib.hid hw7, Lib.hid HR.out.2.2.2.1, Lib.hid (fun R h1 h2 => HF.out R (Sort.permIn_trans _ _ _ A B HP3.out (HR.out.2.2.2.2 R h1 h2).1) (HR.out.2.2.2.2 R h1 h2).2)⟩
end Go.Proofs.Ytbkhojopiimbdaa
