/- Texts of this proof, one behind the other: NBF, NAM, NBB, NBH, NBI, OC. -/
import Derived.Test.YtaaloepoegehkaaZ2
import Derived.Test.YtaaloepoegehkaaZ6
import Derived.WalkKit
import Derived.WalkSpells
import Derived.WalkLawsBesides
import Derived.Deep.RegionLaw
import Derived.Deep.RegionHeld3
import Derived.Deep.QuietTactic
import Derived.BigQuiet
import Derived.Deep.DeepCutAuto
import Derived.Lib.Hide
import Derived.Test.YtaaloepoegehkaaZ7
import Derived.Test.YtaaloepoegehkaaZ5
import Derived.Test.YtaaloepoegehkaaCT
import Derived.Test.YtaaloepoegehkaaCG
import Derived.Test.YtaaloepoegehkaaLawN9B
import Derived.Deep.AppendLies
import Derived.Test.YtaaloepoegehkaaKMInstr
import Derived.ProofKit
import Derived.OpenShut
import Derived.ShutString
import Derived.ChangeOld
import Derived.Below
import Derived.Deep.Slices
import Derived.Deep.Fields
/- Chapter 9: the order of a schedule: slices.SortStableFunc at its closure. -/
namespace Go.Proofs.Ytaaloepoegehkaa
open Go.RowKit
set_option linter.unusedVariables false
set_option maxRecDepth 100000

theorem chg_drewN9 {lo hi : Nat} {w w' : World} (h : Chg lo hi w w') (n : Nat) : Chg lo hi w (w'.drewN n) := ⟨h.os, h.tape, h.output, h.size, h.block⟩
def cmp9 (a b : Int) : Int := if a < b then -1 else if b < a then 1 else 0
theorem cmp9_neg (a b : Int) : cmp9 a b < 0 ↔ a < b := by unfold cmp9; (repeat' split) <;> omega
theorem cmp9_bd (a b : Int) : -1 ≤ cmp9 a b ∧ cmp9 a b ≤ 1 := by unfold cmp9; (repeat' split) <;> omega
theorem isNaN9_any (a : Int) (w : World) : Calls Try.prog 157 #[.int .i64 a] w fun e w' => e = .returned (.bool false) ∧ w = w' := by
  go_enter Try.func157, Try.ntmps157
  go_wp2
  go_ret
  exact ⟨ret_bool (by simp), rfl⟩
theorem cmpInt9_any (a b : Int) (w : World) : Calls Try.prog 93 #[.int .i64 a, .int .i64 b] w fun e w' => e = .returned (.int .i64 (cmp9 a b)) ∧ w = w' := by
  by_cases h1 : a < b
  · have hR : Hid (cmp9 a b = -1) := if_pos h1
    go_enter Try.func93, Try.ntmps93
    go_wp2_with (go_at_call 157; (with_reducible refine (isNaN9_any _ _).mono ?_); rintro e w' ⟨rfl, rfl⟩)
    go_ret
    exact ⟨ret_int hR.out.symm, rfl⟩
  · by_cases h2 : b < a
    · have hR : Hid (cmp9 a b = 1) := by unfold Hid cmp9; rw [if_neg h1, if_pos h2]
      go_enter Try.func93, Try.ntmps93
      go_wp2_with (go_at_call 157; (with_reducible refine (isNaN9_any _ _).mono ?_); rintro e w' ⟨rfl, rfl⟩)
      go_ret
      exact ⟨ret_int hR.out.symm, rfl⟩
    · have hR : Hid (cmp9 a b = 0) := by unfold Hid cmp9; rw [if_neg h1, if_neg h2]
      go_enter Try.func93, Try.ntmps93
      go_wp2_with (go_at_call 157; (with_reducible refine (isNaN9_any _ _).mono ?_); rintro e w' ⟨rfl, rfl⟩)
      go_ret
      exact ⟨ret_int hR.out.symm, rfl⟩
theorem osCmp_any (g L B : Nat) (A : Option Addr) (c : Nat) (xs : List Int) (i j : Nat) (W : World) (hi : i < xs.length) (hj : j < xs.length) (hg : W.cell? ⟨g, 0, none⟩ = some (.slice A xs.length c)) (hns : IS W L B A xs) :
    Calls Try.prog 92 #[.int .i64 i, .int .i64 j, .pointer (some ⟨g, 0, none⟩)] W fun e w' => e = .returned (.int .i64 (cmp9 (xs.getD i 0) (xs.getD j 0))) ∧ ∃ m, w' = W.drewN m := by
  obtain ⟨b, o, rfl, _, hc⟩ := hns (by omega)
  have c1 := hc i hi
  have c2 := hc j hj
  have e1 : xs.getD i 0 = xs[i] := by rw [List.getD_eq_getElem?_getD, List.getElem?_eq_getElem hi]; rfl
  have e2 : xs.getD j 0 = xs[j] := by rw [List.getD_eq_getElem?_getD, List.getElem?_eq_getElem hj]; rfl
  have hii : (i : Int) < (xs.length : Int) := by omega
  have hi0 : (0 : Int) ≤ (i : Int) := by omega
  have hji : (j : Int) < (xs.length : Int) := by omega
  have hj0 : (0 : Int) ≤ (j : Int) := by omega
  rw [e1, e2]
  clear hc e1 e2 hns
  generalize xs[i] = x at *
  generalize xs[j] = y at *
  have hC := Lib.hid (cmpInt9_any x y)
  generalize cmp9 x y = r at *
  have b0 := Lib.hid (Below.refl W.heap.size W)
  go_enter Try.func92, Try.ntmps92
  go_wp2_with (fail)
  go_quiet ((go_at_call 93; exact Calls.quiet_of_same (same_flip (hC.out _))))
  all_goals go_wp2
  all_goals go_ret
  all_goals exact ⟨rfl, _, rfl⟩
set_option maxHeartbeats 4000000 in
theorem insSort_none (v f : Value) (a : Int) (w : World) (ha : 0 ≤ a ∧ a ≤ 1000) :
    Calls Try.prog 198 #[v, .int .i64 a, .int .i64 a, f] w fun e w' => e = .returned (.tuple #[]) ∧ w = w' := by
  have hw : IntKind.i64.wrap (a + 1) = a + 1 := IntWalk.i64_in _ (by omega)
  go_enter Try.func198, Try.ntmps198
  go_wp2
  go_loopw [8] (fun q wr => q = .int .i64 (a + 1) ∧ w = wr) (fun _ _ => 0)
  case atStart => exact ⟨rfl, rfl⟩
  case round =>
    obtain ⟨rfl, rfl⟩ := hrel
    have h1 : ¬ a + 1 < a := by omega
    go_wp2
    go_end0
    exact ⟨rfl, rfl⟩
set_option maxHeartbeats 8000000 in
theorem insSort_any (g gd cd L B : Nat) (A : Option Addr) (c n : Nat) (xs : List Int) (w : World) (hn : xs.length = n) (h1 : 1 ≤ n) (h20 : n ≤ 20) (hg : CB 34 w g [.slice A n c]) (hns : IS w L B A xs) (hB : B ≤ w.heap.size) (hd : IB w gd 3 (idxR 0 n)) (hne : g ≠ gd) (hap : gd < L ∨ B ≤ gd) :
    Calls Try.prog 198 #[.slice (some ⟨gd, 0, none⟩) n cd, .int .i64 0, .int .i64 n, .func (.func 92) #[] #[.pointer (some ⟨g, 0, none⟩)]] w fun e w' => e = .returned (.tuple #[]) ∧ IB w' gd 3 (osL xs n) ∧ Chg gd (gd + 1) w w' := by
  have hC := Lib.hid fun (i j : Nat) (W : World) (hW : Chg gd (gd + 1) w W) (hi : i < n) (hj : j < n) => (by
    have h9 := osCmp_any g L B A c xs i j W (by omega) (by omega) (by rw [hn]; exact (CB.cell (hg.chgA hW (by omega)) 0).trans rfl) (hns.keep fun p h1 h2 => hW.cell (by omega) (by omega))
    exact h9 : Calls Try.prog 92 #[.int .i64 i, .int .i64 j, .pointer (some ⟨g, 0, none⟩)] W fun e w' => e = .returned (.int .i64 (cmp9 (xs.getD i 0) (xs.getD j 0))) ∧ ∃ m, w' = W.drewN m)
  have hL := Lib.hid fun (k : Nat) => osL_len xs k
  have hM := Lib.hid fun (k : Nat) => osL_mem xs k
  have hdL := Lib.hid fun (i j : Nat) (h : i < n) (hj : j ≤ i) => dO_len (xs := xs) h hj
  have hdA := Lib.hid fun (i j : Nat) (h : i < n) (hj : j ≤ i) => dO_at (xs := xs) h hj
  have hdP := Lib.hid fun (i j : Nat) (h : i < n) (hj : j + 1 ≤ i) => dO_prev (xs := xs) h hj
  have hdS := Lib.hid fun (i j : Nat) (h : i < n) (hj : j + 1 ≤ i) => dO_swap (xs := xs) h hj
  have hdE := Lib.hid fun (i k : Nat) (h : i < n) (hk : k ≤ i) (a1 : ∀ q (h : q < (osL xs i).length), k ≤ q → leO xs i (osL xs i)[q] = false) (a2 : k = 0 ∨ ∃ h : k - 1 < (osL xs i).length, leO xs i (osL xs i)[k - 1] = true) => dO_end h hk a1 a2
  have hd0 := Lib.hid fun (i : Nat) (h : i < n) => dS_start (xs := xs) h
  have hdN := Lib.hid (dS_end xs n)
  have hD0 : Hid (IB w gd 3 (dS xs n 1)) := by rw [Hid, dS_one (by omega)]; exact hd
  have hLe : Hid (∀ i q, leO xs i q = decide (xs.getD q.toNat 0 ≤ xs.getD i 0)) := fun i q => by unfold leO kyO; simp
  have hNl := Lib.hid hn
  clear hg hns hB hd hne hap hn
  generalize dO xs n = DO at *
  generalize dS xs n = DS at *
  generalize leO xs = LE at *
  generalize osL xs = OS at *
  go_enter Try.func198, Try.ntmps198
  go_wp2
  go_loopw [8] (fun q wr => ∃ k : Nat, 1 ≤ k ∧ k ≤ n ∧ q = .int .i64 k ∧ IB wr gd 3 (DS k) ∧ Chg gd (gd + 1) w wr) (fun q _ => n - (intOf q).toNat)
  case atStart => exact ⟨1, Nat.le_refl _, h1, rfl, hD0.out, Chg.refl _ _ _⟩
  case round =>
    clear hD0
    obtain ⟨k, hk1, hk, rfl, hib, hch⟩ := hrel
    have hIB := Lib.hid hib
    have hCH := Lib.hid hch
    clear hib hch
    by_cases hlt : k < n
    · have hki : (k : Int) < (n : Int) := by omega
      have hk0 : (0 : Int) ≤ (k : Int) := by omega
      have hI0 : Hid (IB wr gd 3 (DO k k)) := by rw [Hid, ← hd0.out k hlt]; exact hIB.out
      have hMk := Lib.hid (hM.out k)
      have hLk := Lib.hid (hL.out k)
      have hw9 : IntKind.i64.wrap ((k : Int) + 1) = (k : Int) + 1 := IntWalk.i64_in _ (by omega)
      go_wp2
      go_loopw [9] (fun q wq => ∃ j : Nat, j ≤ k ∧ q = .int .i64 j ∧ IB wq gd 3 (DO k j) ∧ (∀ q (h : q < (OS k).length), j ≤ q → LE k (OS k)[q] = false) ∧ Chg gd (gd + 1) w wq) (fun q _ => (intOf q).toNat)
      case atStart => exact ⟨k, Nat.le_refl _, rfl, hI0.out, (fun q h hq => absurd h (by rw [hLk.out]; omega)), hCH.out⟩
      case round =>
        clear hI0 hIB hCH
        obtain ⟨j, hj, rfl, hib, hfa, hch⟩ := hrel
        have hIB := Lib.hid hib
        have hFA := Lib.hid hfa
        have hCH := Lib.hid hch
        clear hib hfa hch
        rcases Nat.eq_zero_or_pos j with rfl | hpos
        · have hE := Lib.hid (hdE.out k 0 hlt (Nat.zero_le _) hFA.out (.inl rfl))
          have hIE : Hid (IB wr gd 3 (DS (k + 1))) := by rw [Hid, ← hE.out]; exact hIB.out
          go_wp2_with (fail)
          go_quiet (fail)
          all_goals go_wp2
          all_goals go_roundw
          case rel => exact ⟨k + 1, by omega, by omega, by go_num, hIE.out, chg_drewN9 hCH.out _⟩
          case measure => simp [intOf]; omega
        · obtain ⟨p, rfl⟩ : ∃ p, j = p + 1 := ⟨j - 1, by omega⟩
          have hp1 : (((p + 1 : Nat) : Int) - 1) = (p : Int) := by omega
          have hws : IntKind.i64.wrap (((p + 1 : Nat) : Int) - 1) = (p : Int) := by rw [IntWalk.i64_in _ (by omega)]; omega
          have hpl : p < (OS k).length := by rw [hLk.out]; omega
          have hv := hMk.out _ (List.getElem_mem hpl)
          obtain ⟨v, hv9⟩ := Int.eq_ofNat_of_zero_le hv.1
          have hvn : v < n := by omega
          have a1 := hIB.out.cell (p + 1) (by rw [hdL.out k (p + 1) hlt hj]; omega)
          have a2 := hIB.out.cell p (by rw [hdL.out k (p + 1) hlt hj]; omega)
          have f1 := hIB.out.frozen (p + 1)
          have f2 := hIB.out.frozen p
          have g1 := hdA.out k (p + 1) hlt hj
          have g2 := hdP.out k p hlt hj
          rw [List.getD_eq_getElem?_getD, List.getElem?_eq_getElem (by rw [hdL.out k (p + 1) hlt hj]; omega), Option.getD_some] at g1 g2
          rw [List.getD_eq_getElem?_getD, List.getElem?_eq_getElem hpl, Option.getD_some, hv9] at g2
          rw [g1] at a1
          rw [g2] at a2
          clear g1 g2
          have hCC := Lib.hid fun (n : Nat) => hC.out k v (wr.drewN n) (chg_drewN9 hCH.out n) hlt hvn
          have hle := hLe.out k (v : Int)
          rw [Int.toNat_natCast] at hle
          have hng := Lib.hid (cmp9_neg (xs.getD k 0) (xs.getD v 0))
          have hbw := Lib.hid (Chg.drew hCH.out)
          have hIBd : Hid (IB wr.drew gd 3 (DO k (p + 1))) := hIB.out
          have hsw := Lib.hid (hdS.out k p hlt hj)
          rw [List.getD_eq_getElem?_getD, List.getElem?_eq_getElem hpl, Option.getD_some, hv9] at hsw
          have hki2 : (k : Int) < (n : Int) := by omega
          have hpn1 : ((p + 1 : Nat) : Int) < (n : Int) := by omega
          have hpn0 : (0 : Int) ≤ ((p + 1 : Nat) : Int) := by omega
          have hpp1 : (p : Int) < (n : Int) := by omega
          have hpp0 : (0 : Int) ≤ (p : Int) := by omega
          have hgt : decide ((0 : Int) < ((p + 1 : Nat) : Int)) = true := decide_eq_true (by omega)
          have hEnd := Lib.hid (hdE.out k (p + 1) hlt hj hFA.out)
          have hOsp : Hid ((OS k)[p]'hpl = (v : Int)) := hv9
          generalize hcr : cmp9 (xs.getD k 0) (xs.getD v 0) = r at *
          clear hcr
          by_cases hlv : xs.getD k 0 < xs.getD v 0
          · have hr : decide (r < 0) = true := decide_eq_true (hng.out.2 hlv)
            have hfal : Hid (∀ q (h : q < (OS k).length), p ≤ q → LE k (OS k)[q] = false) := by
              intro q h hq
              rcases Nat.eq_or_lt_of_le hq with rfl | hq2
              · rw [hOsp.out, hle]; exact decide_eq_false (by omega)
              · exact hFA.out q h hq2
            clear hle hng hlv
            go_wp2_with (fail)
            go_quiet ((go_at_call 92; exact Calls.quiet_of (hCC.out _)))
            all_goals go_wp2_with (fail)
            have w1r : (wr.setCell ⟨gd, p + 1, none⟩ (.int .i64 v)).frozen? ⟨gd, p, none⟩ = false := (hIB.out.set (p + 1) (v : Int)).frozen p
            have w2r : (wr.setCell ⟨gd, p, none⟩ (.int .i64 k)).frozen? ⟨gd, p + 1, none⟩ = false := (hIB.out.set p (k : Int)).frozen (p + 1)
            have hS1 : Hid (∀ m : Nat, IB (((wr.drewN m).setCell ⟨gd, p + 1, none⟩ (.int .i64 v)).setCell ⟨gd, p, none⟩ (.int .i64 k)) gd 3 (DO k p)) := fun m => by
              have h : IB (wr.drewN m) gd 3 (DO k (p + 1)) := hIB.out
              have h2 := (h.set (p + 1) (v : Int)).set p (k : Int)
              rw [hsw.out] at h2; exact h2
            have hS2 : Hid (∀ m : Nat, Chg gd (gd + 1) w (((wr.drewN m).setCell ⟨gd, p + 1, none⟩ (.int .i64 v)).setCell ⟨gd, p, none⟩ (.int .i64 k))) := fun m =>
              ((chg_drewN9 hCH.out m).setCell (p := ⟨gd, p + 1, none⟩) ⟨Nat.le_refl _, Nat.lt_succ_self _⟩ _).setCell (p := ⟨gd, p, none⟩) ⟨Nat.le_refl _, Nat.lt_succ_self _⟩ _
            clear hFA hCH hIB
            go_region
            all_goals go_wp2
            all_goals go_roundw
            case rel => exact ⟨p, by omega, by go_num, hS1.out _, hfal.out, hS2.out _⟩
            case measure => simp [intOf] <;> omega
          · have hr : decide (r < 0) = false := decide_eq_false (fun h => hlv (hng.out.1 h))
            have hE := Lib.hid (hEnd.out (.inr ⟨by simpa using hpl, by have h0 : (OS k)[p + 1 - 1]'(by simpa using hpl) = (v : Int) := hOsp.out; rw [h0, hle]; exact decide_eq_true (by omega)⟩))
            clear hle hng hlv
            go_wp2_with (fail)
            go_quiet ((go_at_call 92; exact Calls.quiet_of (hCC.out _)))
            have hI5 : Hid (IB wr gd 3 (DS (k + 1))) := by rw [Hid, ← hE.out]; exact hIBd.out
            all_goals go_wp2
            all_goals go_roundw
            case rel => exact ⟨k + 1, by omega, by omega, by go_num, hI5.out, chg_drewN9 hCH.out _⟩
            case measure => simp [intOf]; omega
    · obtain rfl : k = n := by omega
      go_wp2
      go_end0
      exact ⟨rfl, by rw [← hdN.out]; exact hIB.out, hCH.out⟩
set_option maxHeartbeats 4000000 in
theorem stable9_any (g gd cd L B : Nat) (A : Option Addr) (c n : Nat) (xs : List Int) (w : World) (hn : xs.length = n) (h1 : 1 ≤ n) (h20 : n ≤ 20) (hg : CB 34 w g [.slice A n c]) (hns : IS w L B A xs) (hB : B ≤ w.heap.size) (hd : IB w gd 3 (idxR 0 n)) (hne : g ≠ gd) (hap : gd < L ∨ B ≤ gd) :
    Calls Try.prog 156 #[.slice (some ⟨gd, 0, none⟩) n cd, .int .i64 n, .func (.func 92) #[] #[.pointer (some ⟨g, 0, none⟩)]] w fun e w' => e = .returned (.tuple #[]) ∧ IB w' gd 3 (osL xs n) ∧ Chg gd (gd + 1) w w' := by
  have H := Lib.hid (insSort_any g gd cd L B A c n xs w hn h1 h20 hg hns hB hd hne hap)
  have HZ := Lib.hid fun (a : Int) (W : World) (ha : 0 ≤ a ∧ a ≤ 1000) => insSort_none (.slice (some ⟨gd, 0, none⟩) n cd) (.func (.func 92) #[] #[.pointer (some ⟨g, 0, none⟩)]) a W ha
  clear hg hns hd hne hap hn
  generalize osL xs n = R at *
  by_cases h : n < 20
  · have hi : (n : Int) < 20 := by omega
    have hi2 : ¬ (20 : Int) ≤ (n : Int) := by omega
    have hi3 : ¬ (20 : Int) < (n : Int) := by omega
    have hi4 : (n : Int) ≤ 20 := by omega
    go_enter Try.func156, Try.ntmps156
    go_wp2
    go_loopw [7, 8] (fun a b wr => a = .int .i64 0 ∧ b = .int .i64 20 ∧ w = wr) (fun _ _ _ => 0)
    case atStart => exact ⟨rfl, rfl, rfl⟩
    case round =>
      obtain ⟨rfl, rfl, rfl⟩ := hrel
      go_wp2_with (fail)
      refine H.out.mono ?_
      rintro e w1 ⟨rfl, hib, hch⟩
      have hI := Lib.hid hib
      have hC := Lib.hid hch
      clear hib hch H HZ
      go_wp2
      go_loopw [6] (fun a wr => a = .int .i64 20 ∧ w1 = wr) (fun _ _ => 0)
      case atStart => exact ⟨rfl, rfl⟩
      case round =>
        obtain ⟨rfl, rfl⟩ := hrel
        go_wp2
        go_end0
        exact ⟨rfl, hI.out, hC.out⟩
  · obtain rfl : n = 20 := by omega
    have HZ2 := Lib.hid fun (W : World) => HZ.out 20 W (by omega)
    rw [show ((20 : Nat) : Int) = 20 from rfl] at H ⊢
    clear HZ
    go_enter Try.func156, Try.ntmps156
    go_wp2
    go_loopw [7, 8] (fun a b wr => (a = .int .i64 0 ∧ b = .int .i64 20 ∧ w = wr) ∨ (a = .int .i64 20 ∧ b = .int .i64 40 ∧ IB wr gd 3 R ∧ Chg gd (gd + 1) w wr)) (fun _ b _ => 40 - (intOf b).toNat)
    case atStart => exact .inl ⟨rfl, rfl, rfl⟩
    case round =>
      rcases hrel with ⟨rfl, rfl, rfl⟩ | ⟨rfl, rfl, hib, hch⟩
      · go_wp2_with (fail)
        refine H.out.mono ?_
        rintro e w1 ⟨rfl, hib, hch⟩
        have hI := Lib.hid hib
        have hC := Lib.hid hch
        clear hib hch
        go_wp2
        go_roundw
        case rel => exact .inr ⟨rfl, by go_num, hI.out, hC.out⟩
        case measure => simp [intOf]
      · have hI := Lib.hid hib
        have hC := Lib.hid hch
        clear hib hch
        go_wp2_with (fail)
        refine (HZ2.out _).mono ?_
        rintro e w1 ⟨rfl, rfl⟩
        go_wp2
        go_loopw [6] (fun a w9 => a = .int .i64 20 ∧ wr = w9) (fun _ _ => 0)
        case atStart => exact ⟨rfl, rfl⟩
        case round =>
          obtain ⟨rfl, rfl⟩ := hrel
          go_wp2
          go_end0
          exact ⟨rfl, hI.out, hC.out⟩
end Go.Proofs.Ytaaloepoegehkaa

/- Chapter 9: heights of the model. -/
namespace Go.Proofs.Ytaaloepoegehkaa
open Go.RowKit
set_option linter.unusedVariables false
set_option maxRecDepth 100000

set_option maxHeartbeats 8000000 in
theorem orHeights_any (L B : Nat) (A : Option Addr) (c : Nat) (cs : List In) (w : World) (hl : cs.length ≤ 20) (hgood : ∀ x ∈ cs, goodIn x = true) (hes : RS In.enc 5 w L B A cs) (hB : B ≤ w.heap.size) :
    Calls Try.prog 141 #[.slice A cs.length c] w (FreshI w (hL cs)) := by
  have H := Lib.hid (orDelays_any L B A c cs w hl hgood hes hB)
  have hmk := run_make_ints cs.length (by omega)
  have hE := Lib.hid fun (W : World) (hW : Below w.heap.size w W) => hes.below hW hB
  have hRl := Lib.hid (dRows_len cs cs.length)
  have hRa := Lib.hid fun (i : Nat) (h : i < (dRows cs cs.length).length) => dRows_at cs cs.length h
  have hTl := Lib.hid (dTab_len cs)
  have hTa := Lib.hid fun (i j : Nat) (h : j < (dTab cs i cs.length).length) => dTab_at cs i cs.length h
  have hZ0 : Hid (zeros cs.length = hz cs cs.length) := (hz_top cs).symm
  have hZb := Lib.hid (hz_bot cs)
  have hZl := Lib.hid (hz_len cs)
  have hIl := Lib.hid (hzr_len cs)
  have hIz := Lib.hid (hzr_start cs)
  have hIe := Lib.hid fun (i : Nat) (h : i < cs.length) => hzr_end h
  have hIy := Lib.hid fun (i j : Nat) (hi : i < cs.length) (hij : i < j) (hj : j < cs.length) (h : 0 ≤ dT cs i j) => hzr_yes hi hij hj h
  have hIn := Lib.hid fun (i j : Nat) (h : ¬ 0 ≤ dT cs i j) => hzr_no h
  have hIb := Lib.hid fun (i j : Nat) (hi : i < cs.length) => hzr_bd hl j hi
  have hIg := Lib.hid fun (i j q : Nat) (h1 : i < q) (h2 : q < cs.length) => hzr_gt (j := j) h1 h2
  have hHb := Lib.hid fun (q : Nat) => hH_bd hl q
  have hDb := Lib.hid fun (i j : Nat) => dT_bd cs i j
  have hLl := Lib.hid (hL_len cs)
  have hGd := Lib.hid hgood
  have hCe : Hid (∀ i (h : i < cs.length), cstA cs i = (fm cs[i].op).c) := fun i h => by unfold cstA; rw [inAt_eq h]
  have hsub : IntKind.i64.wrap ((cs.length : Int) - 1) = (cs.length : Int) - 1 := IntWalk.i64_in _ (by omega)
  clear hes hgood hB
  generalize dRows cs cs.length = TT at *
  generalize dTab cs = T at *
  generalize dT cs = E at *
  generalize hz cs = HZ at *
  generalize hzr cs = HR at *
  generalize hL cs = HL at *
  generalize hH cs = HH at *
  generalize cstA cs = CA at *
  go_enter Try.func141, Try.ntmps141
  go_wp2_with (fail)
  refine H.out.mono ?_
  rintro e w1 ⟨At, ct, rfl, hox, hb1⟩
  have hXT := Lib.hid (OX.rs hox)
  have hB1 := Lib.hid hb1
  have hO0 : Hid (OW (w1.alloc (.cells (intCells (zeros cs.length)) 3)) w1.heap.size (w1.alloc (.cells (intCells (zeros cs.length)) 3)).heap.size (.slice (some ⟨w1.heap.size, 0, none⟩) cs.length cs.length) (HZ cs.length)) := by
    have h : IB (w1.alloc (.cells (intCells (zeros cs.length)) 3)) w1.heap.size 3 (zeros cs.length) := heap_alloc_new w1 _
    have h2 := OW.ofIB (lo := w1.heap.size) (hi := (w1.alloc (.cells (intCells (zeros cs.length)) 3)).heap.size) h (by simp [zeros]; omega) (Nat.le_refl _) (by simp)
    have hz : (zeros cs.length).length = cs.length := by simp [zeros]
    rw [hz, hZ0.out] at h2
    rw [hZ0.out]
    exact h2
  have hb2 := Lib.hid ((Below.refl w1.heap.size w1).alloc (Nat.le_refl _) (.cells (intCells (zeros cs.length)) 3))
  clear hox hb1
  rw [hRl.out]
  go_wp2_with (fail)
  clear hmk
  generalize hg : w1.heap.size = g at hO0 ⊢
  generalize w1.alloc (.cells (intCells (zeros cs.length)) 3) = W2 at *
  have hG := Lib.hid hg
  clear hg
  go_loopw [5] (fun q wr => ∃ k : Nat, k ≤ cs.length ∧ q = .int .i64 ((k : Int) - 1) ∧ OW wr g wr.heap.size (.slice (some ⟨g, 0, none⟩) cs.length cs.length) (HZ k) ∧ Below w1.heap.size w1 wr) (fun q _ => (intOf q + 1).toNat)
  case atStart => exact ⟨cs.length, Nat.le_refl _, rfl, hO0.out, hb2.out⟩
  case round =>
    clear hO0 hb2
    obtain ⟨k, hk, rfl, how, hbel⟩ := hrel
    have hO := Lib.hid how
    have hBL := Lib.hid hbel
    clear how hbel
    rcases Nat.eq_zero_or_pos k with rfl | hpos
    · have hfin := Lib.hid (hB1.out.trans (hBL.out.mono hB1.out.size))
      have hlg : w.heap.size ≤ g := by rw [← hG.out]; exact hB1.out.size
      have hO9 := Lib.hid (hO.out.lower hlg)
      rw [hZb.out] at hO9
      clear hlg
      go_wp2
      go_ret
      exact ⟨_, _, by rw [hLl.out]; rfl, by rw [hLl.out]; exact hO9.out, hfin.out⟩
    · obtain ⟨p, rfl⟩ : ∃ p, k = p + 1 := ⟨k - 1, by omega⟩
      have hp1 : (((p + 1 : Nat) : Int) - 1) = (p : Int) := by omega
      rw [hp1]
      clear hp1
      have hlt : p < cs.length := by omega
      have hji : (p : Int) < (cs.length : Int) := by omega
      have hj0 : (0 : Int) ≤ (p : Int) := by omega
      have hws : IntKind.i64.wrap ((p : Int) - 1) = (p : Int) - 1 := IntWalk.i64_in _ (by omega)
      have hbw := Lib.hid (hB1.out.trans (hBL.out.mono hB1.out.size))
      obtain ⟨b, o, rfl, ⟨_, hbB⟩, hc⟩ := In.cells (hE.out wr hbw.out) (by omega)
      obtain ⟨c1, _⟩ := hc p hlt
      have hok := (good_parts (hGd.out _ (List.getElem_mem hlt))).2.2.2.1
      have hce := hCe.out p hlt
      have hC := Lib.hid fun (W : World) => cdCost_any cs[p].op W hok
      rw [← hce] at hC
      clear hc hok hce
      generalize cs[p].op = op at *
      have hIp := Lib.hid (hIz.out p)
      obtain ⟨_, fp⟩ := OW.at9 hO.out p (by rw [hZl.out]; exact hlt)
      obtain ⟨op0, _⟩ := OW.at9 hO.out p (by rw [hZl.out]; exact hlt)
      have hP3 := hO.out.put9 p (CA p)
      rw [← hIp.out] at hP3
      have hzs : (wr.setCell ⟨g, p, none⟩ (.int .i64 (CA p))).heap.size = wr.heap.size := World.size_setCell _ _ _
      have hO3 := Lib.hid (show OW (wr.setCell ⟨g, p, none⟩ (.int .i64 (CA p))) g (wr.setCell ⟨g, p, none⟩ (.int .i64 (CA p))).heap.size (.slice (some ⟨g, 0, none⟩) cs.length cs.length) (HR p (p + 1)) from by rw [hzs]; exact hP3)
      have hb3 := Lib.hid (hBL.out.setCell (p := ⟨g, p, none⟩) (by rw [hG.out]; exact Nat.le_refl _) (.int .i64 (CA p)))
      clear hP3 hzs
      go_wp2_with (fail)
      refine (hC.out _).mono ?_
      rintro e w3 ⟨rfl, rfl⟩
      go_wp2
      clear c1 fp op0 hO hBL hC
      generalize wr.setCell ⟨g, p, none⟩ (.int .i64 (CA p)) = W3 at *
      go_loopw [6] (fun q wq => ∃ j : Nat, p < j ∧ j ≤ cs.length ∧ q = .int .i64 j ∧ OW wq g wq.heap.size (.slice (some ⟨g, 0, none⟩) cs.length cs.length) (HR p j) ∧ Below w1.heap.size w1 wq) (fun q _ => cs.length - (intOf q).toNat)
      case atStart => exact ⟨p + 1, Nat.lt_succ_self _, hlt, by go_num, hO3.out, hb3.out⟩
      case round =>
        clear hO3 hb3
        obtain ⟨j, hpj, hj, rfl, how, hbel⟩ := hrel
        have hO := Lib.hid how
        have hBL := Lib.hid hbel
        clear how hbel
        by_cases hjn : j < cs.length
        · have hjin : (j : Int) < (cs.length : Int) := by omega
          have hj00 : (0 : Int) ≤ (j : Int) := by omega
          obtain ⟨xb, xo, Ai, ci, rfl, hxb, xc0, hI⟩ := XS.at hXT.out (show p < TT.length by rw [hRl.out]; omega)
          rw [hRa.out p (by rw [hRl.out]; omega)] at xc0 hI
          rw [hTl.out] at xc0
          obtain ⟨rb, ro, rfl, ⟨_, hrb⟩, hcc⟩ := hI (by rw [hTl.out]; omega)
          have rc0 := hcc j (by rw [hTl.out]; exact hjn)
          rw [hTa.out p j (by rw [hTl.out]; exact hjn)] at rc0
          have xc := (hBL.out.cell (p := ⟨xb, xo + p, none⟩) hxb).trans xc0
          have rc := (hBL.out.cell (p := ⟨rb, ro + j, none⟩) hrb).trans rc0
          have hlen := hIl.out p j
          obtain ⟨oj, fj⟩ := OW.at9 hO.out p (by rw [hlen]; exact hlt)
          obtain ⟨oi, _⟩ := OW.at9 hO.out j (by rw [hlen]; omega)
          have hY := Lib.hid (hIy.out p j hlt hpj hjn)
          have hN := Lib.hid (hIn.out p j)
          have hb0 := hIg.out p j j hpj hjn
          have hb00 := hHb.out j
          rw [← hb0] at hb00
          have hb1 := hDb.out p j
          have hPut := Lib.hid fun (x : Int) => hO.out.put9 p x
          clear hcc hI xc0 rc0 hb0
          generalize hTT : HR p (j + 1) = En at *
          have hTh := Lib.hid hTT
          clear hTT
          generalize HR p j = xs at *
          generalize E p j = dd at *
          generalize xs.getD p 0 = yj at *
          generalize xs.getD j 0 = yi at *
          have hw9 : IntKind.i64.wrap (dd + yi) = dd + yi := IntWalk.i64_in _ (by omega)
          by_cases h0 : 0 ≤ dd
          · have hY2 := Lib.hid (hY.out h0)
            clear hY hN
            have hlg : w1.heap.size ≤ g := by rw [hG.out]; exact Nat.le_refl _
            have hBs := Lib.hid ((hBL.out.setCell (p := ⟨g, p, none⟩) hlg (.int .i64 (max yj (dd + yi)))).drew)
            clear hlg
            have hfin := Lib.hid (show OW (wr.setCell ⟨g, p, none⟩ (.int .i64 (max yj (dd + yi)))).drew g (wr.setCell ⟨g, p, none⟩ (.int .i64 (max yj (dd + yi)))).drew.heap.size (.slice (some ⟨g, 0, none⟩) cs.length cs.length) En from by
              rw [hY2.out]
              have hz : (wr.setCell ⟨g, p, none⟩ (.int .i64 (max yj (dd + yi)))).heap.size = wr.heap.size := World.size_setCell _ _ _
              show OW (wr.setCell ⟨g, p, none⟩ (.int .i64 (max yj (dd + yi)))) g (wr.setCell ⟨g, p, none⟩ (.int .i64 (max yj (dd + yi)))).heap.size _ _
              rw [hz]; exact hPut.out _)
            go_wp2_with (fail)
            go_region_law (go_simp; go_at_call 158; (with_reducible refine (l1Most_9 _ _ _).mono ?_); rintro e w' ⟨rfl, rfl⟩)
            all_goals
              go_wp2
              go_roundw
              case rel => exact ⟨j + 1, by omega, by omega, by go_num, by rw [hTh.out]; exact hfin.out, hBs.out⟩
              case measure => simp [intOf]; omega
          · have hN2 := Lib.hid (hN.out (by omega))
            clear hY hN
            go_wp2
            go_roundw
            case rel => exact ⟨j + 1, by omega, by omega, by go_num, by rw [hTh.out, hN2.out]; exact hO.out, hBL.out⟩
            case measure => simp [intOf]; omega
        · obtain rfl : j = cs.length := by omega
          have hE9 := Lib.hid (hIe.out p hlt)
          go_wp2
          go_roundw
          case rel => exact ⟨p, by omega, rfl, by rw [← hE9.out]; exact hO.out, hBL.out⟩
          case measure => simp [intOf] <;> omega
end Go.Proofs.Ytaaloepoegehkaa

/- Chapter 9: the list schedule of the model. -/
namespace Go.Proofs.Ytaaloepoegehkaa
open Go.RowKit
set_option linter.unusedVariables false
set_option maxRecDepth 100000

theorem XS.moreX {w : World} {L B B' : Nat} {A : Option Addr} {xss : List (List Int)} (h : XS w L B A xss) (hB : B ≤ B') : XS w L B' A xss := by
  obtain ⟨vs, hl, hr, hi⟩ := h
  exact ⟨vs, hl, hr.more (Nat.le_refl _) hB, fun i h1 h2 => by
    obtain ⟨Ai, ci, e, hx⟩ := hi i h1 h2
    exact ⟨Ai, ci, e, fun h0 => by obtain ⟨b, o, e2, ⟨hb1, hb2⟩, hc⟩ := hx h0; exact ⟨b, o, e2, ⟨hb1, by omega⟩, hc⟩⟩⟩
theorem XS.lowX {w : World} {L L' B : Nat} {A : Option Addr} {xss : List (List Int)} (h : XS w L B A xss) (hL : L' ≤ L) : XS w L' B A xss := by
  obtain ⟨vs, hl, hr, hi⟩ := h
  exact ⟨vs, hl, hr.more hL (Nat.le_refl _), fun i h1 h2 => by
    obtain ⟨Ai, ci, e, hx⟩ := hi i h1 h2
    exact ⟨Ai, ci, e, fun h0 => by obtain ⟨b, o, e2, ⟨hb1, hb2⟩, hc⟩ := hx h0; exact ⟨b, o, e2, ⟨by omega, hb2⟩, hc⟩⟩⟩
theorem IS.moreI {w : World} {L B B' : Nat} {A : Option Addr} {xs : List Int} (h : IS w L B A xs) (hB : B ≤ B') : IS w L B' A xs := fun h0 => by
  obtain ⟨b, o, e2, ⟨hb1, hb2⟩, hc⟩ := h h0; exact ⟨b, o, e2, ⟨hb1, by omega⟩, hc⟩
theorem IS.lowI {w : World} {L L' B : Nat} {A : Option Addr} {xs : List Int} (h : IS w L B A xs) (hL : L' ≤ L) : IS w L' B A xs := fun h0 => by
  obtain ⟨b, o, e2, ⟨hb1, hb2⟩, hc⟩ := h h0; exact ⟨b, o, e2, ⟨by omega, hb2⟩, hc⟩
theorem OW.someB {w : World} {lo hi n c : Nat} {A : Option Addr} {xs : List Int} (h : OW w lo hi (.slice A n c) xs) (h0 : 0 < n) : ∃ g, A = some ⟨g, 0, none⟩ ∧ lo ≤ g := by
  have hn := OW.len9 h
  rcases h.1.2 with ⟨hv, h1⟩ | ⟨g, cap, cur, hv, hg, _⟩
  · rw [hn] at h0; omega
  · injection hv with h1 h2 h3
    exact ⟨g, h1, hg⟩
def bsV (p : Nat × Bool) : Int := if p.2 = true then (p.1 : Int) else -1
set_option maxHeartbeats 8000000 in
theorem orList_any (L B : Nat) (A : Option Addr) (c : Nat) (cs : List In) (wide : Nat) (w : World) (h20 : cs.length ≤ 20) (hgood : ∀ x ∈ cs, goodIn x = true) (hwd : 1 ≤ wide ∧ wide ≤ 3) (hes : RS In.enc 5 w L B A cs) (hB : B ≤ w.heap.size) :
    Calls Try.prog 82 #[.slice A cs.length c, .int .i64 (wide : Int)] w (FreshI w (lsR cs wide)) := by
  have H1 := Lib.hid fun (W : World) (hW : Below w.heap.size w W) => orDelays_any L B A c cs W h20 hgood (hes.below hW hB) (Nat.le_trans hB hW.size)
  have H2 := Lib.hid fun (W : World) (hW : Below w.heap.size w W) => orHeights_any L B A c cs W h20 hgood (hes.below hW hB) (Nat.le_trans hB hW.size)
  have H3 := Lib.hid fun (W : World) => orNone_any cs.length W (by omega)
  have hRl := Lib.hid (dRows_len cs cs.length)
  have hLl := Lib.hid (hL_len cs)
  have hNl := Lib.hid (noneL_len cs.length)
  have hRd := Lib.hid fun (L B L' B' : Nat) (At A' : Option Addr) (ct c' : Nat) (xs : List Int) (j : Nat) (now : Int) (W : World) (hln : xs.length = cs.length) (hbd : ∀ x ∈ xs, -1 ≤ x ∧ x ≤ 1000) (hj : j < cs.length) (hxt : XS W L B At (dRows cs cs.length)) (hB1 : B ≤ W.heap.size) (hns : IS W L' B' A' xs) (hB' : B' ≤ W.heap.size) => orReady_any L B L' B' At A' ct c' cs xs j now W h20 hln hbd hj hxt hB1 hns hB'
  have hO0 := Lib.hid (OutSt.start cs wide)
  have hOd := Lib.hid fun (xs : List Int) (now : Nat) (h : OutSt cs wide xs now) (hh : hasI xs (-1) = false) => h.done hh
  have hOb := Lib.hid fun (xs : List Int) (now : Nat) (h : OutSt cs wide xs now) (hh : hasI xs (-1) = true) => h.begin h20 hh
  have hOf := Lib.hid fun (xs : List Int) (now : Nat) (h : OutSt cs wide xs now) => h.facts
  have hIf := Lib.hid fun (xs : List Int) (now : Nat) (h : InSt cs wide xs now 0) => h.full hwd.1
  have hIs := Lib.hid fun (xs : List Int) (now r : Nat) (h : InSt cs wide xs now (r + 1)) (hc : (lsCh cs (hL cs) xs now).2 = true) => h.step hc
  have hIn := Lib.hid fun (xs : List Int) (now r : Nat) (h : InSt cs wide xs now (r + 1)) (hc : (lsCh cs (hL cs) xs now).2 = false) => h.none hc
  have hIx := Lib.hid fun (xs : List Int) (now r : Nat) (h : InSt cs wide xs now r) => h.facts
  have hCe : Hid (∀ xs (now : Int), lsCh cs (hL cs) xs now = chF (fun i => rdyB cs xs i now) (hL cs) cs.length) := fun _ _ => rfl
  have hw3 : (wide : Int) ≤ 3 := by omega
  clear hes hgood hB hwd
  generalize OutSt cs wide = OS at *
  generalize InSt cs wide = NS at *
  generalize lsR cs wide = R at *
  generalize hL cs = HL at *
  generalize dRows cs cs.length = TT at *
  have b0 := Lib.hid (Below.refl w.heap.size w)
  go_enter Try.func82, Try.ntmps82
  go_wp2_with (fail)
  refine (H1.out _ b0.out).mono ?_
  rintro e wd ⟨At, ct, rfl, hox, hbd⟩
  have bd := Lib.hid hbd
  have xd := Lib.hid (OX.rs hox)
  clear hox hbd
  go_wp2_with (fail)
  refine (H2.out _ bd.out).mono ?_
  rintro e wc ⟨Ah, ch, rfl, how, hbh⟩
  have hIH := Lib.hid ((OW.rs how).lowI bd.out.size)
  have hXT := Lib.hid ((xd.out.below hbh (Nat.le_refl _)).moreX hbh.size)
  have hB1 := Lib.hid (bd.out.trans (hbh.mono bd.out.size))
  clear how hbh H1 H2 b0 xd bd
  rw [hRl.out, hLl.out]
  go_wp2_with (fail)
  refine (H3.out _).mono ?_
  rintro e w3 ⟨Ax, cx, rfl, how, hb3⟩
  rw [hNl.out] at how ⊢
  have hO := Lib.hid how
  have hB3 := Lib.hid hb3
  clear how hb3 H3
  go_wp2
  go_loopw [8] (fun q wr => ∃ (now : Nat) (xs : List Int), q = .int .i64 now ∧ OS xs now ∧ OW wr wc.heap.size wr.heap.size (.slice Ax cs.length cx) xs ∧ Below wc.heap.size wc wr) (fun q _ => 90 - (intOf q).toNat)
  case atStart => exact ⟨0, _, rfl, hO0.out, hO.out, hB3.out⟩
  case round =>
    clear hO hB3
    obtain ⟨now, xs, rfl, hos, how, hbel⟩ := hrel
    have hOS := Lib.hid hos
    have hO := Lib.hid how
    have hBL := Lib.hid hbel
    clear hos how hbel
    obtain ⟨hxl, hn77, hxb⟩ := hOf.out xs now hOS.out
    have hHas := Lib.hid (l1Has_eq wc.heap.size wr.heap.size Ax cs.length cx xs (-1) wr hxl.symm (by omega) (OW.rs hO.out))
    have hXL := Lib.hid hxl
    have hXB := Lib.hid hxb
    clear hxl hxb
    have hw9 : IntKind.i64.wrap ((now : Int) + 1) = (now : Int) + 1 := IntWalk.i64_in _ (by omega)
    cases hh : hasI xs (-1)
    · have hfin := Lib.hid (hOd.out xs now hOS.out hh)
      rw [hh] at hHas
      clear hh
      go_wp2_with (fail)
      refine hHas.out.mono ?_
      rintro e w4 ⟨rfl, rfl⟩
      go_wp2
      go_ret
      have hRl2 : R.length = cs.length := by rw [← hfin.out]; exact hXL.out
      exact ⟨Ax, cx, by rw [hRl2]; rfl, by rw [hRl2, ← hfin.out]; exact hO.out.lower hB1.out.size, hB1.out.trans (hBL.out.mono hB1.out.size)⟩
    · have hBg := Lib.hid (hOb.out xs now hOS.out hh)
      rw [hh] at hHas
      clear hh
      go_wp2_with (fail)
      refine hHas.out.mono ?_
      rintro e w4 ⟨rfl, rfl⟩
      go_wp2
      go_loopw [9] (fun q wq => ∃ (r : Nat) (ys : List Int), q = .int .i64 r ∧ NS ys now r ∧ OW wq wc.heap.size wq.heap.size (.slice Ax cs.length cx) ys ∧ Below wc.heap.size wc wq) (fun q _ => (intOf q).toNat)
      case atStart => exact ⟨wide, xs, rfl, hBg.out, hO.out, hBL.out⟩
      case round =>
        clear hBg hO hBL hOS hXL hn77 hXB hHas
        obtain ⟨r, ys, rfl, hns, how, hbel⟩ := hrel
        have hNS := Lib.hid hns
        have hO := Lib.hid how
        have hBL := Lib.hid hbel
        clear hns how hbel
        obtain ⟨hyl, hn76, hyb, hcn⟩ := hIx.out ys now r hNS.out
        have hr3 : r ≤ 3 := by omega
        have hYL := Lib.hid hyl
        have hYB := Lib.hid hyb
        clear hyl hyb hcn
        rcases Nat.eq_zero_or_pos r with rfl | hpos
        · have hE := Lib.hid (hIf.out ys now hNS.out)
          go_wp2
          go_roundw
          case rel => exact ⟨now + 1, ys, by go_num, hE.out, hO.out, hBL.out⟩
          case measure => simp [intOf]; omega
        · obtain ⟨p, rfl⟩ : ∃ p, r = p + 1 := ⟨r - 1, by omega⟩
          have hrp : (0 : Int) < ((p + 1 : Nat) : Int) := by omega
          have hw8 : IntKind.i64.wrap (((p + 1 : Nat) : Int) - 1) = (p : Int) := by rw [IntWalk.i64_in _ (by omega)]; omega
          have hSt := Lib.hid (hIs.out ys now p hNS.out)
          have hNo := Lib.hid (hIn.out ys now p hNS.out)
          rw [hCe.out] at hSt hNo
          have hNn := Lib.hid fun (m : Nat) (h : (fun i => rdyB cs ys i now) m = false) => chF_no (may := fun i => rdyB cs ys i now) (hs := HL) h
          have hFs := Lib.hid fun (m : Nat) (h : (fun i => rdyB cs ys i now) m = true) (h2 : (chF (fun i => rdyB cs ys i now) HL m).2 = false) => chF_first (may := fun i => rdyB cs ys i now) h h2
          have hMo := Lib.hid fun (m : Nat) (h : (fun i => rdyB cs ys i now) m = true) (h2 : (chF (fun i => rdyB cs ys i now) HL m).2 = true) (b : Bool) (h3 : decide (HL.getD (chF (fun i => rdyB cs ys i now) HL m).1 0 < HL.getD m 0) = b) => chF_more (may := fun i => rdyB cs ys i now) h h2 b h3
          have hLt := Lib.hid fun (m : Nat) (h : (chF (fun i => rdyB cs ys i now) HL m).2 = true) => (chF_lt (may := fun i => rdyB cs ys i now) m h).1
          have hC0 : Hid (chF (fun i => rdyB cs ys i now) HL 0 = (0, false)) := rfl
          clear hNS
          generalize chF (fun i => rdyB cs ys i now) HL = C at *
          go_wp2
          go_loopw [10, 31] (fun u q wz => ∃ j : Nat, j ≤ cs.length ∧ q = .int .i64 j ∧ u = .int .i64 (bsV (C j)) ∧ Below wr.heap.size wr wz) (fun _ q _ => cs.length - (intOf q).toNat)
          case atStart => exact ⟨0, Nat.zero_le _, rfl, by rw [hC0.out]; rfl, Below.refl _ _⟩
          case round =>
            obtain ⟨j, hj, rfl, rfl, hbz'⟩ := hrel
            have hbz := Lib.hid hbz'
            clear hbz'
            by_cases hjn : j < cs.length
            · have hji : (j : Int) < (cs.length : Int) := by omega
              have hj0 : (0 : Int) ≤ (j : Int) := by omega
              have hbw := Lib.hid (hBL.out.trans (hbz.out.mono hBL.out.size))
              obtain ⟨gh, oh, rfl, ⟨_, hbB⟩, hhc⟩ := (hIH.out.below hbw.out (Nat.le_refl _)) (by rw [hLl.out]; omega)
              have y0 := hhc j (by rw [hLl.out]; exact hjn)
              have y2 := Lib.hid hhc
              have hgd := Lib.hid fun (q : Nat) (hq : q < HL.length) => (show HL.getD q 0 = HL[q] from by rw [List.getD_eq_getElem?_getD, List.getElem?_eq_getElem hq]; rfl)
              have hRdy := Lib.hid (hRd.out w.heap.size wc.heap.size wc.heap.size _ At Ax ct cx ys j now wr hYL.out (fun x hx => by have := hYB.out x hx; omega) hjn (hXT.out.below hbw.out (Nat.le_refl _)) hbw.out.size ((OW.rs hO.out).below hbz.out (Nat.le_refl _)) hbz.out.size)
              have hN1 := Lib.hid (hNn.out j)
              have hF1 := Lib.hid (hFs.out j)
              have hM1 := Lib.hid (hMo.out j)
              have hL1 := Lib.hid (hLt.out j)
              clear hhc
              try dsimp only at hN1 hF1 hM1
              generalize rdyB cs ys j now = rd at *
              generalize hCC : C (j + 1) = C1 at *
              have hC1 := Lib.hid hCC
              clear hCC
              generalize C j = cj at *
              obtain ⟨bi, bf⟩ := cj
              try dsimp only at hF1 hM1 hL1
              cases rd
              · have hX := Lib.hid (hN1.out rfl)
                clear hN1 hF1 hM1 hL1 y2
                generalize hbv : bsV (bi, bf) = bv at *
                have hBV := Lib.hid hbv
                clear hbv
                go_wp2_with (fail)
                refine hRdy.out.mono ?_
                rintro e w5 ⟨rfl, hb5⟩
                all_goals
                  have hb6 := Lib.hid (hbz.out.trans (hb5.mono hbz.out.size))
                  clear hb5
                  go_wp2
                  go_roundw
                  case rel => exact ⟨j + 1, hjn, by go_num, by rw [hC1.out, hX.out, hBV.out], hb6.out⟩
                  case measure => simp [intOf]; omega
              · cases bf
                · have hX := Lib.hid (hF1.out rfl rfl)
                  have hbs : bsV (bi, false) = -1 := rfl
                  rw [hbs]
                  clear hN1 hF1 hM1 hL1 y2 hbs
                  go_wp2_with (fail)
                  refine hRdy.out.mono ?_
                  rintro e w5 ⟨rfl, hb5⟩
                  all_goals
                    have hb6 := Lib.hid (hbz.out.trans (hb5.mono hbz.out.size))
                    clear hb5
                    go_wp2
                    go_roundw
                    case rel => exact ⟨j + 1, hjn, by go_num, by rw [hC1.out, hX.out]; rfl, hb6.out⟩
                    case measure => simp [intOf]; omega
                · have hbl := hL1.out rfl
                  have y1 := y2.out bi (by rw [hLl.out]; omega)
                  have hM2 := hM1.out rfl rfl
                  rw [hgd.out bi (by rw [hLl.out]; omega), hgd.out j (by rw [hLl.out]; omega)] at hM2
                  have hM3 := Lib.hid hM2
                  have hbs : bsV (bi, true) = (bi : Int) := rfl
                  rw [hbs]
                  have hbi0 : decide ((bi : Int) < 0) = false := decide_eq_false (by omega)
                  have hbi1 : (bi : Int) < (cs.length : Int) := by omega
                  have hbi2 : (0 : Int) ≤ (bi : Int) := by omega
                  have hjl : j < HL.length := by rw [hLl.out]; exact hjn
                  have hbl9 : bi < HL.length := by rw [hLl.out]; omega
                  clear hN1 hF1 hM1 hM2 hL1 y2 hbs hgd
                  generalize HL[j] = hv at *
                  generalize HL[bi] = hu at *
                  by_cases hlt : hu < hv
                  · have hX := Lib.hid (hM3.out true (decide_eq_true hlt))
                    rw [if_pos rfl] at hX
                    clear hM3
                    go_wp2_with (fail)
                    refine hRdy.out.mono ?_
                    rintro e w5 ⟨rfl, hb5⟩
                    have y5 := (hb5.cell (p := ⟨gh, oh + bi, none⟩) (show gh < wr.heap.size by have := hbw.out.size; omega)).trans y1
                    all_goals
                      have hb6 := Lib.hid (hbz.out.trans (hb5.mono hbz.out.size))
                      clear hb5 y1 y0
                      go_wp2
                      go_roundw
                      case rel => exact ⟨j + 1, hjn, by go_num, by rw [hC1.out, hX.out]; rfl, hb6.out⟩
                      case measure => simp [intOf]; omega
                  · have hX := Lib.hid (hM3.out false (decide_eq_false hlt))
                    rw [if_neg Bool.false_ne_true] at hX
                    clear hM3
                    go_wp2_with (fail)
                    refine hRdy.out.mono ?_
                    rintro e w5 ⟨rfl, hb5⟩
                    have y5 := (hb5.cell (p := ⟨gh, oh + bi, none⟩) (show gh < wr.heap.size by have := hbw.out.size; omega)).trans y1
                    all_goals
                      have hb6 := Lib.hid (hbz.out.trans (hb5.mono hbz.out.size))
                      clear hb5 y1 y0
                      go_wp2
                      go_roundw
                      case rel => exact ⟨j + 1, hjn, by go_num, by rw [hC1.out, hX.out]; rfl, hb6.out⟩
                      case measure => simp [intOf]; omega
            · obtain rfl : j = cs.length := by omega
              have hL1 := Lib.hid (hLt.out cs.length)
              generalize C cs.length = cj at *
              obtain ⟨bi, bf⟩ := cj
              try dsimp only at hSt hNo hL1
              have hO5 := Lib.hid ((hO.out.below hbz.out (Nat.le_refl _)).more hbz.out.size)
              have hb5 := Lib.hid (hBL.out.trans (hbz.out.mono hBL.out.size))
              cases bf
              · have hE := Lib.hid (hNo.out rfl)
                have hbs : bsV (bi, false) = -1 := rfl
                rw [hbs]
                clear hbs hNo hSt hL1
                go_wp2
                go_roundw
                case rel => exact ⟨now + 1, ys, by go_num, hE.out, hO5.out, hb5.out⟩
                case measure => simp [intOf]; omega
              · have hE := Lib.hid (hSt.out rfl)
                have hbl := hL1.out rfl
                obtain ⟨g, rfl, hg⟩ := OW.someB hO5.out (show 0 < cs.length by omega)
                obtain ⟨_, fz⟩ := OW.at9 hO5.out bi (by rw [hYL.out]; exact hbl)
                obtain ⟨oz, _⟩ := OW.at9 hO5.out bi (by rw [hYL.out]; exact hbl)
                have hP := hO5.out.put9 bi (now : Int)
                have hzs : (wr.setCell ⟨g, bi, none⟩ (.int .i64 now)).heap.size = wr.heap.size := World.size_setCell _ _ _
                have hP2 := Lib.hid (show OW (wr.setCell ⟨g, bi, none⟩ (.int .i64 now)) wc.heap.size (wr.setCell ⟨g, bi, none⟩ (.int .i64 now)).heap.size (.slice (some ⟨g, 0, none⟩) cs.length cx) (ys.set bi now) from by rw [hzs]; exact hP)
                have hb6 := Lib.hid (hb5.out.setCell (p := ⟨g, bi, none⟩) hg (.int .i64 now))
                have hbs : bsV (bi, true) = (bi : Int) := rfl
                rw [hbs]
                have hbi0 : decide ((bi : Int) < 0) = false := decide_eq_false (by omega)
                have hbi1 : (bi : Int) < (cs.length : Int) := by omega
                have hbi2 : (0 : Int) ≤ (bi : Int) := by omega
                clear hbs hNo hSt hL1 hP hzs
                go_wp2
                go_roundw
                case rel => exact ⟨p, _, by go_num, hE.out, hP2.out, hb6.out⟩
                case measure => simp [intOf] <;> omega
end Go.Proofs.Ytaaloepoegehkaa

/- Chapter 9: OrderOfSchedule of the model. -/
namespace Go.Proofs.Ytaaloepoegehkaa
open Go.RowKit
set_option linter.unusedVariables false
set_option maxRecDepth 100000

def oosR (cs : List In) (xs : List Int) : List Int := if cyB cs xs = true then osL xs xs.length else []
theorem oosR_yes {cs : List In} {xs : List Int} (h : cyB cs xs = true) : oosR cs xs = osL xs xs.length := by unfold oosR; rw [if_pos h]
theorem oosR_no {cs : List In} {xs : List Int} (h : cyB cs xs = false) : oosR cs xs = [] := by unfold oosR; rw [h]; rfl
theorem oosR_len (cs : List In) (xs : List Int) : (oosR cs xs).length ≤ 1048576 := by
  cases h : cyB cs xs
  · rw [oosR_no h]; simp
  · rw [oosR_yes h, osL_len]
    obtain ⟨h1, h2, _⟩ := cyB_parts h
    have := (orGood_parts h1).1; omega
theorem IS.takeH {w : World} {L B : Nat} {A : Option Addr} {xs : List Int} (h : IS w L B A xs) (k : Nat) : IS w L B A (xs.take k) := fun h0 => by
  rw [List.length_take] at h0
  obtain ⟨b, o, e, hb, hc⟩ := h (by omega)
  refine ⟨b, o, e, hb, fun i hi => ?_⟩
  rw [List.length_take] at hi
  rw [List.getElem_take]
  exact hc i (by omega)
theorem insO_at2 {xs out : List Int} {i k : Nat} (hk : k ≤ out.length) (h1 : ∀ q (h : q < out.length), q < k → leO xs i out[q] = true) (h2 : k = out.length ∨ ∃ h : k < out.length, leO xs i out[k] = false) : insO xs out i = out.take k ++ (i : Int) :: out.drop k :=
  insO_at hk h1 fun h => by rcases h2 with e | ⟨_, e⟩; · omega
                            · exact e

set_option maxHeartbeats 8000000 in
theorem sOrderOfSchedule_go (L B : Nat) (A : Option Addr) (c : Nat) (cs : List In) (L' B' : Nat) (A' : Option Addr) (c' : Nat) (xs : List Int) (w : World) (hg : cyB cs xs = true) (hl : cs.length ≤ 1048576) (hes : RS In.enc 5 w L B A cs) (hB : B ≤ w.heap.size) (hn : xs.length ≤ 1048576) (hns : IS w L' B' A' xs) (hB' : B' ≤ w.heap.size) :
    Calls Try.prog 31 #[.slice A cs.length c, .slice A' xs.length c'] w (ResOrderOfSchedule (oosR cs xs) (cyB cs xs) w) := by
  obtain ⟨i0, hi', hz0, hz1, hz2⟩ := info_parts Try.infoInt
  have hI0 := Lib.hid hi'
  have hI1 := Lib.hid hz0
  have hI2 := Lib.hid hz1
  have hI3 := Lib.hid hz2
  clear hi' hz0 hz1 hz2
  have H := Lib.hid (orCycles_any L B A c cs L' B' A' c' xs w hl hes hB hn hns hB')
  have hR := Lib.hid (oosR_yes hg)
  have h20 : xs.length ≤ 20 := by
    obtain ⟨h1, h2, _⟩ := cyB_parts hg
    have := (orGood_parts h1).1; omega
  have hXS := Lib.hid fun (W : World) (hW : Below w.heap.size w W) => hns.below hW hB'
  have hOwn := Lib.hid fun (L B : Nat) (A : Option Addr) (m c : Nat) (ys : List Int) (W : World) (hm : m = ys.length) (hl : ys.length ≤ 20) (hx : IS W L B A ys) (hB : B ≤ W.heap.size) => (by subst hm; exact l1Own_any L B A c ys W (by omega) hx hB : Calls Try.prog 88 #[.slice A m c] W (FreshI W ys))
  have hLn := Lib.hid fun (k : Nat) => osL_len xs k
  have hMm := Lib.hid fun (k : Nat) => osL_mem xs k
  have hSt := Lib.hid fun (i k : Nat) (hk : k ≤ (osL xs i).length) (h1 : ∀ q (h : q < (osL xs i).length), q < k → leO xs i (osL xs i)[q] = true) (h2 : k = (osL xs i).length ∨ ∃ h : k < (osL xs i).length, leO xs i (osL xs i)[k] = false) => (show osL xs (i + 1) = (osL xs i).take k ++ (i : Int) :: (osL xs i).drop k from insO_at2 hk h1 h2)
  have hLe : Hid (∀ i q, leO xs i q = decide (xs.getD q.toNat 0 ≤ xs.getD i 0)) := fun i q => by unfold leO kyO; simp
  have hGd := Lib.hid fun (q : Nat) (hq : q < xs.length) => (show xs.getD q 0 = xs[q] from by rw [List.getD_eq_getElem?_getD, List.getElem?_eq_getElem hq]; rfl)
  have h00 : Hid (osL xs 0 = []) := rfl
  rw [hg] at H ⊢
  clear hes hns hg
  generalize oosR cs xs = R at *
  generalize leO xs = LE at *
  generalize osL xs = OS at *
  go_enter Try.func31, Try.ntmps31
  go_wp2_with (fail)
  refine H.out.mono ?_
  rintro e w1 ⟨rfl, hb1⟩
  have hB1 := Lib.hid hb1
  clear hb1 H
  go_wp2
  go_loopw [6, 17] (fun v q wr => ∃ k : Nat, k ≤ xs.length ∧ q = .int .i64 k ∧ OW wr w1.heap.size wr.heap.size v (OS k) ∧ Below w1.heap.size w1 wr ∧ (k = 0 → v = .slice none 0 0)) (fun _ q _ => xs.length - (intOf q).toNat)
  case atStart => exact ⟨0, Nat.zero_le _, rfl, by rw [h00.out]; exact OW.nil _ _ _, Below.refl _ _, fun _ => rfl⟩
  case round =>
    obtain ⟨k, hk, rfl, how, hbel, hz⟩ := hrel
    have hO := Lib.hid how
    have hBL := Lib.hid hbel
    clear how hbel
    have hzw := hBL.out.size
    by_cases hlt : k < xs.length
    · have hki : (k : Int) < (xs.length : Int) := by omega
      have hk0 : (0 : Int) ≤ (k : Int) := by omega
      have hbW := Lib.hid (hB1.out.trans (hBL.out.mono hB1.out.size))
      obtain ⟨b, o, rfl, hbb, hc⟩ := (hXS.out wr hbW.out) (by omega)
      have ck := hc k hlt
      rcases Nat.eq_zero_or_pos k with rfl | hkp
      · obtain rfl := hz rfl
        clear hz hc
        have hE := Lib.hid (hSt.out 0 0 (Nat.zero_le _) (fun q h hq => by omega) (.inl (by rw [hLn.out])))
        rw [h00.out] at hE
        have hO1 := Lib.hid (hOwn.out 0 0 none 0 0 [] wr rfl (by simp) (fun h => absurd h (by simp)) (Nat.zero_le _))
        generalize xs[0] = y at *
        rw [Nat.add_zero] at ck
        go_wp2
        go_loop [9] (fun q => q = .int .i64 0) (fun _ => 0)
        case atStart => rfl
        case round =>
          subst hrel
          go_wp2_with (fail)
          refine hO1.out.mono ?_
          rintro e w2 ⟨A2, c2, rfl, how2, hb2⟩
          have hown0 := Lib.hid how2.1
          have hB2 := Lib.hid hb2
          have hb2s := hb2.size
          clear how2 hb2
          go_wp2_with (first
            | (at_builtin; refine wpList_append_own _ rfl (.tmp 42) (.tmp 44) 34 rfl wr.heap.size 3 i0 (.int .i64 0) 1 8 Try.underlying34 hI0.out hI1.out hI2.out hI3.out rfl (by decide) _ 0 _ rfl (hown0.out.alloc _) ⟨w2.heap.size, 0, none⟩ 1 1 [.int .i64 0] rfl rfl (new1 rfl) (one1 _) (by unfold maxLen; omega) (by omega) (by simp; omega) ?_; intro v4 w4 hown4 hgr4 _; have hb4 := Lib.hid ((hB2.out.alloc hb2s _).grown hgr4 (by simp; omega) (fun j hj => (hown0.out.lt j hj).1)); have hb4s := hb4.out.size)
            | (at_builtin; refine wpList_append_src rfl (.tmp 46) (.tmp 49) 34 rfl wr.heap.size 3 i0 (.int .i64 0) 1 8 Try.underlying34 hI0.out hI1.out hI2.out hI3.out rfl (by decide) v4 (0 + 1) _ rfl hown4 none 0 _ [] rfl (by simp) (fun h => absurd h (by omega)) (by simp) (by unfold maxLen; omega) (by omega) (by omega) ?_; intro v5 w5 hown5 hgr5 _; have hb5 := Lib.hid (hb4.out.grown hgr5 hb4s (fun j hj => (hown4.lt j hj).1))))
          have hrow : Hid (OW w5 wr.heap.size w5.heap.size v5 (OS 1)) := by
            rw [hE.out]; exact OW.ofRow (by simpa using hown5) rfl
          have hrow2 := Lib.hid (hrow.out.lower hzw)
          have hb6 := Lib.hid (hBL.out.trans (hb5.out.mono hzw))
          clear hown5 hgr5 hown4 hgr4
          go_wp2
          go_roundw
          case rel => exact ⟨1, by omega, by go_num, hrow2.out, hb6.out, fun h => by omega⟩
          case measure => simp [intOf]; omega
      · clear hz
        obtain ⟨V, cv, rfl, _⟩ := hO.out.form
        rw [hLn.out] at hO ⊢
        obtain ⟨g, rfl, hgl⟩ := OW.someB hO.out hkp
        have hcap : k ≤ cv ∧ cv ≤ maxLen := by
          rcases hO.out.1.2 with ⟨h0, _⟩ | ⟨g', cap, cur, e, _, _, h1, h2, _⟩
          · cases h0
          · injection e with _ _ e3; have := hLn.out k; omega
        obtain ⟨hc1, hc2⟩ := hcap
        unfold maxLen at hc2
        have hgw : g < wr.heap.size := (hO.out.1.lt g rfl).2
        have hLk := Lib.hid (hLn.out k)
        have hC2 := Lib.hid hc
        have hMk := Lib.hid (hMm.out k)
        have hStk := Lib.hid (hSt.out k)
        have hLek := Lib.hid (hLe.out k)
        rw [hGd.out k hlt] at hLek
        clear hc
        generalize xs[k] = y at *
        go_wp2
        go_loop [9] (fun q => ∃ j : Nat, j ≤ k ∧ q = .int .i64 j ∧ ∀ q (h : q < (OS k).length), q < j → LE k (OS k)[q] = true) (fun q => k - (intOf q).toNat)
        case atStart => exact ⟨0, Nat.zero_le _, rfl, fun q h hq => by omega⟩
        case round =>
          obtain ⟨j, hj, rfl, hal⟩ := hrel
          have hAl := Lib.hid hal
          clear hal
          have hj0 : (0 : Int) ≤ (j : Int) := by omega
          have hji : (j : Int) ≤ (k : Int) := by omega
          have hjc : (j : Int) ≤ (cv : Int) := by omega
          by_cases hex : ∃ h : j < (OS k).length, LE k (OS k)[j] = true
          · obtain ⟨hjl, hle⟩ := hex
            have hjk : j < k := by rw [hLk.out] at hjl; exact hjl
            have hjk' : (j : Int) < (k : Int) := by omega
            have oj := hO.out.at6 j hjl
            rw [List.getD_eq_getElem?_getD, List.getElem?_eq_getElem hjl, Option.getD_some] at oj
            have hv := hMk.out _ (List.getElem_mem hjl)
            have hN : Hid (∀ q (h : q < (OS k).length), q < j + 1 → LE k (OS k)[q] = true) := fun q h hq => by
              rcases Nat.lt_or_ge q j with h1 | h1
              · exact hAl.out q h h1
              · obtain rfl : q = j := by omega
                exact hle
            rw [hLek.out] at hle
            generalize (OS k)[j] = v at *
            obtain ⟨vn, rfl⟩ := Int.eq_ofNat_of_zero_le hv.1
            have hvn : vn < xs.length := by omega
            have hvi : (vn : Int) < (xs.length : Int) := by omega
            have hv0 : (0 : Int) ≤ (vn : Int) := by omega
            have cj := hC2.out vn hvn
            rw [Int.toNat_natCast, hGd.out vn hvn, decide_eq_true_iff] at hle
            generalize xs[vn] = z at *
            go_wp2
            go_round
            case rel => exact ⟨j + 1, by omega, by go_num, hN.out⟩
            case measure => simp [intOf]; omega
          · have hEnd : Hid (j = (OS k).length ∨ ∃ h : j < (OS k).length, LE k (OS k)[j] = false) := by
              rcases Nat.lt_or_ge j (OS k).length with h1 | h1
              · refine .inr ⟨h1, ?_⟩
                cases h2 : LE k (OS k)[j]
                · rfl
                · exact absurd ⟨h1, h2⟩ hex
              · have := hLk.out; exact .inl (by omega)
            have hE := Lib.hid (hStk.out j (by rw [hLk.out]; exact hj) hAl.out hEnd.out)
            have hO1 := Lib.hid (hOwn.out w1.heap.size wr.heap.size (some ⟨g, 0, none⟩) j cv ((OS k).take j) wr (by rw [List.length_take, hLk.out]; omega) (by rw [List.length_take]; omega) (IS.takeH (OW.rs hO.out) j) (Nat.le_refl _))
            have hTl : Hid (((OS k).take j).length = j) := by unfold Hid; rw [List.length_take, hLk.out]; omega
            have hnews : Hid (∀ W : World, Below wr.heap.size wr W → ∀ q u, (((OS k).drop j).map (Value.int .i64))[q]? = some u → W.cell? ((⟨g, j, none⟩ : Addr).add q) = some u) := fun W hW => OW.dropNews (hO.out.below hW (Nat.le_refl _)) j
            have hdl : Hid ((((OS k).drop j).map (Value.int .i64)).length = (k - j) * 1) := by unfold Hid; rw [List.length_map, List.length_drop, hLk.out, Nat.mul_one]
            have hcase : (j < k ∧ ∃ z : Int, ∃ vn : Nat, wr.cell? ⟨g, j, none⟩ = some (.int .i64 vn) ∧ (vn : Int) < (xs.length : Int) ∧ (0 : Int) ≤ (vn : Int) ∧ wr.cell? ⟨b, o + vn, none⟩ = some (.int .i64 z) ∧ y < z) ∨ (j = k ∧ j < cv) ∨ (j = k ∧ j = cv) := by
              rcases Nat.lt_or_ge j k with h1 | h1
              · refine .inl ⟨h1, ?_⟩
                rcases hEnd.out with h2 | ⟨hjl, hle⟩
                · rw [hLk.out] at h2; omega
                · have oj := hO.out.at6 j hjl
                  rw [List.getD_eq_getElem?_getD, List.getElem?_eq_getElem hjl, Option.getD_some] at oj
                  have hv := hMk.out _ (List.getElem_mem hjl)
                  rw [hLek.out] at hle
                  generalize (OS k)[j] = v at *
                  obtain ⟨vn, rfl⟩ := Int.eq_ofNat_of_zero_le hv.1
                  have hvn : vn < xs.length := by omega
                  rw [Int.toNat_natCast, hGd.out vn hvn, decide_eq_false_iff_not] at hle
                  exact ⟨xs[vn], vn, oj, by omega, by omega, hC2.out vn hvn, by omega⟩
              · rcases Nat.lt_or_ge j cv with h2 | h2
                · exact .inr (.inl ⟨by omega, h2⟩)
                · exact .inr (.inr ⟨by omega, by omega⟩)
            clear hex hEnd
            rcases hcase with ⟨hjk, z, vn, oj, hvi, hv0, cj, hyz⟩ | ⟨hjk, hjc2⟩ | ⟨hjk, hjc2⟩
            · have hjk' : (j : Int) < (k : Int) := by omega
              have hjc' : (j : Int) < (cv : Int) := by omega
              go_wp2_with (fail)
              refine hO1.out.mono ?_
              rintro e w2 ⟨A2, c2, rfl, how2, hb2⟩
              have hown9 := how2.1
              rw [hTl.out] at hown9 ⊢
              have hown0 := Lib.hid hown9
              clear hown9
              have hB2 := Lib.hid hb2
              have hb2s := hb2.size
              clear how2 hb2
              go_wp2_with (first
                | (at_builtin; refine wpList_append_own _ rfl (.tmp 42) (.tmp 44) 34 rfl wr.heap.size 3 i0 (.int .i64 0) 1 8 Try.underlying34 hI0.out hI1.out hI2.out hI3.out rfl (by decide) _ j _ rfl (hown0.out.alloc _) ⟨w2.heap.size, 0, none⟩ 1 1 [.int .i64 k] rfl rfl (new1 rfl) (one1 _) (by unfold maxLen; omega) (by omega) (by simp; omega) ?_; intro v4 w4 hown4 hgr4 _; have hb4 := Lib.hid ((hB2.out.alloc hb2s _).grown hgr4 (by simp; omega) (fun j hj => (hown0.out.lt j hj).1)); have hb4s := hb4.out.size)
                | (at_builtin; refine wpList_append_src rfl (.tmp 46) (.tmp 49) 34 rfl wr.heap.size 3 i0 (.int .i64 0) 1 8 Try.underlying34 hI0.out hI1.out hI2.out hI3.out rfl (by decide) v4 (j + 1) _ rfl hown4 _ (k - j) _ (((OS k).drop j).map (Value.int .i64)) rfl hdl.out (fun _ => ⟨_, rfl, hnews.out w4 hb4.out⟩) (oneI _) (by unfold maxLen; omega) (by omega) (by omega) ?_; intro v5 w5 hown5 hgr5 _; have hb5 := Lib.hid (hb4.out.grown hgr5 hb4s (fun j hj => (hown4.lt j hj).1))))
              have hrow : Hid (OW w5 wr.heap.size w5.heap.size v5 (OS (k + 1))) := by
                rw [hE.out]; exact OW.ofRow (n := j + 1 + (k - j)) (by rw [List.map_append, List.map_cons]; simpa using hown5) (by rw [List.length_append, List.length_cons, hTl.out, List.length_drop, hLk.out]; omega)
              have hrow2 := Lib.hid (hrow.out.lower hzw)
              have hb6 := Lib.hid (hBL.out.trans (hb5.out.mono hzw))
              clear hown5 hgr5 hown4 hgr4
              go_wp2
              go_roundw
              case rel => exact ⟨k + 1, by omega, by go_num, hrow2.out, hb6.out, fun h => by omega⟩
              case measure => simp [intOf]; omega
            · have hjk' : ¬ (j : Int) < (k : Int) := by omega
              have hjk2 : (k : Int) ≤ (j : Int) := by omega
              have hjc' : (j : Int) < (cv : Int) := by omega
              have hjk9 := Lib.hid hjk
              clear hjk
              go_wp2_with (fail)
              refine hO1.out.mono ?_
              rintro e w2 ⟨A2, c2, rfl, how2, hb2⟩
              have hown9 := how2.1
              rw [hTl.out] at hown9 ⊢
              have hown0 := Lib.hid hown9
              clear hown9
              have hB2 := Lib.hid hb2
              have hb2s := hb2.size
              clear how2 hb2
              go_wp2_with (first
                | (at_builtin; refine wpList_append_own _ rfl (.tmp 42) (.tmp 44) 34 rfl wr.heap.size 3 i0 (.int .i64 0) 1 8 Try.underlying34 hI0.out hI1.out hI2.out hI3.out rfl (by decide) _ j _ rfl (hown0.out.alloc _) ⟨w2.heap.size, 0, none⟩ 1 1 [.int .i64 k] rfl rfl (new1 rfl) (one1 _) (by unfold maxLen; omega) (by omega) (by simp; omega) ?_; intro v4 w4 hown4 hgr4 _; have hb4 := Lib.hid ((hB2.out.alloc hb2s _).grown hgr4 (by simp; omega) (fun j hj => (hown0.out.lt j hj).1)); have hb4s := hb4.out.size)
                | (at_builtin; refine wpList_append_src rfl (.tmp 46) (.tmp 49) 34 rfl wr.heap.size 3 i0 (.int .i64 0) 1 8 Try.underlying34 hI0.out hI1.out hI2.out hI3.out rfl (by decide) v4 (j + 1) _ rfl hown4 _ (k - j) _ (((OS k).drop j).map (Value.int .i64)) rfl hdl.out (fun _ => ⟨_, rfl, hnews.out w4 hb4.out⟩) (oneI _) (by unfold maxLen; omega) (by omega) (by omega) ?_; intro v5 w5 hown5 hgr5 _; have hb5 := Lib.hid (hb4.out.grown hgr5 hb4s (fun j hj => (hown4.lt j hj).1))))
              have hrow : Hid (OW w5 wr.heap.size w5.heap.size v5 (OS (k + 1))) := by
                rw [hE.out]; exact OW.ofRow (n := j + 1 + (k - j)) (by rw [List.map_append, List.map_cons]; simpa using hown5) (by rw [List.length_append, List.length_cons, hTl.out, List.length_drop, hLk.out]; omega)
              have hrow2 := Lib.hid (hrow.out.lower hzw)
              have hb6 := Lib.hid (hBL.out.trans (hb5.out.mono hzw))
              clear hown5 hgr5 hown4 hgr4
              go_wp2
              go_roundw
              case rel => exact ⟨k + 1, by omega, by go_num, hrow2.out, hb6.out, fun h => by omega⟩
              case measure => simp [intOf]; omega
            · have hjk9 := Lib.hid hjk
              clear hjk
              subst hjc2
              have hjk' : ¬ (j : Int) < (k : Int) := by have := hjk9.out; omega
              have hjk2 : (k : Int) ≤ (j : Int) := by have := hjk9.out; omega
              go_wp2_with (fail)
              refine hO1.out.mono ?_
              rintro e w2 ⟨A2, c2, rfl, how2, hb2⟩
              have hown9 := how2.1
              rw [hTl.out] at hown9 ⊢
              have hown0 := Lib.hid hown9
              clear hown9
              have hB2 := Lib.hid hb2
              have hb2s := hb2.size
              clear how2 hb2
              go_wp2_with (first
                | (at_builtin; refine wpList_append_own _ rfl (.tmp 42) (.tmp 44) 34 rfl wr.heap.size 3 i0 (.int .i64 0) 1 8 Try.underlying34 hI0.out hI1.out hI2.out hI3.out rfl (by decide) _ j _ rfl (hown0.out.alloc _) ⟨w2.heap.size, 0, none⟩ 1 1 [.int .i64 k] rfl rfl (new1 rfl) (one1 _) (by unfold maxLen; omega) (by omega) (by simp; omega) ?_; intro v4 w4 hown4 hgr4 _; have hb4 := Lib.hid ((hB2.out.alloc hb2s _).grown hgr4 (by simp; omega) (fun j hj => (hown0.out.lt j hj).1)); have hb4s := hb4.out.size)
                | (at_builtin; refine wpList_append_src rfl (.tmp 46) (.tmp 49) 34 rfl wr.heap.size 3 i0 (.int .i64 0) 1 8 Try.underlying34 hI0.out hI1.out hI2.out hI3.out rfl (by decide) v4 (j + 1) _ rfl hown4 _ _ _ (((OS k).drop j).map (Value.int .i64)) rfl (by first | exact hdl.out | (have h1 := hdl.out; have h2 := hjk9.out; omega)) (fun h => absurd h (by have := hjk9.out; omega)) (oneI _) (by unfold maxLen; omega) (by omega) (by omega) ?_; intro v5 w5 hown5 hgr5 _; have hb5 := Lib.hid (hb4.out.grown hgr5 hb4s (fun j hj => (hown4.lt j hj).1))))
              have hrow : Hid (OW w5 wr.heap.size w5.heap.size v5 (OS (k + 1))) := by
                rw [hE.out]; exact OW.ofRow (n := j + 1) (by rw [List.map_append, List.map_cons]; simpa using hown5) (by have := hjk9.out; rw [List.length_append, List.length_cons, hTl.out, List.length_drop, hLk.out]; omega)
              have hrow2 := Lib.hid (hrow.out.lower hzw)
              have hb6 := Lib.hid (hBL.out.trans (hb5.out.mono hzw))
              clear hown5 hgr5 hown4 hgr4
              go_wp2
              go_roundw
              case rel => exact ⟨k + 1, by omega, by go_num, hrow2.out, hb6.out, fun h => by omega⟩
              case measure => simp [intOf]; omega
    · obtain rfl : k = xs.length := by omega
      obtain ⟨V, cv, rfl, _⟩ := hO.out.form
      rw [hLn.out] at hO ⊢
      have hO2 := Lib.hid (hO.out.lower hB1.out.size)
      have hB2 := Lib.hid (hB1.out.trans (hBL.out.mono hB1.out.size))
      go_wp2
      go_ret2
      rw [hR.out]
      exact ⟨V, cv, by rw [hLn.out]; rfl, by rw [hLn.out]; exact hO2.out, hB2.out⟩
end Go.Proofs.Ytaaloepoegehkaa

/- Chapter 9: OrderOfSchedule, both. -/
namespace Go.Proofs.Ytaaloepoegehkaa
open Go.RowKit
set_option linter.unusedVariables false
set_option maxRecDepth 100000

theorem idxL_R (n : Nat) : idxL n = idxR 0 n := by unfold idxL idxR; rw [List.range_eq_range', Nat.sub_zero]
def FreshB9 (w : World) (xs : List Int) (e : Ending) (w' : World) : Prop := ∃ g, e = .returned (.slice (some ⟨g, 0, none⟩) xs.length xs.length) ∧ w.heap.size ≤ g ∧ IB w' g 3 xs ∧ Below w.heap.size w w'
set_option maxHeartbeats 4000000 in
theorem indicesOf9_any (A : Option Addr) (c : Nat) (n : Nat) (w : World) (hl : n ≤ 1000000) :
    Calls Try.prog 90 #[.slice A n c] w (FreshB9 w (idxL n)) := by
  have hmk := run_make_ints n (by omega)
  have hO0 : Hid (IB (w.alloc (.cells (intCells (zeros n)) 3)) w.heap.size 3 (idxZ n 0)) := by
    rw [Hid, idxZ_zero]
    exact heap_alloc_new w _
  have hb2 := Lib.hid ((Below.refl w.heap.size w).alloc (Nat.le_refl _) (.cells (intCells (zeros n)) 3))
  have hSt := Lib.hid fun (k : Nat) (h : k < n) => idxZ_set h
  have hLn := Lib.hid fun (k : Nat) (h : k ≤ n) => idxZ_len h
  have hEn := Lib.hid (idxZ_end n)
  have hIl := Lib.hid (idxL_len n)
  generalize idxZ n = Z at *
  generalize idxL n = I at *
  go_enter Try.func90, Try.ntmps90
  go_wp2_with (fail)
  clear hmk
  generalize hg : w.heap.size = g at hO0 ⊢
  have hG := Lib.hid hg
  clear hg
  generalize w.alloc (.cells (intCells (zeros n)) 3) = W1 at *
  go_loopw [10] (fun q wr => ∃ k : Nat, k ≤ n ∧ q = .int .i64 k ∧ IB wr g 3 (Z k) ∧ Below w.heap.size w wr) (fun q _ => n - (intOf q).toNat)
  case atStart => exact ⟨0, Nat.zero_le _, rfl, hO0.out, hb2.out⟩
  case round =>
    clear hO0 hb2
    obtain ⟨k, hk, rfl, how, hbel⟩ := hrel
    have hO := Lib.hid how
    have hBL := Lib.hid hbel
    clear how hbel
    by_cases hlt : k < n
    · have hki : (k : Int) < (n : Int) := by omega
      have hk0 : (0 : Int) ≤ (k : Int) := by omega
      have ok := hO.out.cell k (by rw [hLn.out k hk]; exact hlt)
      have fk := hO.out.frozen k
      have hP := hO.out.set k (k : Int)
      rw [hSt.out k hlt] at hP
      have hP2 := Lib.hid hP
      have hBs := Lib.hid (hBL.out.setCell (p := ⟨g, k, none⟩) (by rw [hG.out]; exact Nat.le_refl _) (.int .i64 k))
      clear hP
      generalize (Z k)[k]'(by rw [hLn.out k hk]; exact hlt) = y at *
      go_wp2
      go_roundw
      case rel => exact ⟨k + 1, by omega, by go_num, hP2.out, hBs.out⟩
      case measure => simp [intOf]; omega
    · obtain rfl : k = n := by omega
      have hO9 := hO.out
      rw [hEn.out] at hO9
      have hO8 := Lib.hid hO9
      clear hO9
      go_wp2
      go_ret
      exact ⟨g, by rw [hIl.out]; rfl, by rw [hG.out]; exact Nat.le_refl _, hO8.out, hBL.out⟩
set_option maxHeartbeats 4000000 in
theorem sortStable9_any (g gd cd L B : Nat) (A : Option Addr) (c n : Nat) (xs : List Int) (w : World) (hn : xs.length = n) (h20 : n ≤ 20) (hg : CB 34 w g [.slice A n c]) (hns : IS w L B A xs) (hB : B ≤ w.heap.size) (hd : IB w gd 3 (idxR 0 n)) (hne : g ≠ gd) (hap : gd < L ∨ B ≤ gd) :
    Calls Try.prog 91 #[.slice (some ⟨gd, 0, none⟩) n cd, .func (.func 92) #[] #[.pointer (some ⟨g, 0, none⟩)]] w fun e w' => e = .returned (.tuple #[]) ∧ IB w' gd 3 (osL xs n) ∧ Chg gd (gd + 1) w w' := by
  rcases Nat.eq_zero_or_pos n with rfl | h1
  · have h0 : Hid (IB w gd 3 (osL xs 0)) := by
      have : osL xs 0 = idxR 0 0 := by rw [idxR_end]; rfl
      rw [Hid, this]; exact hd
    have HZ : Hid (Calls Try.prog 156 #[.slice (some ⟨gd, 0, none⟩) 0 cd, .int .i64 0, .func (.func 92) #[] #[.pointer (some ⟨g, 0, none⟩)]] w fun e w' => e = .returned (.tuple #[]) ∧ w = w') := by
      have HZ := Lib.hid (insSort_none (.slice (some ⟨gd, 0, none⟩) 0 cd) (.func (.func 92) #[] #[.pointer (some ⟨g, 0, none⟩)]) 0 w (by omega))
      clear hg hns hd hap h0
      unfold Hid
      go_enter Try.func156, Try.ntmps156
      go_wp2
      go_loopw [7, 8] (fun a b wr => a = .int .i64 0 ∧ b = .int .i64 20 ∧ w = wr) (fun _ _ _ => 0)
      case atStart => exact ⟨rfl, rfl, rfl⟩
      case round =>
        obtain ⟨rfl, rfl, rfl⟩ := hrel
        go_wp2_with (fail)
        refine HZ.out.mono ?_
        rintro e w1 ⟨rfl, rfl⟩
        go_wp2
        go_loopw [6] (fun a wr => a = .int .i64 20 ∧ w = wr) (fun _ _ => 0)
        case atStart => exact ⟨rfl, rfl⟩
        case round =>
          obtain ⟨rfl, rfl⟩ := hrel
          go_wp2
          go_end0
          exact ⟨rfl, rfl⟩
    clear hg hns hd hap
    go_enter Try.func91, Try.ntmps91
    go_wp2_with (fail)
    refine HZ.out.mono ?_
    rintro e w1 ⟨rfl, rfl⟩
    go_wp2
    go_end0
    exact ⟨rfl, h0.out, Chg.refl _ _ _⟩
  · have H := Lib.hid (stable9_any g gd cd L B A c n xs w hn h1 h20 hg hns hB hd hne hap)
    clear hg hns hd hap hn
    generalize osL xs n = R at *
    go_enter Try.func91, Try.ntmps91
    go_wp2_with (fail)
    refine H.out.mono ?_
    rintro e w1 ⟨rfl, hib, hch⟩
    have hI := Lib.hid hib
    have hC := Lib.hid hch
    clear hib hch
    go_wp2
    go_end0
    exact ⟨rfl, hI.out, hC.out⟩
set_option maxHeartbeats 4000000 in
theorem iOrderOfSchedule_k (L B : Nat) (A : Option Addr) (c : Nat) (cs : List In) (L' B' : Nat) (A' : Option Addr) (c' : Nat) (xs : List Int) (w : World) (hl : cs.length ≤ 1048576) (hes : RS In.enc 5 w L B A cs) (hB : B ≤ w.heap.size) (hn : xs.length ≤ 1048576) (hns : IS w L' B' A' xs) (hB' : B' ≤ w.heap.size) :
    Calls Try.prog 33 #[.slice A cs.length c, .slice A' xs.length c'] w (ResOrderOfSchedule (oosR cs xs) (cyB cs xs) w) := by
  have a1 := (Below.refl w.heap.size w).alloc (Nat.le_refl _) (.cells #[.slice A' xs.length c'] 34)
  have hG := Lib.hid (show CB 34 (w.alloc (.cells #[.slice A' xs.length c'] 34)) w.heap.size [.slice A' xs.length c'] from heap_alloc_new w _)
  have hz1 : Hid ((w.alloc (.cells #[.slice A' xs.length c'] 34)).heap.size = w.heap.size + 1) := World.size_alloc _ _
  have H := Lib.hid (areCyclesOf_any L B A c cs L' B' A' c' xs (w.alloc (.cells #[.slice A' xs.length c'] 34)) hl (hes.below a1 hB) (Nat.le_trans hB a1.size) hn (hns.below a1 hB') (Nat.le_trans hB' a1.size))
  have hA1 := Lib.hid a1
  have g0 := (CB.cell hG.out 0).trans (rfl : _ = some (Value.slice A' xs.length c'))
  cases hg : cyB cs xs
  · have hR := Lib.hid (oosR_no hg)
    rw [hg] at H
    clear hg hes hns a1
    generalize oosR cs xs = R at *
    go_enter Try.func33, Try.ntmps33
    go_wp2_with (fail)
    refine H.out.mono ?_
    rintro e w1 ⟨rfl, hb1⟩
    have hB1 := Lib.hid (hA1.out.trans (hb1.mono hA1.out.size))
    clear hb1
    go_wp2
    go_ret2
    rw [hR.out]
    exact ⟨none, 0, rfl, OW.nil _ _ _, hB1.out⟩
  · have hR := Lib.hid (oosR_yes hg)
    have h20 : xs.length ≤ 20 := by
      obtain ⟨h1, h2, _⟩ := cyB_parts hg
      have := (orGood_parts h1).1; omega
    have hle : cs.length = xs.length := (cyB_parts hg).2.1.symm
    have hI := Lib.hid fun (W : World) => indicesOf9_any A c xs.length W (by omega)
    have hS := Lib.hid fun (g gd cd : Nat) (W : World) (hg : CB 34 W g [.slice A' xs.length c']) (hns : IS W L' B' A' xs) (hB : B' ≤ W.heap.size) (hd : IB W gd 3 (idxR 0 xs.length)) (hne : g ≠ gd) (hap : gd < L' ∨ B' ≤ gd) => sortStable9_any g gd cd L' B' A' c' xs.length xs W rfl h20 hg hns hB hd hne hap
    have hXS := Lib.hid fun (W : World) (hW : Below w.heap.size w W) => hns.below hW hB'
    have hLe := Lib.hid (osL_len xs xs.length)
    have hIx := Lib.hid (idxL_R xs.length)
    have hIl := Lib.hid (idxL_len xs.length)
    have hbb := Lib.hid hB'
    rw [hg] at H
    rw [hle] at H ⊢
    clear hg hes hns a1 hle
    generalize oosR cs xs = R at *
    generalize osL xs xs.length = S at *
    generalize idxL xs.length = J at *
    go_enter Try.func33, Try.ntmps33
    go_wp2_with (fail)
    refine H.out.mono ?_
    rintro e w1 ⟨rfl, hb1⟩
    have hB1 := Lib.hid (hA1.out.trans (hb1.mono hA1.out.size))
    have hG1 := Lib.hid (CB.below hG.out hb1 (CB.lt hG.out))
    clear hb1
    go_wp2_with (fail)
    refine (hI.out _).mono ?_
    rintro e w2 ⟨gd, rfl, hgd, hib, hb2⟩
    have hB2 := Lib.hid (hB1.out.trans (hb2.mono hB1.out.size))
    have hG2 := CB.below hG1.out hb2 (CB.lt hG1.out)
    have hlg := CB.lt hG1.out
    have hss := hB1.out.size
    have hbb2 := hbb.out
    rw [hIx.out] at hib
    have hS2 := Lib.hid (hS.out w.heap.size gd xs.length w2 hG2 (hXS.out w2 hB2.out) (by have := hB2.out.size; omega) hib (by omega) (.inr (by omega)))
    have hgw : Hid (w.heap.size ≤ gd) := by unfold Hid; omega
    rw [hIl.out]
    clear hib hb2 hG2 hlg hss hbb2 hgd
    go_wp2_with (fail)
    refine hS2.out.mono ?_
    rintro e w3 ⟨rfl, hib, hch⟩
    have hI3 := Lib.hid hib
    have hB3 := Lib.hid (below_chg hB2.out hch hB2.out.size hgw.out)
    clear hib hch
    go_wp2
    go_ret2
    rw [hR.out]
    exact ⟨some ⟨gd, 0, none⟩, xs.length, by rw [hLe.out]; rfl, by have h := OW.ofIB (lo := w.heap.size) (hi := w3.heap.size) hI3.out (by rw [hLe.out]; omega) hgw.out hI3.out.lt; rw [hLe.out] at h ⊢; exact h, hB3.out⟩
set_option maxHeartbeats 4000000 in
theorem sOrderOfSchedule_k (L B : Nat) (A : Option Addr) (c : Nat) (cs : List In) (L' B' : Nat) (A' : Option Addr) (c' : Nat) (xs : List Int) (w : World) (hl : cs.length ≤ 1048576) (hes : RS In.enc 5 w L B A cs) (hB : B ≤ w.heap.size) (hn : xs.length ≤ 1048576) (hns : IS w L' B' A' xs) (hB' : B' ≤ w.heap.size) :
    Calls Try.prog 31 #[.slice A cs.length c, .slice A' xs.length c'] w (ResOrderOfSchedule (oosR cs xs) (cyB cs xs) w) := by
  cases hg : cyB cs xs
  · have H := Lib.hid (orCycles_any L B A c cs L' B' A' c' xs w hl hes hB hn hns hB')
    have hR := Lib.hid (oosR_no hg)
    rw [hg] at H
    clear hg hes hns
    generalize oosR cs xs = R at *
    go_enter Try.func31, Try.ntmps31
    go_wp2_with (fail)
    refine H.out.mono ?_
    rintro e w1 ⟨rfl, hb1⟩
    have hB1 := Lib.hid hb1
    clear hb1
    go_wp2
    go_ret2
    rw [hR.out]
    exact ⟨none, 0, rfl, OW.nil _ _ _, hB1.out⟩
  · have h := sOrderOfSchedule_go L B A c cs L' B' A' c' xs w hg hl hes hB hn hns hB'
    rw [hg] at h
    exact h
end Go.Proofs.Ytaaloepoegehkaa

/- Arguments of the types []laws.Instr, laws.Instr and []int opened. -/
namespace Go.Proofs.Ytaaloepoegehkaa
open Go.ChangeShapes Go.WideShapes Go.ChangeAt Go.RowKit Go.Deep
open Go.ChangeMaps (open_string shut_string)
set_option linter.unusedVariables false

theorem cellsIn : Try.prog.cellsOf 82 = 5 := by kernel_rfl
theorem cellsStr : Try.prog.cellsOf 9 = 1 := by kernel_rfl
theorem cellsInt : Try.prog.cellsOf 3 = 1 := by kernel_rfl

set_option maxRecDepth 100000 in
theorem in_of_trod {H : Type} {enc : TypeId × Value → H} {w : World} {base : Nat} {spare : Nat → Bool} {held : Bool} {n : Nat} {cs : List Value} {x : DataW H × List MemPlace}
    (h : DataW.trod enc Try.prog w base spare held n 82 cs = some x) : ∃ nd : In, cs = nd.enc ∧ nd.op.size ≤ maxLen := by
  obtain ⟨xs, m, _, _, hlen, hxl, hf⟩ := DataW.trod_struct Try.underlying82 h
  rw [cellsIn] at hlen
  match cs, hlen with
  | [c0, c1, c2, c3, c4], _ =>
    match xs, hxl with
    | [y0, y1, y2, y3, y4], _ =>
      have h0 := hf 0 _ rfl
      change DataW.trod enc Try.prog w base spare held m 9 (([c0, c1, c2, c3, c4].drop 0).take (Try.prog.cellsOf 9)) = _ at h0
      rw [cellsStr] at h0
      have h1 := hf 1 _ rfl
      change DataW.trod enc Try.prog w base spare held m 3 (([c0, c1, c2, c3, c4].drop 1).take (Try.prog.cellsOf 3)) = _ at h1
      rw [cellsInt] at h1
      have h2 := hf 2 _ rfl
      change DataW.trod enc Try.prog w base spare held m 3 (([c0, c1, c2, c3, c4].drop 2).take (Try.prog.cellsOf 3)) = _ at h2
      rw [cellsInt] at h2
      have h3 := hf 3 _ rfl
      change DataW.trod enc Try.prog w base spare held m 3 (([c0, c1, c2, c3, c4].drop 3).take (Try.prog.cellsOf 3)) = _ at h3
      rw [cellsInt] at h3
      have h4 := hf 4 _ rfl
      change DataW.trod enc Try.prog w base spare held m 3 (([c0, c1, c2, c3, c4].drop 4).take (Try.prog.cellsOf 3)) = _ at h4
      rw [cellsInt] at h4
      obtain ⟨s, e0, _, hs⟩ := DataW.trod_string Try.underlying9 h0
      obtain ⟨d, e1, _, _⟩ := DataW.trod_int Try.underlying3 h1
      obtain ⟨a, e2, _, _⟩ := DataW.trod_int Try.underlying3 h2
      obtain ⟨b, e3, _, _⟩ := DataW.trod_int Try.underlying3 h3
      obtain ⟨m, e4, _, _⟩ := DataW.trod_int Try.underlying3 h4
      have e0 : c0 = .string s := by simpa using e0
      have e1 : c1 = .int .i64 d := by simpa using e1
      have e2 : c2 = .int .i64 a := by simpa using e2
      have e3 : c3 = .int .i64 b := by simpa using e3
      have e4 : c4 = .int .i64 m := by simpa using e4
      exact ⟨⟨s, d, a, b, m⟩, by rw [e0, e1, e2, e3, e4]; rfl, hs⟩

theorem cell_lt_heap {w : World} {a : Addr} {v : Value} (h : w.cell? a = some v) : a.block < w.heap.size := by
  rcases Nat.lt_or_ge a.block w.heap.size with hlt | hge
  · exact hlt
  · unfold World.cell? at h; rw [Array.getElem?_eq_none hge] at h; simp at h

set_option maxRecDepth 100000 in
theorem x_of_trod {H : Type} {enc : TypeId × Value → H} {w : World} {r : Reach} {b0 : Nat} {spare : Nat → Bool} {held : Bool} {v : Value} {d : DataW H} {p : List MemPlace}
    (hv : Value.okWide Try.prog w r b0 82 v) (h : DataW.Trod enc Try.prog w 0 spare held 82 v d p) :
    ∃ x : In, v = .agg #[.string x.op, .int .i64 x.d, .int .i64 x.a, .int .i64 x.b, .int .i64 x.m] ∧ x.op.size ≤ 9223372036854775807 := by
  obtain ⟨cs, rfl, hsz⟩ := okWide_struct Try.underlying82 hv
  obtain ⟨fuel, hf⟩ := h
  obtain ⟨x, hx, hs⟩ := in_of_trod hf
  refine ⟨x, ?_, by unfold maxLen at hs; omega⟩
  obtain ⟨l⟩ := cs
  have hx' : l = x.enc := by simpa [Value.cells] using hx
  subst hx'; rfl

set_option maxRecDepth 100000 in
theorem ins_of_trod {H : Type} {enc : TypeId × Value → H} {w : World} {spare : Nat → Bool} {held : Bool} {A : Option Addr} {len cap : Nat} {d : DataW H} {p : List MemPlace}
    (h : DataW.Trod enc Try.prog w 0 spare held 22 (.slice A len cap) d p) :
    ∃ es : List In, es.length = len ∧ RS In.enc 5 w 0 w.heap.size A es ∧ (∀ n ∈ es, n.op.size ≤ 9223372036854775807) ∧ len ≤ 9223372036854775807 := by
  obtain ⟨fuel, hf⟩ := h
  rcases open_slice Try.underlying22 hf with ⟨hcs, _⟩ | ⟨a, l, c, m, n, D, Pl, hcs, _, hl, hm, hmm, _, hi⟩
  · simp [Value.cells] at hcs
    obtain ⟨rfl, rfl, rfl⟩ := hcs
    exact ⟨[], rfl, fun h => absurd h (by simp), (fun n hn => by cases hn), by omega⟩
  · simp [Value.cells] at hcs
    obtain ⟨rfl, rfl, rfl⟩ := hcs
    have hlm : len ≤ m := by rw [hmm]; split <;> omega
    have hex : ∀ i, i < len → ∃ nd : In, (∀ j v, nd.enc[j]? = some v → w.cell? (a.add (i * 5 + j)) = some v) ∧ nd.op.size ≤ maxLen := by
      intro i hil
      obtain ⟨cs', hc, ht⟩ := hi i (by omega)
      rw [cellsIn] at hc
      obtain ⟨nd, rfl, hs⟩ := in_of_trod ht
      obtain ⟨_, _, hat⟩ := World.cells?_some hc
      refine ⟨nd, fun j v hv => ?_, hs⟩
      have hj : j < 5 := kflat_lt In.hk hv
      have := hat j hj
      rw [add_add, hv] at this; exact this
    obtain ⟨f, hf2⟩ := Classical.axiomOfChoice (fun i : {i // i < len} => hex i.1 i.2)
    have hget : ∀ i (h : i < (List.ofFn fun i : Fin len => f ⟨i.1, i.2⟩).length), (List.ofFn fun i : Fin len => f ⟨i.1, i.2⟩)[i] = f ⟨i, by simpa using h⟩ := fun i h => by simp
    refine ⟨List.ofFn fun i : Fin len => f ⟨i.1, i.2⟩, by simp, ?_, ?_, by unfold maxLen at hm; omega⟩
    · intro hpos
      have hpos' : 0 < len := by simpa using hpos
      have h0 := (hf2 ⟨0, hpos'⟩).1 0 _ rfl
      obtain ⟨b, o, spot⟩ := a
      have hspot : spot = none := by have := World.cell?_spot h0; simpa [Addr.add] using this
      subst hspot
      have hadd : ∀ k, (⟨b, o, none⟩ : Addr).add k = ⟨b, o + k, none⟩ := fun k => by simp [Addr.add]
      refine ⟨b, o, rfl, ⟨Nat.zero_le _, ?_⟩, fun i hi j v hv => ?_⟩
      · rw [hadd] at h0
        exact cell_lt_heap h0
      · have hi' : i < len := by simpa using hi
        rw [hget i hi] at hv
        have := (hf2 ⟨i, hi'⟩).1 j v hv
        simp only [hadd, ← Nat.add_assoc] at this
        exact this
    · intro n hn
      obtain ⟨i, rfl⟩ := List.mem_ofFn.1 hn
      have := (hf2 ⟨i.1, i.2⟩).2
      unfold maxLen at this; omega

set_option maxRecDepth 100000 in
theorem ints_of_trod {H : Type} {enc : TypeId × Value → H} {w : World} {spare : Nat → Bool} {held : Bool} {A : Option Addr} {len cap : Nat} {d : DataW H} {p : List MemPlace}
    (h : DataW.Trod enc Try.prog w 0 spare held 34 (.slice A len cap) d p) :
    ∃ xs : List Int, xs.length = len ∧ IS w 0 w.heap.size A xs ∧ len ≤ 9223372036854775807 := by
  obtain ⟨fuel, hf⟩ := h
  rcases open_slice Try.underlying34 hf with ⟨hcs, _⟩ | ⟨a, l, c, m, n, D, Pl, hcs, _, hl, hm, hmm, _, hi⟩
  · simp [Value.cells] at hcs
    obtain ⟨rfl, rfl, rfl⟩ := hcs
    exact ⟨[], rfl, fun h => absurd h (by simp), by omega⟩
  · simp [Value.cells] at hcs
    obtain ⟨rfl, rfl, rfl⟩ := hcs
    have hlm : len ≤ m := by rw [hmm]; split <;> omega
    have hex : ∀ i, i < len → ∃ x : Int, w.cell? (a.add i) = some (.int .i64 x) := by
      intro i hil
      obtain ⟨cs', hc, ht⟩ := hi i (by omega)
      rw [cellsInt, Nat.mul_one] at hc
      obtain ⟨x, hx, _, _⟩ := DataW.trod_int Try.underlying3 ht
      obtain ⟨_, _, hat⟩ := World.cells?_some hc
      have := hat 0 (by omega)
      rw [add_add, hx] at this
      exact ⟨x, by simpa using this⟩
    obtain ⟨f, hf2⟩ := Classical.axiomOfChoice (fun i : {i // i < len} => hex i.1 i.2)
    have hget : ∀ i (h : i < (List.ofFn fun i : Fin len => f ⟨i.1, i.2⟩).length), (List.ofFn fun i : Fin len => f ⟨i.1, i.2⟩)[i] = f ⟨i, by simpa using h⟩ := fun i h => by simp
    refine ⟨List.ofFn fun i : Fin len => f ⟨i.1, i.2⟩, by simp, ?_, by unfold maxLen at hm; omega⟩
    intro hpos
    have hpos' : 0 < len := by simpa using hpos
    have h0 := hf2 ⟨0, hpos'⟩
    obtain ⟨b, o, spot⟩ := a
    have hspot : spot = none := by have := World.cell?_spot h0; simpa [Addr.add] using this
    subst hspot
    have hadd : ∀ k, (⟨b, o, none⟩ : Addr).add k = ⟨b, o + k, none⟩ := fun k => by simp [Addr.add]
    refine ⟨b, o, rfl, ⟨Nat.zero_le _, ?_⟩, fun i hi => ?_⟩
    · rw [hadd] at h0
      exact cell_lt_heap h0
    · have hi' : i < len := by simpa using hi
      rw [hget i hi]
      have := hf2 ⟨i, hi'⟩
      simp only [hadd] at this
      exact this
end Go.Proofs.Ytaaloepoegehkaa
