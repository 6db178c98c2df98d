/- Texts of this proof, one behind the other: N9W, N9X, NAA, NAB, NAC, OC. -/
import Derived.Test.YtpgdccfpegdcoaaZ2
import Derived.WalkKit
import Derived.WalkSpells
import Derived.WalkLawsBesides
import Derived.Deep.RegionHeld3
import Derived.Lib.Hide
import Derived.Deep.RegionLaw
import Derived.Deep.QuietTactic
import Derived.BigQuiet
import Derived.Test.YtpgdccfpegdcoaaKMInstr
import Derived.ProofKit
import Derived.OpenShut
import Derived.ShutString
import Derived.ChangeOld
import Derived.Below
import Derived.Deep.Slices
import Derived.Deep.Fields
/- Chapter 9: FirstOrder, both. -/
namespace Go.Proofs.Ytpgdccfpegdcoaa
open Go.RowKit
set_option linter.unusedVariables false
set_option maxRecDepth 100000

def idxL (n : Nat) : List Int := (List.range n).map fun (i : Nat) => (i : Int)
theorem idxL_len (n : Nat) : (idxL n).length = n := by simp [idxL]
theorem idxL_succ (n : Nat) : idxL (n + 1) = idxL n ++ [(n : Int)] := by unfold idxL; rw [List.range_succ, List.map_append]; rfl
def idxZ (n k : Nat) : List Int := idxL k ++ List.replicate (n - k) 0
theorem idxZ_len {n k : Nat} (h : k ≤ n) : (idxZ n k).length = n := by unfold idxZ; rw [List.length_append, idxL_len, List.length_replicate]; omega
theorem idxZ_zero (n : Nat) : idxZ n 0 = zeros n := rfl
theorem idxZ_end (n : Nat) : idxZ n n = idxL n := by unfold idxZ; rw [Nat.sub_self]; simp
theorem idxZ_set {n k : Nat} (h : k < n) : (idxZ n k).set k (k : Int) = idxZ n (k + 1) := by
  unfold idxZ
  rw [show n - k = (n - (k + 1)) + 1 by omega, List.replicate_succ, List.set_append_right _ _ (by rw [idxL_len]; exact Nat.le_refl _), idxL_len, Nat.sub_self, idxL_succ, List.append_assoc]; rfl
set_option maxHeartbeats 4000000 in
theorem indicesOf_any (A : Option Addr) (c : Nat) (n : Nat) (w : World) (hl : n ≤ 1000000) :
    Calls Try.prog 92 #[.slice A n c] w (FreshI w (idxL n)) := by
  have hmk := run_make_ints n (by omega)
  have hO0 : Hid (OW (w.alloc (.cells (intCells (zeros n)) 3)) w.heap.size (w.alloc (.cells (intCells (zeros n)) 3)).heap.size (.slice (some ⟨w.heap.size, 0, none⟩) n n) (idxZ n 0)) := by
    have h : IB (w.alloc (.cells (intCells (zeros n)) 3)) w.heap.size 3 (zeros n) := heap_alloc_new w _
    have h2 := OW.ofIB (lo := w.heap.size) (hi := (w.alloc (.cells (intCells (zeros n)) 3)).heap.size) h (by simp [zeros]; exact hl) (Nat.le_refl _) (by simp)
    have hz : (zeros n).length = n := by simp [zeros]
    rw [hz] at h2
    rw [Hid, idxZ_zero]
    exact h2
  have hb2 := Lib.hid ((Below.refl w.heap.size w).alloc (Nat.le_refl _) (.cells (intCells (zeros n)) 3))
  have hSt := Lib.hid fun (k : Nat) (h : k < n) => idxZ_set h
  have hLn := Lib.hid fun (k : Nat) (h : k ≤ n) => idxZ_len h
  have hEn := Lib.hid (idxZ_end n)
  have hIl := Lib.hid (idxL_len n)
  generalize idxZ n = Z at *
  generalize idxL n = I at *
  go_enter Try.func92, Try.ntmps92
  go_wp2_with (fail)
  clear hmk
  generalize hg : w.heap.size = g at hO0 ⊢
  have hG := Lib.hid hg
  clear hg
  generalize w.alloc (.cells (intCells (zeros n)) 3) = W1 at *
  go_loopw [10] (fun q wr => ∃ k : Nat, k ≤ n ∧ q = .int .i64 k ∧ OW wr g wr.heap.size (.slice (some ⟨g, 0, none⟩) n n) (Z k) ∧ Below w.heap.size w wr) (fun q _ => n - (intOf q).toNat)
  case atStart => exact ⟨0, Nat.zero_le _, rfl, hO0.out, hb2.out⟩
  case round =>
    clear hO0 hb2
    obtain ⟨k, hk, rfl, how, hbel⟩ := hrel
    have hO := Lib.hid how
    have hBL := Lib.hid hbel
    clear how hbel
    by_cases hlt : k < n
    · have hki : (k : Int) < (n : Int) := by omega
      have hk0 : (0 : Int) ≤ (k : Int) := by omega
      obtain ⟨ok, fk⟩ := OW.at9 hO.out k (by rw [hLn.out k hk]; exact hlt)
      have hP := hO.out.put9 k (k : Int)
      rw [hSt.out k hlt] at hP
      have hz : (wr.setCell ⟨g, k, none⟩ (.int .i64 k)).heap.size = wr.heap.size := World.size_setCell _ _ _
      have hP2 := Lib.hid (show OW (wr.setCell ⟨g, k, none⟩ (.int .i64 k)) g (wr.setCell ⟨g, k, none⟩ (.int .i64 k)).heap.size (.slice (some ⟨g, 0, none⟩) n n) (Z (k + 1)) from by rw [hz]; exact hP)
      have hBs := Lib.hid (hBL.out.setCell (p := ⟨g, k, none⟩) (by rw [hG.out]; exact Nat.le_refl _) (.int .i64 k))
      clear hP hz
      generalize (Z k).getD k 0 = y at *
      go_wp2
      go_roundw
      case rel => exact ⟨k + 1, by omega, by go_num, hP2.out, hBs.out⟩
      case measure => simp [intOf]; omega
    · obtain rfl : k = n := by omega
      have hO9 := hO.out
      rw [hEn.out] at hO9
      have hlg : w.heap.size ≤ g := by rw [hG.out]; exact Nat.le_refl _
      have hO8 := Lib.hid (hO9.lower hlg)
      clear hO9 hlg
      go_wp2
      go_ret
      exact ⟨_, _, by rw [hIl.out]; rfl, by rw [hIl.out]; exact hO8.out, hBL.out⟩
def foR (cs : List In) : List Int := if orGood cs = true then idxL cs.length else []
theorem foR_yes {cs : List In} (h : orGood cs = true) : foR cs = idxL cs.length := by unfold foR; rw [if_pos h]
theorem foR_no {cs : List In} (h : orGood cs = false) : foR cs = [] := by unfold foR; rw [h]; rfl
theorem foR_len (cs : List In) : (foR cs).length ≤ 1048576 := by
  cases h : orGood cs
  · rw [foR_no h]; simp
  · rw [foR_yes h, idxL_len]; have := (orGood_parts h).1; omega
set_option maxHeartbeats 4000000 in
theorem iFirstOrder_k (L B : Nat) (A : Option Addr) (c : Nat) (cs : List In) (w : World) (hl : cs.length ≤ 1048576) (hes : RS In.enc 5 w L B A cs) (hB : B ≤ w.heap.size) :
    Calls Try.prog 44 #[.slice A cs.length c] w (ResFirstOrder (foR cs) (orGood cs) w) := by
  have H := Lib.hid (isOrderable_any L B A c cs w hl hes hB)
  cases hg : orGood cs
  · have hR := Lib.hid (foR_no hg)
    rw [hg] at H
    clear hg hes
    generalize foR cs = R at *
    go_enter Try.func44, Try.ntmps44
    go_wp2_with (fail)
    refine H.out.mono ?_
    rintro e w1 ⟨rfl, hb1⟩
    have hB1 := Lib.hid hb1
    clear hb1
    go_wp2
    go_ret2
    rw [hR.out]
    exact ⟨none, 0, rfl, OW.nil _ _ _, hB1.out⟩
  · have hR := Lib.hid (foR_yes hg)
    have h20 := (orGood_parts hg).1
    have HI := Lib.hid fun (W : World) => indicesOf_any A c cs.length W (by omega)
    rw [hg] at H
    clear hg hes
    generalize foR cs = R at *
    generalize idxL cs.length = I at *
    go_enter Try.func44, Try.ntmps44
    go_wp2_with (fail)
    refine H.out.mono ?_
    rintro e w1 ⟨rfl, hb1⟩
    have hB1 := Lib.hid hb1
    clear hb1
    go_wp2_with (fail)
    refine (HI.out _).mono ?_
    rintro e w2 ⟨A2, c2, rfl, ho2, hb2⟩
    have hO2 := Lib.hid (ho2.lower hB1.out.size)
    have hB2 := Lib.hid (hB1.out.trans (hb2.mono hB1.out.size))
    clear ho2 hb2
    go_wp2
    go_ret2
    rw [hR.out]
    exact ⟨A2, c2, rfl, hO2.out, hB2.out⟩
set_option maxHeartbeats 4000000 in
theorem sFirstOrder_k (L B : Nat) (A : Option Addr) (c : Nat) (cs : List In) (w : World) (hl : cs.length ≤ 1048576) (hes : RS In.enc 5 w L B A cs) (hB : B ≤ w.heap.size) :
    Calls Try.prog 43 #[.slice A cs.length c] w (ResFirstOrder (foR cs) (orGood cs) w) := by
  obtain ⟨i1, hi', hz0', hz1', hz2'⟩ := info_parts Try.infoInt
  have hI0 := Lib.hid hi'
  have hI1 := Lib.hid hz0'
  have hI2 := Lib.hid hz1'
  have hI3 := Lib.hid hz2'
  clear hi' hz0' hz1' hz2'
  have H := Lib.hid (orGood_any L B A c cs w hl hes hB)
  cases hg : orGood cs
  · have hR := Lib.hid (foR_no hg)
    rw [hg] at H
    clear hg hes
    generalize foR cs = R at *
    go_enter Try.func43, Try.ntmps43
    go_wp2_with (fail)
    refine H.out.mono ?_
    rintro e w1 ⟨rfl, hb1⟩
    have hB1 := Lib.hid hb1
    clear hb1
    go_wp2
    go_ret2
    rw [hR.out]
    exact ⟨none, 0, rfl, OW.nil _ _ _, hB1.out⟩
  · have hR := Lib.hid (foR_yes hg)
    have h20 := (orGood_parts hg).1
    have hSu := Lib.hid idxL_succ
    have hLe := Lib.hid idxL_len
    have h00 : Hid (idxL 0 = []) := rfl
    rw [hg] at H
    clear hg hes
    generalize foR cs = R at *
    generalize idxL = I at *
    go_enter Try.func43, Try.ntmps43
    go_wp2_with (fail)
    refine H.out.mono ?_
    rintro e w1 ⟨rfl, hb1⟩
    have hB1 := Lib.hid hb1
    clear hb1
    go_wp2
    go_loopw [4, 11] (fun v q wr => ∃ k : Nat, k ≤ cs.length ∧ q = .int .i64 k ∧ OW wr w1.heap.size wr.heap.size v (I k) ∧ Below w1.heap.size w1 wr) (fun _ q _ => cs.length - (intOf q).toNat)
    case atStart => exact ⟨0, Nat.zero_le _, rfl, by rw [h00.out]; exact OW.nil _ _ _, Below.refl _ _⟩
    case round =>
      obtain ⟨k, hk, rfl, how, hbel⟩ := hrel
      obtain ⟨V, cv, rfl, _⟩ := how.form
      have hO := Lib.hid how
      have hBL := Lib.hid hbel
      clear how hbel
      rw [hLe.out] at hO ⊢
      by_cases hlt : k < cs.length
      · have hki : (k : Int) < (cs.length : Int) := by omega
        have hS := Lib.hid (hSu.out k)
        have hxl := hLe.out k
        generalize hII : I (k + 1) = In1 at *
        have hIh := Lib.hid hII
        clear hII
        generalize I k = xs at *
        have ho2 := Lib.hid (hO.out.1.alloc (.cells #[.int .i64 k] 3))
        have hb3 := Lib.hid (hBL.out.alloc hBL.out.size (.cells #[.int .i64 k] 3))
        have hlo := Lib.hid hO.out.lo
        have hzw := hBL.out.size
        go_wp2_with (at_builtin; go_loud (refine wpList_append_own _ rfl _ _ 38 rfl w1.heap.size 3 i1 (.int .i64 0) 1 8 Try.underlying38 hI0.out hI1.out hI2.out hI3.out rfl (by decide) _ _ _ rfl ho2.out ⟨wr.heap.size, 0, none⟩ 1 1 [.int .i64 k] rfl rfl (new1 rfl) (one1 _) (by unfold maxLen; omega) (by omega) (by simp; omega) ?_); intro v' w4 hown4 hgr4 _)
        have R1 := Lib.hid (show OW w4 w1.heap.size w4.heap.size v' In1 from by rw [hS.out]; exact OW.push (by simpa using hown4))
        have R2 := Lib.hid (hb3.out.grown hgr4 hb3.out.size (fun k hk => (hlo.out k hk).1))
        clear hown4 hgr4
        go_wp2
        go_roundw
        case rel => exact ⟨k + 1, by omega, by go_num, by rw [hIh.out]; exact R1.out, R2.out⟩
        case measure => simp [intOf]; omega
      · obtain rfl : k = cs.length := by omega
        have hO2 := Lib.hid (hO.out.lower hB1.out.size)
        have hB2 := Lib.hid (hB1.out.trans (hBL.out.mono hB1.out.size))
        go_wp2
        go_ret2
        rw [hR.out]
        exact ⟨V, cv, by rw [hLe.out]; rfl, by rw [hLe.out]; exact hO2.out, hB2.out⟩
end Go.Proofs.Ytpgdccfpegdcoaa

/- Chapter 9: cycles told for code; LengthOf, both. -/
namespace Go.Proofs.Ytpgdccfpegdcoaa
open Go.RowKit
set_option linter.unusedVariables false
set_option maxRecDepth 100000

theorem isNoCycle_any (x : Int) (w : World) : Calls Try.prog 100 #[.int .i64 x] w fun e w' => e = .returned (.bool (!inR x 0 100)) ∧ w = w' := by
  have H := Lib.hid fun (W : World) => isIndex_any x 101 W
  have h1 : ((101 : Int) - 1) = 100 := by decide
  rw [h1] at H
  go_enter Try.func100, Try.ntmps100
  go_wp2_with (fail)
  refine (H.out _).mono ?_
  rintro e w' ⟨rfl, rfl⟩
  go_wp2
  go_ret
  exact ⟨rfl, rfl⟩
theorem IndexFuncY_any (L B : Nat) (A : Option Addr) (c : Nat) (xs : List Int) (w : World) (hl : xs.length ≤ 1048576) (hx : IS w L B A xs) :
    Calls Try.prog 158 #[.slice A xs.length c, .func (.func 100) #[] #[]] w fun e w' => ∃ k : Int, e = .returned (.int .i64 k) ∧ decide (0 ≤ k) = !allIn xs 0 100 ∧ w = w' := by
  have hX := Lib.hid hx; clear hx
  go_enter Try.func158, Try.ntmps158
  go_wp2
  go_loop [5, 8] (fun _ i => ∃ k : Nat, k ≤ xs.length ∧ i = .int .i64 k ∧ allIn (xs.take k) 0 100 = true) (fun _ i => xs.length - (intOf i).toNat)
  case atStart => exact ⟨0, Nat.zero_le _, rfl, rfl⟩
  case round =>
    obtain ⟨k, hk, rfl, hh⟩ := hrel
    have hH := Lib.hid hh; clear hh
    by_cases hlt : k < xs.length
    · obtain ⟨b, o, rfl, _, hc⟩ := hX.out (by omega)
      have hcell := hc k hlt
      clear hc
      have hS : Hid (allIn (xs.take (k + 1)) 0 100 = (allIn (xs.take k) 0 100 && inR xs[k] 0 100)) := by
        unfold Hid allIn; rw [List.take_succ_eq_append_getElem hlt, List.all_append]; simp
      have hF : Hid (inR xs[k] 0 100 = false → allIn xs 0 100 = false) := fun h => by
        unfold allIn; rw [List.all_eq_false]; exact ⟨_, List.getElem_mem hlt, by rw [h]; simp⟩
      generalize xs[k] = x at *
      have hN := Lib.hid (isNoCycle_any x)
      cases hr : inR x 0 100
      · rw [hr] at hN
        have hF2 := Lib.hid (hF.out hr)
        clear hr hS hF
        go_wp2_with (go_at_call 100; (with_reducible refine (hN.out _).mono ?_); rintro e w3 ⟨rfl, rfl⟩)
        go_ret
        exact ⟨k, rfl, by rw [hF2.out]; simp, rfl⟩
      · rw [hr] at hN hS
        clear hr hF
        have hS2 : Hid (allIn (xs.take (k + 1)) 0 100 = true) := by rw [Hid, hS.out, hH.out]; rfl
        clear hS
        go_wp2_with (go_at_call 100; (with_reducible refine (hN.out _).mono ?_); rintro e w3 ⟨rfl, rfl⟩)
        go_round
        case rel => exact ⟨k + 1, by omega, by go_num, hS2.out⟩
        case measure => simp [intOf]; omega
    · obtain rfl : k = xs.length := by omega
      go_wp2
      go_ret
      exact ⟨-1, rfl, by have := hH.out; rw [List.take_length] at this; rw [this]; rfl, rfl⟩
theorem ContainsFuncY_any (L B : Nat) (A : Option Addr) (c : Nat) (xs : List Int) (w : World) (hl : xs.length ≤ 1048576) (hx : IS w L B A xs) :
    Calls Try.prog 129 #[.slice A xs.length c, .func (.func 100) #[] #[]] w fun e w' => e = .returned (.bool (!allIn xs 0 100)) ∧ w = w' := by
  have H := Lib.hid (IndexFuncY_any L B A c xs w hl hx); clear hx
  go_enter Try.func129, Try.ntmps129
  go_wp2_with (fail)
  refine H.out.mono ?_
  rintro e w' ⟨k, rfl, hk, rfl⟩
  have hK := Lib.hid hk; clear hk
  go_wp2
  go_ret
  exact ⟨ret_bool hK.out, rfl⟩
/-- Cycles that are told for code. -/
def cyB (cs : List In) (xs : List Int) : Bool := orGood cs && (xs.length == cs.length) && allIn xs 0 100
theorem cyB_no1 {cs : List In} (xs : List Int) (h : orGood cs = false) : cyB cs xs = false := by unfold cyB; rw [h]; rfl
theorem cyB_no2 {cs : List In} {xs : List Int} (h : xs.length ≠ cs.length) : cyB cs xs = false := by unfold cyB; rw [beq_eq_false_iff_ne.2 h]; simp
theorem cyB_yes {cs : List In} {xs : List Int} (h : orGood cs = true) (h2 : xs.length = cs.length) : cyB cs xs = allIn xs 0 100 := by unfold cyB; rw [h, beq_iff_eq.2 h2]; rfl
theorem cyB_parts {cs : List In} {xs : List Int} (h : cyB cs xs = true) : orGood cs = true ∧ xs.length = cs.length ∧ allIn xs 0 100 = true := by
  unfold cyB at h
  rw [Bool.and_eq_true, Bool.and_eq_true, beq_iff_eq] at h
  exact ⟨h.1.1, h.1.2, h.2⟩

set_option maxHeartbeats 2000000 in
theorem orCycles_any (L B : Nat) (A : Option Addr) (c : Nat) (cs : List In) (L' B' : Nat) (A' : Option Addr) (c' : Nat) (xs : List Int) (w : World) (hl : cs.length ≤ 1048576) (hes : RS In.enc 5 w L B A cs) (hB : B ≤ w.heap.size) (hn : xs.length ≤ 1048576) (hns : IS w L' B' A' xs) (hB' : B' ≤ w.heap.size) :
    Calls Try.prog 103 #[.slice A cs.length c, .slice A' xs.length c'] w fun e w' => e = .returned (.bool (cyB cs xs)) ∧ Below w.heap.size w w' := by
  have H := Lib.hid (orGood_any L B A c cs w hl hes hB)
  cases hg : orGood cs
  · have hR := Lib.hid (cyB_no1 xs hg)
    rw [hg] at H
    clear hg hes hns
    generalize cyB cs xs = R at *
    go_enter Try.func103, Try.ntmps103
    go_wp2_with (fail)
    refine H.out.mono ?_
    rintro e w1 ⟨rfl, hb1⟩
    have hB1 := Lib.hid hb1
    clear hb1
    go_wp2
    go_ret
    exact ⟨by rw [hR.out]; rfl, hB1.out⟩
  rw [hg] at H
  by_cases hlen : xs.length = cs.length
  · have hR := Lib.hid (cyB_yes hg hlen)
    have e1 : ((xs.length : Int) == (cs.length : Int)) = true := by simp; omega
    have HC := Lib.hid fun (W : World) (hW : Below w.heap.size w W) => l1All_any L' B' A' c' xs 0 100 W hn (hns.below hW hB')
    clear hg hes hns hlen
    generalize cyB cs xs = R at *
    generalize allIn xs 0 100 = a at *
    go_enter Try.func103, Try.ntmps103
    go_wp2_with (fail)
    refine H.out.mono ?_
    rintro e w1 ⟨rfl, hb1⟩
    have hB1 := Lib.hid hb1
    clear hb1
    go_wp2_with (fail)
    refine (HC.out _ hB1.out).mono ?_
    rintro e w2 ⟨rfl, rfl⟩
    go_wp2
    go_ret
    exact ⟨by rw [hR.out]; first | rfl | (cases a <;> rfl), hB1.out⟩
  · have hR := Lib.hid (cyB_no2 (cs := cs) hlen)
    have e1 : ((xs.length : Int) == (cs.length : Int)) = false := by simp; omega
    clear hg hes hns hlen
    generalize cyB cs xs = R at *
    go_enter Try.func103, Try.ntmps103
    go_wp2_with (fail)
    refine H.out.mono ?_
    rintro e w1 ⟨rfl, hb1⟩
    have hB1 := Lib.hid hb1
    clear hb1
    go_wp2
    go_ret
    exact ⟨by rw [hR.out]; rfl, hB1.out⟩

set_option maxHeartbeats 2000000 in
theorem areCyclesOf_any (L B : Nat) (A : Option Addr) (c : Nat) (cs : List In) (L' B' : Nat) (A' : Option Addr) (c' : Nat) (xs : List Int) (w : World) (hl : cs.length ≤ 1048576) (hes : RS In.enc 5 w L B A cs) (hB : B ≤ w.heap.size) (hn : xs.length ≤ 1048576) (hns : IS w L' B' A' xs) (hB' : B' ≤ w.heap.size) :
    Calls Try.prog 105 #[.slice A cs.length c, .slice A' xs.length c'] w fun e w' => e = .returned (.bool (cyB cs xs)) ∧ Below w.heap.size w w' := by
  have H := Lib.hid (isOrderable_any L B A c cs w hl hes hB)
  cases hg : orGood cs
  · have hR := Lib.hid (cyB_no1 xs hg)
    rw [hg] at H
    clear hg hes hns
    generalize cyB cs xs = R at *
    go_enter Try.func105, Try.ntmps105
    go_wp2_with (fail)
    refine H.out.mono ?_
    rintro e w1 ⟨rfl, hb1⟩
    have hB1 := Lib.hid hb1
    clear hb1
    go_wp2
    go_ret
    exact ⟨by rw [hR.out]; rfl, hB1.out⟩
  rw [hg] at H
  by_cases hlen : xs.length = cs.length
  · have hR := Lib.hid (cyB_yes hg hlen)
    have e1 : ((xs.length : Int) == (cs.length : Int)) = true := by simp; omega
    have HC := Lib.hid fun (W : World) (hW : Below w.heap.size w W) => ContainsFuncY_any L' B' A' c' xs W hn (hns.below hW hB')
    clear hg hes hns hlen
    generalize cyB cs xs = R at *
    generalize allIn xs 0 100 = a at *
    go_enter Try.func105, Try.ntmps105
    go_wp2_with (fail)
    refine H.out.mono ?_
    rintro e w1 ⟨rfl, hb1⟩
    have hB1 := Lib.hid hb1
    clear hb1
    go_wp2_with (fail)
    refine (HC.out _ hB1.out).mono ?_
    rintro e w2 ⟨rfl, rfl⟩
    go_wp2
    go_ret
    exact ⟨by rw [hR.out]; first | rfl | (cases a <;> rfl), hB1.out⟩
  · have hR := Lib.hid (cyB_no2 (cs := cs) hlen)
    have e1 : ((xs.length : Int) == (cs.length : Int)) = false := by simp; omega
    clear hg hes hns hlen
    generalize cyB cs xs = R at *
    go_enter Try.func105, Try.ntmps105
    go_wp2_with (fail)
    refine H.out.mono ?_
    rintro e w1 ⟨rfl, hb1⟩
    have hB1 := Lib.hid hb1
    clear hb1
    go_wp2
    go_ret
    exact ⟨by rw [hR.out]; rfl, hB1.out⟩
end Go.Proofs.Ytpgdccfpegdcoaa

/- Chapter 9: schedules, plain; hasRoom, isWide, orWide. -/
namespace Go.Proofs.Ytpgdccfpegdcoaa
open Go.RowKit
set_option linter.unusedVariables false
set_option maxRecDepth 100000

def cntE (xs : List Int) (c : Int) : Nat := (xs.filter fun x => x == c).length
theorem cntE_snoc {xs : List Int} {k : Nat} (c : Int) (h : k < xs.length) : cntE (xs.take (k + 1)) c = cntE (xs.take k) c + (if xs[k] = c then 1 else 0) := by
  unfold cntE
  rw [List.take_succ_eq_append_getElem h, List.filter_append, List.length_append]
  congr 1
  by_cases e : xs[k] = c
  · rw [if_pos e]; simp [e]
  · rw [if_neg e]; simp [e]
theorem cntE_le (xs : List Int) (c : Int) : cntE xs c ≤ xs.length := List.length_filter_le _ _
theorem cntE_take (xs : List Int) (c : Int) : ∀ k, k ≤ xs.length → cntE (xs.take k) c ≤ cntE xs c := fun k hk => by
  unfold cntE
  exact ((List.take_sublist k xs).filter _).length_le
theorem hasRoom_any (L B : Nat) (A : Option Addr) (m c' : Nat) (xs : List Int) (c wide : Int) (w : World) (hm : m = xs.length) (hl : xs.length ≤ 1000) (hw : 0 ≤ wide ∧ wide ≤ 1000) (hx : IS w L B A xs) :
    Calls Try.prog 102 #[.slice A m c', .int .i64 c, .int .i64 wide] w fun e w' => e = .returned (.bool (decide ((cntE xs c : Int) < wide))) ∧ w = w' := by
  subst hm
  have hX := Lib.hid hx; clear hx
  have hLe := Lib.hid fun (k : Nat) => cntE_le (xs.take k) c
  go_enter Try.func102, Try.ntmps102
  go_wp2
  go_loop [2, 11] (fun v i => ∃ k : Nat, k ≤ xs.length ∧ i = .int .i64 k ∧ v = .int .i64 (wide - (cntE (xs.take k) c : Int))) (fun _ i => xs.length - (intOf i).toNat)
  case atStart => exact ⟨0, Nat.zero_le _, rfl, by rw [List.take_zero]; show _ = Value.int .i64 (wide - ((0 : Nat) : Int)); simp⟩
  case round =>
    obtain ⟨k, hk, rfl, rfl⟩ := hrel
    by_cases hlt : k < xs.length
    · obtain ⟨b, o, rfl, _, hc⟩ := hX.out (by omega)
      have hcell := hc k hlt
      clear hc
      have hS := Lib.hid (cntE_snoc c hlt)
      have hl1 := hLe.out k
      rw [List.length_take] at hl1
      have hki : (k : Int) < (xs.length : Int) := by omega
      generalize hTT : cntE (xs.take (k + 1)) c = n1 at *
      have hTh := Lib.hid hTT
      clear hTT
      generalize cntE (xs.take k) c = n at *
      generalize xs[k] = x at *
      have hw1 : IntKind.i64.wrap (wide - (n : Int) - 1) = wide - (n : Int) - 1 := IntWalk.i64_in _ (by omega)
      have hn4 : (n : Int) ≤ 1000 := by omega
      by_cases e : x = c
      · have e' : (x == c) = true := by simpa using e
        have hS2 : Hid ((n1 : Int) = n + 1) := by have := hS.out; rw [if_pos e] at this; unfold Hid; omega
        clear e hS
        go_wp2
        go_round
        case rel => exact ⟨k + 1, by omega, by go_num, by rw [hTh.out, hS2.out]; congr 1; omega⟩
        case measure => simp [intOf]; omega
      · have e' : (x == c) = false := by simpa using e
        have hS2 : Hid ((n1 : Int) = n) := by have := hS.out; rw [if_neg e] at this; unfold Hid; omega
        clear e hS
        go_wp2
        go_round
        case rel => exact ⟨k + 1, by omega, by go_num, by rw [hTh.out, hS2.out]⟩
        case measure => simp [intOf]; omega
    · obtain rfl : k = xs.length := by omega
      rw [List.take_length]
      go_wp2
      go_ret
      exact ⟨ret_bool (by first | rfl | (rw [Bool.eq_iff_iff]; done) | (rw [Bool.eq_iff_iff]; simp; omega)), rfl⟩
theorem isWide_any (x : Int) (w : World) : Calls Try.prog 99 #[.int .i64 x] w fun e w' => e = .returned (.bool (inR x 1 3)) ∧ w = w' := by
  by_cases h1 : 1 ≤ x
  · go_enter Try.func99, Try.ntmps99
    go_wp2
    go_ret
    exact ⟨ret_bool (by rw [Bool.eq_iff_iff]; simp [inR]; omega), rfl⟩
  · go_enter Try.func99, Try.ntmps99
    go_wp2
    go_ret
    exact ⟨ret_bool (by rw [Bool.eq_iff_iff]; simp [inR]; omega), rfl⟩
theorem orWide_any (x : Int) (w : World) : Calls Try.prog 97 #[.int .i64 x] w fun e w' => e = .returned (.bool (inR x 1 3)) ∧ w = w' := by
  have H := Lib.hid fun (W : World) => l1In_r x 1 3 W
  go_enter Try.func97, Try.ntmps97
  go_wp2_with (fail)
  refine (H.out _).mono ?_
  rintro e w' ⟨rfl, rfl⟩
  go_wp2
  go_ret
  exact ⟨rfl, rfl⟩

/- Schedules. -/
def scB (cs : List In) (wide : Int) (xs : List Int) (q : Nat) : Bool := inR (xs.getD q 0) 0 100 && decide (lcF xs (ndL cs q cs.length) ≤ xs.getD q 0) && decide ((cntE (xs.take q) (xs.getD q 0) : Int) < wide)
def scP (cs : List In) (wide : Int) (xs : List Int) (k : Nat) : Bool := (List.range k).all (scB cs wide xs)
theorem scP_succ (cs : List In) (wide : Int) (xs : List Int) (k : Nat) : scP cs wide xs (k + 1) = (scP cs wide xs k && scB cs wide xs k) := by
  unfold scP; rw [List.range_succ, List.all_append]; simp
theorem scP_false {cs : List In} {wide : Int} {xs : List Int} {k : Nat} (h : scP cs wide xs k = false) : ∀ {n : Nat}, k ≤ n → scP cs wide xs n = false
  | 0, hn => by obtain rfl : k = 0 := by omega
                exact h
  | n + 1, hn => by
    rcases Nat.lt_or_ge n k with h1 | h1
    · obtain rfl : k = n + 1 := by omega
      exact h
    · rw [scP_succ, scP_false h h1]; rfl
theorem scP_in {cs : List In} {wide : Int} {xs : List Int} {k : Nat} (h : scP cs wide xs k = true) {q : Nat} (hq : q < k) : 0 ≤ xs.getD q 0 ∧ xs.getD q 0 ≤ 100 := by
  unfold scP at h
  rw [List.all_eq_true] at h
  have h1 := h q (by simpa using hq)
  unfold scB at h1
  rw [Bool.and_eq_true, Bool.and_eq_true, inR_iff] at h1
  exact h1.1.1
/-- The model's: what depends on i, up to j. -/
def mdB (cs : List In) (xs : List Int) (i j : Nat) : Bool := !decide (0 ≤ dT cs i j) || decide (xs.getD i 0 + dT cs i j ≤ xs.getD j 0)
def mdP (cs : List In) (xs : List Int) (i m : Nat) : Bool := (List.range m).all (mdB cs xs i)
theorem mdP_succ (cs : List In) (xs : List Int) (i m : Nat) : mdP cs xs i (m + 1) = (mdP cs xs i m && mdB cs xs i m) := by
  unfold mdP; rw [List.range_succ, List.all_append]; simp
theorem mdP_false {cs : List In} {xs : List Int} {i k : Nat} (h : mdP cs xs i k = false) : ∀ {n : Nat}, k ≤ n → mdP cs xs i n = false
  | 0, hn => by obtain rfl : k = 0 := by omega
                exact h
  | n + 1, hn => by
    rcases Nat.lt_or_ge n k with h1 | h1
    · obtain rfl : k = n + 1 := by omega
      exact h
    · rw [mdP_succ, mdP_false h h1]; rfl
def msB (cs : List In) (wide : Int) (xs : List Int) (i : Nat) : Bool := mdP cs xs i cs.length && decide ((cntE xs (xs.getD i 0) : Int) ≤ wide)
def msP (cs : List In) (wide : Int) (xs : List Int) (k : Nat) : Bool := (List.range k).all (msB cs wide xs)
theorem msP_succ (cs : List In) (wide : Int) (xs : List Int) (k : Nat) : msP cs wide xs (k + 1) = (msP cs wide xs k && msB cs wide xs k) := by
  unfold msP; rw [List.range_succ, List.all_append]; simp
theorem msP_false {cs : List In} {wide : Int} {xs : List Int} {k : Nat} (h : msP cs wide xs k = false) : ∀ {n : Nat}, k ≤ n → msP cs wide xs n = false
  | 0, hn => by obtain rfl : k = 0 := by omega
                exact h
  | n + 1, hn => by
    rcases Nat.lt_or_ge n k with h1 | h1
    · obtain rfl : k = n + 1 := by omega
      exact h
    · rw [msP_succ, msP_false h h1]; rfl
theorem lcF_le {cyc : List Int} {b : Int} {ns : List (Int × Int)} : lcF cyc ns ≤ b ↔ 0 ≤ b ∧ ∀ d ∈ ns, cyc.getD d.1.toNat 0 + d.2 ≤ b := by
  constructor
  · intro h
    have key : ∀ (ns : List (Int × Int)) (a : Int), ns.foldl (fun m d => max m (cyc.getD d.1.toNat 0 + d.2)) a ≤ b → a ≤ b ∧ ∀ d ∈ ns, cyc.getD d.1.toNat 0 + d.2 ≤ b := by
      intro ns
      induction ns with
      | nil => intro a h; exact ⟨h, by simp⟩
      | cons d ns ih =>
        intro a h
        have h1 : max a (cyc.getD d.1.toNat 0 + d.2) ≤ b ∧ ∀ e ∈ ns, cyc.getD e.1.toNat 0 + e.2 ≤ b := ih _ h
        refine ⟨by omega, fun e he => ?_⟩
        rcases List.mem_cons.1 he with rfl | he
        · omega
        · exact h1.2 e he
    exact key ns 0 h
  · rintro ⟨h0, h⟩
    exact (lcF_bd h0 h).2
theorem mem_ndL_iff {cs : List In} {j k : Nat} {d : Int × Int} : d ∈ ndL cs j k ↔ ∃ i : Nat, i < k ∧ 0 ≤ dT cs i j ∧ d = ((i : Int), dT cs i j) := by
  constructor
  · intro h
    obtain ⟨i, h1, h2, h3, h4⟩ := mem_ndL h
    exact ⟨i, h2, h3, h4⟩
  · rintro ⟨i, h1, h2, rfl⟩
    unfold ndL
    rw [List.mem_filterMap]
    exact ⟨i, by simpa using h1, by unfold ndEnt; rw [if_pos h2]⟩
theorem cnt_iff {xs : List Int} {wide : Int} (hw : 1 ≤ wide) : (∀ i (h : i < xs.length), (cntE xs xs[i] : Int) ≤ wide) ↔ ∀ q (h : q < xs.length), (cntE (xs.take q) xs[q] : Int) < wide := by
  constructor
  · intro h q hq
    have h1 := h q hq
    have h2 := cntE_snoc xs[q] hq
    rw [if_pos rfl] at h2
    have h3 := cntE_take xs xs[q] (q + 1) (by omega)
    omega
  · intro h i hi
    have key : ∀ k, k ≤ xs.length → (cntE (xs.take k) xs[i] : Int) ≤ wide := by
      intro k
      induction k with
      | zero => intro _; rw [List.take_zero]; show ((0 : Nat) : Int) ≤ wide; omega
      | succ k ih =>
        intro hk
        rw [cntE_snoc xs[i] (by omega)]
        have h1 := ih (by omega)
        by_cases e : xs[k] = xs[i]
        · rw [if_pos e]
          have := h k (by omega)
          rw [e] at this
          omega
        · rw [if_neg e]; simpa using h1
    have := key xs.length (Nat.le_refl _)
    rwa [List.take_length] at this
theorem ms_eq {cs : List In} {wide : Int} {xs : List Int} (hl : xs.length = cs.length) (ha : allIn xs 0 100 = true) (hw : 1 ≤ wide) : msP cs wide xs cs.length = scP cs wide xs cs.length := by
  have hin : ∀ q, q < cs.length → ∀ (h : q < xs.length), xs.getD q 0 = xs[q] ∧ 0 ≤ xs[q] ∧ xs[q] ≤ 100 := fun q hq h => ⟨by rw [List.getD_eq_getElem?_getD, List.getElem?_eq_getElem h]; rfl, allIn_at ha h⟩
  rw [Bool.eq_iff_iff]
  unfold msP scP
  rw [List.all_eq_true, List.all_eq_true]
  simp only [List.mem_range]
  have hc := cnt_iff (xs := xs) hw
  constructor
  · intro h q hq
    have hq' : q < xs.length := by omega
    obtain ⟨e, h0, h1⟩ := hin q hq hq'
    unfold scB
    rw [Bool.and_eq_true, Bool.and_eq_true, inR_iff, decide_eq_true_eq, decide_eq_true_eq, lcF_le]
    refine ⟨⟨by omega, by omega, fun d hd => ?_⟩, ?_⟩
    · obtain ⟨i, hi, hdT, rfl⟩ := mem_ndL_iff.1 hd
      have h2 := h i hi
      unfold msB mdP at h2
      rw [Bool.and_eq_true, List.all_eq_true] at h2
      have h3 := h2.1 q (by simpa using hq)
      unfold mdB at h3
      rw [decide_eq_true hdT] at h3
      simpa using h3
    · rw [e]
      refine hc.1 (fun i hi => ?_) q hq'
      have h2 := h i (by omega)
      unfold msB at h2
      rw [Bool.and_eq_true, decide_eq_true_eq, (hin i (by omega) hi).1] at h2
      exact h2.2
  · intro h i hi
    have hi' : i < xs.length := by omega
    unfold msB mdP
    rw [Bool.and_eq_true, List.all_eq_true, decide_eq_true_eq]
    refine ⟨fun j hj => ?_, ?_⟩
    · have hj : j < cs.length := by simpa using hj
      have h2 := h j hj
      unfold scB at h2
      rw [Bool.and_eq_true, Bool.and_eq_true, decide_eq_true_eq, lcF_le] at h2
      unfold mdB
      by_cases hd : 0 ≤ dT cs i j
      · have h3 := h2.1.2.2 _ (mem_ndL_iff.2 ⟨i, hi, hd, rfl⟩)
        simp only [Int.toNat_natCast] at h3
        rw [decide_eq_true h3]; simp
      · rw [decide_eq_false hd]; rfl
    · rw [(hin i hi hi').1]
      refine hc.2 (fun q hq => ?_) i hi'
      have h2 := h q (by omega)
      unfold scB at h2
      rw [Bool.and_eq_true, decide_eq_true_eq, (hin q (by omega) hq).1] at h2
      exact h2.2
theorem sc_out {cs : List In} {wide : Int} {xs : List Int} (hl : xs.length = cs.length) (ha : allIn xs 0 100 = false) : scP cs wide xs cs.length = false := by
  cases h : scP cs wide xs cs.length
  · rfl
  · have h4 : allIn xs 0 100 = true := by
      unfold allIn; rw [List.all_eq_true]
      intro x hx
      rw [inR_iff]
      obtain ⟨q, hq, rfl⟩ := List.mem_iff_getElem.1 hx
      have := scP_in h (q := q) (by omega)
      rwa [List.getD_eq_getElem?_getD, List.getElem?_eq_getElem hq, Option.getD_some] at this
    rw [ha] at h4; cases h4
end Go.Proofs.Ytpgdccfpegdcoaa

/- Chapter 9: IsSchedule of the program. -/
namespace Go.Proofs.Ytpgdccfpegdcoaa
open Go.RowKit
set_option linter.unusedVariables false
set_option maxRecDepth 100000

def schK (cs : List In) (wide : Int) (xs : List Int) : Bool := orGood cs && inR wide 1 3 && (xs.length == cs.length)
def schB (cs : List In) (wide : Int) (xs : List Int) : Bool := schK cs wide xs && scP cs wide xs cs.length
theorem schK_no1 {cs : List In} (wide : Int) (xs : List Int) (h : orGood cs = false) : schK cs wide xs = false := by unfold schK; rw [h]; rfl
theorem schK_no2 (cs : List In) {wide : Int} (xs : List Int) (h : inR wide 1 3 = false) : schK cs wide xs = false := by unfold schK; rw [h]; simp
theorem schK_no3 {cs : List In} (wide : Int) {xs : List Int} (h : xs.length ≠ cs.length) : schK cs wide xs = false := by unfold schK; rw [beq_eq_false_iff_ne.2 h]; simp
theorem schK_yes {cs : List In} {wide : Int} {xs : List Int} (h : orGood cs = true) (h2 : inR wide 1 3 = true) (h3 : xs.length = cs.length) : schK cs wide xs = true := by unfold schK; rw [h, h2, beq_iff_eq.2 h3]; rfl
theorem schB_no {cs : List In} {wide : Int} {xs : List Int} (h : schK cs wide xs = false) : schB cs wide xs = false := by unfold schB; rw [h]; rfl
theorem schB_yes {cs : List In} {wide : Int} {xs : List Int} (h : schK cs wide xs = true) : schB cs wide xs = scP cs wide xs cs.length := by unfold schB; rw [h]; rfl
theorem sc_ok {cs : List In} {wide : Int} {xs : List Int} {k : Nat} (hl : xs.length = cs.length) (hk : k < cs.length) (h : scP cs wide xs k = true) : NdOk xs (ndL cs k cs.length) := by
  intro d hd
  obtain ⟨i, h1, h2, h3, rfl⟩ := mem_ndL hd
  have h4 := dT_bd cs i k
  have h6 := scP_in h h1
  refine ⟨⟨by simp, by simp; omega⟩, ⟨h3, h4.2⟩, ?_⟩
  simp only [Int.toNat_natCast]
  omega

set_option maxHeartbeats 8000000 in
theorem iIsSchedule_k (L B : Nat) (A : Option Addr) (c : Nat) (cs : List In) (wide : Int) (L' B' : Nat) (A' : Option Addr) (c' : Nat) (xs : List Int) (w : World) (hl : cs.length ≤ 1048576) (hes : RS In.enc 5 w L B A cs) (hB : B ≤ w.heap.size) (hcap : cs.length ≤ c) (hn : xs.length ≤ 1048576) (hns : IS w L' B' A' xs) (hB' : B' ≤ w.heap.size) (hcap' : xs.length ≤ c') :
    Calls Try.prog 49 #[.slice A cs.length c, .int .i64 wide, .slice A' xs.length c'] w (ResIsSchedule (schB cs wide xs) (schK cs wide xs) w) := by
  cases hg : orGood cs
  · have H := Lib.hid (planOf_no L B A c cs w hg hl hes hB hcap)
    have hK := Lib.hid (schK_no1 wide xs hg)
    have hR := Lib.hid (schB_no hK.out)
    clear hg hes hns
    generalize schB cs wide xs = R at *
    generalize schK cs wide xs = K at *
    go_enter Try.func49, Try.ntmps49
    go_wp2_with (fail)
    refine H.out.mono ?_
    rintro e w1 ⟨rfl, hb1⟩
    have hB1 := Lib.hid (hb1.alloc hb1.size (.cells #[.slice none 0 0, .slice none 0 0] 77))
    clear hb1
    go_wp2
    go_ret2
    rw [hR.out, hK.out]
    exact ⟨rfl, hB1.out⟩
  have H := Lib.hid (planOf_yes L B A c cs w hg hl hes hB hcap)
  have HW := Lib.hid (isWide_any wide)
  cases hw : inR wide 1 3
  · have hK := Lib.hid (schK_no2 cs xs hw)
    have hR := Lib.hid (schB_no hK.out)
    rw [hw] at HW
    clear hg hes hns hw
    generalize schB cs wide xs = R at *
    generalize schK cs wide xs = K at *
    go_enter Try.func49, Try.ntmps49
    go_wp2_with (fail)
    refine H.out.mono ?_
    rintro e w1 ⟨An, cn, rfl, hpn, hb1⟩
    have hB1 := Lib.hid (hb1.alloc hb1.size (.cells #[.slice A cs.length c, .slice An cs.length cn] 77))
    clear hb1 hpn
    go_wp2_with (fail)
    refine (HW.out _).mono ?_
    rintro e w2 ⟨rfl, rfl⟩
    go_wp2
    go_ret2
    rw [hR.out, hK.out]
    exact ⟨rfl, hB1.out⟩
  rw [hw] at HW
  by_cases hlen : xs.length = cs.length
  · have hK := Lib.hid (schK_yes hg hw hlen)
    have hR := Lib.hid (schB_yes hK.out)
    have h20 := (orGood_parts hg).1
    have hwi := (inR_iff _ _ _).1 hw
    have e1 : ((xs.length : Int) != (cs.length : Int)) = false := by simp; omega
    have hSs := Lib.hid (scP_succ cs wide xs)
    have hSf := Lib.hid fun (k : Nat) (hk : k ≤ cs.length) (h : scP cs wide xs k = false) => scP_false h hk
    have hSo := Lib.hid fun (k : Nat) (hk : k < cs.length) (h : scP cs wide xs k = true) => sc_ok hlen hk h
    have hSb : Hid (∀ q, scB cs wide xs q = (inR (xs.getD q 0) 0 100 && decide (lcF xs (ndL cs q cs.length) ≤ xs.getD q 0) && decide ((cntE (xs.take q) (xs.getD q 0) : Int) < wide))) := fun q => rfl
    have hS0 : Hid (scP cs wide xs 0 = true) := rfl
    have hIS := Lib.hid fun (W : World) (hW : Below w.heap.size w W) => hns.below hW hB'
    have hBB := Lib.hid hB'
    have hLc := Lib.hid fun (An : Option Addr) (cn k : Nat) (W : World) (hk : k < cs.length) (hok : NdOk xs (ndL cs k cs.length)) (L1 B1 : Nat) (hp : PN W L1 B1 An (nds cs)) (hB1 : B1 ≤ W.heap.size) (hx : IS W L' B' A' xs) (hBx : B' ≤ W.heap.size) => (show Calls Try.prog 101 #[.agg #[.slice A cs.length c, .slice An cs.length cn], .int .i64 k, .slice A' xs.length c'] W (fun e w' => e = .returned (.int .i64 (lcF xs (ndL cs k cs.length))) ∧ Below W.heap.size W w') from by
      have h := leastCycle_any A cs.length c L1 B1 An cn (nds cs) k L' B' A' c' xs W (by rw [nds_len]; exact hk) (by rw [nds_at]; exact Nat.le_trans (ndL_len _ _ _) (by omega)) (by rw [nds_at]; exact hok) hp hB1 hx hBx
      rw [nds_at, nds_len] at h
      exact h)
    have hLen := Lib.hid hlen
    clear hg hes hns hw
    generalize schB cs wide xs = R at *
    generalize schK cs wide xs = K at *
    generalize scP cs wide xs = P at *
    have hcl : xs.length ≤ 20 := by omega
    clear hlen
    go_enter Try.func49, Try.ntmps49
    go_wp2_with (fail)
    refine H.out.mono ?_
    rintro e w1 ⟨An, cn, rfl, hpn, hb1⟩
    obtain ⟨g1, hg1⟩ : ∃ g1, g1 = w1.heap.size := ⟨_, rfl⟩
    have a1 := (Below.refl w1.heap.size w1).alloc (Nat.le_refl _) (.cells #[.slice A cs.length c, .slice An cs.length cn] 77)
    have hB1 := Lib.hid (hb1.trans (a1.mono hb1.size))
    have hP1 := Lib.hid (PB.new w1 (.slice A cs.length c) (.slice An cs.length cn))
    have hN1 := Lib.hid (hpn.below a1 (Nat.le_refl _))
    have hz1 : w1.heap.size < (w1.alloc (.cells #[.slice A cs.length c, .slice An cs.length cn] 77)).heap.size := by simp
    clear a1 hb1 hpn
    go_wp2_with (fail)
    refine (HW.out _).mono ?_
    rintro e w2 ⟨rfl, rfl⟩
    go_wp2_with (fail)
    rw [← hg1] at hP1 hN1 hz1 ⊢
    have hG1 := Lib.hid hg1
    clear hg1
    generalize w1.alloc (.cells #[.slice A cs.length c, .slice An cs.length cn] 77) = W1 at *
    go_loopw [33] (fun q wr => ∃ k : Nat, k ≤ xs.length ∧ q = .int .i64 k ∧ P k = true ∧ Below W1.heap.size W1 wr) (fun q _ => xs.length - (intOf q).toNat)
    case atStart => exact ⟨0, Nat.zero_le _, rfl, hS0.out, Below.refl _ _⟩
    case round =>
      obtain ⟨k, hk, rfl, hpk, hbel⟩ := hrel
      have hPk := Lib.hid hpk
      have hBL := Lib.hid hbel
      clear hbel hpk
      by_cases hlt : k < xs.length
      · have hki : (k : Int) < (xs.length : Int) := by omega
        have hkc : (k : Int) ≤ (c' : Int) := by omega
        have hk0 : (0 : Int) ≤ (k : Int) := by omega
        have hkn : k < cs.length := by have := hLen.out; omega
        have hbw := Lib.hid (hB1.out.trans (hBL.out.mono hB1.out.size))
        have hisw := hIS.out wr hbw.out
        have hC := Lib.hid (hLc.out An cn k wr hkn (hSo.out k hkn hPk.out) w.heap.size g1 (hN1.out.below hBL.out (Nat.le_of_lt hz1)) (Nat.le_trans (Nat.le_of_lt hz1) hBL.out.size) hisw (Nat.le_trans hBB.out hbw.out.size))
        obtain ⟨xb, xo, rfl, _, hxc⟩ := hisw (by omega)
        have x0 := hxc k hlt
        have hisT := Lib.hid fun (W : World) (hW : Below w.heap.size w W) => (hIS.out W hW).take k
        have hPn := Lib.hid (hSs.out k)
        have hgd : Hid (xs.getD k 0 = xs[k]) := by rw [Hid, List.getD_eq_getElem?_getD, List.getElem?_eq_getElem hlt]; rfl
        have hsb := hSb.out k
        rw [hgd.out] at hsb
        have hsb := Lib.hid hsb
        have hFn := Lib.hid (hSf.out (k + 1) hkn)
        have p0 := PB.c0 (CB.below hP1.out hBL.out hz1)
        have p1 := PB.c1 (CB.below hP1.out hBL.out hz1)
        have htl : (xs.take k).length = k := by rw [List.length_take]; omega
        clear hxc hgd hisw
        generalize xs[k] = x at *
        generalize hps : P (k + 1) = pk1 at *
        have hPs1 := Lib.hid hps
        clear hps
        generalize scB cs wide xs k = st at *
        generalize lcF xs (ndL cs k cs.length) = lc at *
        have hNC := Lib.hid fun (W : World) => isNoCycle_any x W
        cases hr : inR x 0 100
        · rw [hr] at hNC hsb
          have hF : Hid (P cs.length = false) := hFn.out (by rw [hPn.out, hsb.out]; simp)
          clear hr
          go_wp2_with (fail)
          refine (hNC.out _).mono ?_
          rintro e w3 ⟨rfl, rfl⟩
          go_wp2
          go_ret2
          rw [hR.out, hK.out, hF.out]
          exact ⟨rfl, hbw.out⟩
        · rw [hr, Bool.true_and] at hsb
          rw [hr] at hNC
          clear hr
          by_cases hle : lc ≤ x
          · have hnl : ¬ x < lc := by omega
            rw [decide_eq_true hle, Bool.true_and] at hsb
            have hd1 : decide (x < lc) = false := decide_eq_false hnl
            clear hle hnl
            have hHr := Lib.hid fun (W : World) (hW : Below w.heap.size w W) => hasRoom_any L' B' (some ⟨xb, xo, none⟩) k c' (xs.take k) x wide W htl.symm (by rw [htl]; omega) (by omega) (hisT.out W hW)
            have hsb2 := hsb.out
            generalize decide ((cntE (xs.take k) x : Int) < wide) = hb at *
            clear hsb
            have hsb := Lib.hid hsb2
            clear hsb2
            cases hb
            · have hF : Hid (P cs.length = false) := hFn.out (by rw [hPn.out, hsb.out]; simp)
              go_wp2_with (fail)
              refine (hNC.out _).mono ?_
              rintro e w3 ⟨rfl, rfl⟩
              go_wp2_with (fail)
              refine hC.out.mono ?_
              rintro e w3 ⟨rfl, hb3⟩
              have hfin := Lib.hid (hbw.out.trans (hb3.mono hbw.out.size))
              clear hb3 p0 p1
              go_wp2_with (fail)
              refine (hHr.out _ hfin.out).mono ?_
              rintro e w4 ⟨rfl, rfl⟩
              go_wp2
              go_ret2
              rw [hR.out, hK.out, hF.out]
              exact ⟨rfl, hfin.out⟩
            · have hT : Hid (pk1 = true) := by rw [Hid, hPn.out, hsb.out, hPk.out]; rfl
              go_wp2_with (fail)
              refine (hNC.out _).mono ?_
              rintro e w3 ⟨rfl, rfl⟩
              go_wp2_with (fail)
              refine hC.out.mono ?_
              rintro e w3 ⟨rfl, hb3⟩
              have hfin := Lib.hid (hbw.out.trans (hb3.mono hbw.out.size))
              have hfin2 := Lib.hid (hBL.out.trans (hb3.mono hBL.out.size))
              clear hb3 p0 p1
              go_wp2_with (fail)
              refine (hHr.out _ hfin.out).mono ?_
              rintro e w4 ⟨rfl, rfl⟩
              go_wp2
              go_roundw
              case rel => exact ⟨k + 1, by omega, by go_num, by rw [hPs1.out]; exact hT.out, hfin2.out⟩
              case measure => simp [intOf]; omega
          · have hd1 : decide (x < lc) = true := decide_eq_true (by omega)
            rw [decide_eq_false hle] at hsb
            have hF : Hid (P cs.length = false) := hFn.out (by rw [hPn.out, hsb.out]; simp)
            clear hle
            go_wp2_with (fail)
            refine (hNC.out _).mono ?_
            rintro e w3 ⟨rfl, rfl⟩
            go_wp2_with (fail)
            refine hC.out.mono ?_
            rintro e w3 ⟨rfl, hb3⟩
            have hfin := Lib.hid (hbw.out.trans (hb3.mono hbw.out.size))
            clear hb3 p0 p1
            go_wp2
            go_ret2
            rw [hR.out, hK.out, hF.out]
            exact ⟨rfl, hfin.out⟩
      · obtain rfl : k = xs.length := by omega
        have hfin := Lib.hid (hB1.out.trans (hBL.out.mono hB1.out.size))
        have hPn := hPk.out
        rw [hLen.out] at hPn
        have hPn := Lib.hid hPn
        go_wp2
        go_ret2
        rw [hR.out, hK.out, hPn.out]
        exact ⟨rfl, hfin.out⟩
  · have hK := Lib.hid (schK_no3 wide hlen)
    have hR := Lib.hid (schB_no hK.out)
    have e1 : ((xs.length : Int) != (cs.length : Int)) = true := by simp; omega
    clear hg hes hns hw hlen
    generalize schB cs wide xs = R at *
    generalize schK cs wide xs = K at *
    go_enter Try.func49, Try.ntmps49
    go_wp2_with (fail)
    refine H.out.mono ?_
    rintro e w1 ⟨An, cn, rfl, hpn, hb1⟩
    have hB1 := Lib.hid (hb1.alloc hb1.size (.cells #[.slice A cs.length c, .slice An cs.length cn] 77))
    clear hb1 hpn
    go_wp2_with (fail)
    refine (HW.out _).mono ?_
    rintro e w2 ⟨rfl, rfl⟩
    go_wp2
    go_ret2
    rw [hR.out, hK.out]
    exact ⟨rfl, hB1.out⟩
end Go.Proofs.Ytpgdccfpegdcoaa

/- Chapter 9: IsSchedule of the model. -/
namespace Go.Proofs.Ytpgdccfpegdcoaa
open Go.RowKit
set_option linter.unusedVariables false
set_option maxRecDepth 100000

set_option maxHeartbeats 8000000 in
theorem orSchedule_any (L B : Nat) (A : Option Addr) (c : Nat) (cs : List In) (wide : Int) (L' B' : Nat) (A' : Option Addr) (c' : Nat) (xs : List Int) (w : World) (hl : cs.length ≤ 20) (hgood : ∀ x ∈ cs, goodIn x = true) (hw : 1 ≤ wide ∧ wide ≤ 3) (hes : RS In.enc 5 w L B A cs) (hB : B ≤ w.heap.size) (hlen : xs.length = cs.length) (hns : IS w L' B' A' xs) (hB' : B' ≤ w.heap.size) :
    Calls Try.prog 98 #[.slice A cs.length c, .int .i64 wide, .slice A' xs.length c'] w fun e w' => e = .returned (.bool (scP cs wide xs cs.length)) ∧ Below w.heap.size w w' := by
  have hAll := Lib.hid (l1All_any L' B' A' c' xs 0 100 w (by omega) hns)
  have e1 : ((xs.length : Int) != (cs.length : Int)) = false := by simp; omega
  have b0 := Lib.hid (Below.refl w.heap.size w)
  cases ha : allIn xs 0 100
  · have hF := Lib.hid (sc_out (wide := wide) hlen ha)
    rw [ha] at hAll
    clear ha hes hns hgood hlen
    generalize scP cs wide xs cs.length = O at *
    go_enter Try.func98, Try.ntmps98
    go_wp2_with (fail)
    refine hAll.out.mono ?_
    rintro e w3 ⟨rfl, rfl⟩
    go_wp2
    go_ret
    exact ⟨by rw [hF.out]; rfl, b0.out⟩
  · have hO := Lib.hid (ms_eq (wide := wide) hlen ha hw.1)
    have H := Lib.hid (orDelays_any L B A c cs w hl hgood hes hB)
    have hIn := Lib.hid fun (k : Nat) (h : k < xs.length) => allIn_at ha h
    have hGd : Hid (∀ k (h : k < xs.length), xs.getD k 0 = xs[k]) := fun k h => by rw [List.getD_eq_getElem?_getD, List.getElem?_eq_getElem h]; rfl
    have hMs := Lib.hid (msP_succ cs wide xs)
    have hMf := Lib.hid fun (k : Nat) (hk : k ≤ cs.length) (h : msP cs wide xs k = false) => msP_false h hk
    have hM0 : Hid (msP cs wide xs 0 = true) := rfl
    have hMb : Hid (∀ i, msB cs wide xs i = (mdP cs xs i cs.length && decide ((cntE xs (xs.getD i 0) : Int) ≤ wide))) := fun _ => rfl
    have hDs := Lib.hid (mdP_succ cs xs)
    have hDf := Lib.hid fun (i k : Nat) (hk : k ≤ cs.length) (h : mdP cs xs i k = false) => mdP_false h hk
    have hD0 : Hid (∀ i, mdP cs xs i 0 = true) := fun _ => rfl
    have hDb : Hid (∀ i j, mdB cs xs i j = (!decide (0 ≤ dT cs i j) || decide (xs.getD i 0 + dT cs i j ≤ xs.getD j 0))) := fun _ _ => rfl
    have hCs := Lib.hid fun (k : Nat) (c : Int) (h : k < xs.length) => cntE_snoc c h
    have hCl := Lib.hid fun (k : Nat) (c : Int) => cntE_le (xs.take k) c
    have hdb := Lib.hid (dT_bd cs)
    have hRl := Lib.hid (dRows_len cs cs.length)
    have hRa := Lib.hid fun (i : Nat) (h : i < (dRows cs cs.length).length) => dRows_at cs cs.length h
    have hTl := Lib.hid (dTab_len cs)
    have hTa := Lib.hid fun (i j : Nat) (h : j < (dTab cs i cs.length).length) => dTab_at cs i cs.length h
    have hIS := Lib.hid fun (W : World) (hW : Below w.heap.size w W) => hns.below hW hB'
    have hLen := Lib.hid hlen
    rw [ha] at hAll
    clear ha hes hns hgood hlen hB hB'
    generalize scP cs wide xs cs.length = O at *
    generalize msP cs wide xs = MP at *
    generalize mdP cs xs = DP at *
    generalize dRows cs cs.length = TT at *
    generalize dTab cs = T at *
    generalize dT cs = E at *
    go_enter Try.func98, Try.ntmps98
    go_wp2_with (fail)
    refine hAll.out.mono ?_
    rintro e w3 ⟨rfl, rfl⟩
    go_wp2_with (fail)
    refine H.out.mono ?_
    rintro e w1 ⟨At, ct, rfl, hox, hb1⟩
    have hXT := Lib.hid (OX.rs hox)
    have hB1 := Lib.hid hb1
    clear hox hb1
    rw [hRl.out]
    go_wp2
    go_loopw [25] (fun q wr => ∃ i : Nat, i ≤ cs.length ∧ q = .int .i64 i ∧ MP i = true ∧ Below w1.heap.size w1 wr) (fun q _ => cs.length - (intOf q).toNat)
    case atStart => exact ⟨0, Nat.zero_le _, rfl, hM0.out, Below.refl _ _⟩
    case round =>
      obtain ⟨i, hi, rfl, hpi, hbel⟩ := hrel
      have hPi := Lib.hid hpi
      have hBL := Lib.hid hbel
      clear hpi hbel
      by_cases hlt : i < cs.length
      · have hii : (i : Int) < (cs.length : Int) := by omega
        have hix : (i : Int) < (xs.length : Int) := by have := hLen.out; omega
        have hi0 : (0 : Int) ≤ (i : Int) := by omega
        have hixn : i < xs.length := by have := hLen.out; omega
        obtain ⟨xb, xo, Ai, ci, rfl, hxb, xc0, hI⟩ := XS.at hXT.out (show i < TT.length by rw [hRl.out]; omega)
        have xc := (hBL.out.cell (p := ⟨xb, xo + i, none⟩) hxb).trans xc0
        rw [hRa.out i (by rw [hRl.out]; omega)] at xc hI
        rw [hTl.out] at xc
        have hII := Lib.hid hI
        have hMn := Lib.hid (hMs.out i)
        have hMfi := Lib.hid (hMf.out (i + 1) hlt)
        have hMbi := Lib.hid (hMb.out i)
        clear hI xc0
        generalize hms : MP (i + 1) = m1 at *
        have hMs1 := Lib.hid hms
        clear hms
        generalize msB cs wide xs i = sb at *
        have hgi := Lib.hid (hGd.out i hixn)
        have hini := hIn.out i hixn
        rw [← hgi.out] at hini
        go_wp2
        clear xc
        go_loopw [9, 32] (fun v q wq => ∃ m : Nat, m ≤ cs.length ∧ q = .int .i64 m ∧ v = .int .i64 (cntE (xs.take m) (xs.getD i 0) : Nat) ∧ DP i m = true ∧ Below w1.heap.size w1 wq) (fun _ q _ => cs.length - (intOf q).toNat)
        case atStart => exact ⟨0, Nat.zero_le _, rfl, rfl, hD0.out _, hBL.out⟩
        case round =>
          clear hBL
          obtain ⟨m, hm, rfl, rfl, hdp, hbq⟩ := hrel
          have hDp := Lib.hid hdp
          have hBq := Lib.hid hbq
          clear hdp hbq
          by_cases hmt : m < cs.length
          · have hmi : (m : Int) < (cs.length : Int) := by omega
            have hmx : (m : Int) < (xs.length : Int) := by have := hLen.out; omega
            have hm0 : (0 : Int) ≤ (m : Int) := by omega
            have hmxn : m < xs.length := by have := hLen.out; omega
            obtain ⟨rb, ro, rfl, ⟨_, hrb⟩, hcc⟩ := (hII.out.below hBq.out (Nat.le_refl _)) (by rw [hTl.out]; omega)
            have rc := hcc m (by rw [hTl.out]; exact hmt)
            rw [hTa.out i m (by rw [hTl.out]; exact hmt)] at rc
            obtain ⟨yb, yo, rfl, _, hyc⟩ := (hIS.out wr (hB1.out.trans (hBq.out.mono hB1.out.size))) (by omega)
            have y0 := hyc i hixn
            have y1 := hyc m hmxn
            rw [← hgi.out] at y0
            rw [← hGd.out m hmxn] at y1
            have hinm := hIn.out m hmxn
            rw [← hGd.out m hmxn] at hinm
            have hDn := Lib.hid (hDs.out i m)
            have hDfi := Lib.hid (hDf.out i (m + 1) hmt)
            have hDbi := hDb.out i m
            have hdi := hdb.out i m
            have hcs := hCs.out m (xs.getD i 0) hmxn
            rw [← hGd.out m hmxn] at hcs
            have hcl := hCl.out m (xs.getD i 0)
            rw [List.length_take] at hcl
            clear hcc hyc
            generalize hdd : DP i (m + 1) = d1 at *
            have hDd1 := Lib.hid hdd
            clear hdd
            generalize hnn : cntE (xs.take (m + 1)) (xs.getD i 0) = n1 at *
            have hN1 := Lib.hid hnn
            clear hnn
            generalize cntE (xs.take m) (xs.getD i 0) = n at *
            generalize mdB cs xs i m = db at *
            generalize E i m = dd at *
            generalize xs.getD i 0 = yi at *
            generalize xs.getD m 0 = ym at *
            have hBd := Lib.hid hBq.out
            have hw9 : IntKind.i64.wrap (yi + dd) = yi + dd := IntWalk.i64_in _ (by omega)
            have hn20 : (n : Int) + 1 ≤ 100 := by omega
            by_cases he : ym = yi
            · have he' : (ym == yi) = true := by simpa using he
              have hn2 : Hid (n1 = n + 1) := by rw [Hid, hcs, if_pos he]
              clear he
              by_cases hp : 0 ≤ dd
              · have hp1 : decide (0 ≤ dd) = true := decide_eq_true hp
                by_cases hq : yi + dd ≤ ym
                · have hp2 : decide (yi + dd ≤ ym) = true := decide_eq_true hq
                  have hp3 : decide (ym < yi + dd) = false := decide_eq_false (by omega)
                  have hdb : Hid (db = true) := by rw [Hid, hDbi, hp1, hp2]; rfl
                  have hT : Hid (d1 = true) := by rw [Hid, hDn.out, hDp.out, hdb.out]; rfl
                  clear hDbi hcs
                  clear hp2
                  go_wp2_with (fail)
                  go_quiet (fail)
                  go_wp2
                  go_quiet (fail)
                  go_wp2
                  go_roundw
                  case rel => exact ⟨m + 1, by omega, by go_num, by rw [hN1.out, hn2.out]; rfl, by rw [hDd1.out]; exact hT.out, by first | exact below_drewN hBd.out _ | exact below_drewN (below_drewN hBd.out _) _⟩
                  case measure => simp [intOf]; omega
                · have hp2 : decide (yi + dd ≤ ym) = false := decide_eq_false hq
                  have hp3 : decide (ym < yi + dd) = true := decide_eq_true (by omega)
                  have hdb : Hid (db = false) := by rw [Hid, hDbi, hp1, hp2]; rfl
                  have hF : Hid (O = false) := by
                    have h1 : DP i cs.length = false := hDfi.out (by rw [hDn.out, hdb.out]; simp)
                    have h2 : m1 = false := by rw [hMn.out, hMbi.out, h1]; simp
                    rw [Hid, ← hO.out]; exact hMfi.out h2
                  clear hDbi hcs
                  clear hp2
                  go_wp2_with (fail)
                  go_quiet (fail)
                  go_wp2
                  go_quiet (fail)
                  go_wp2
                  go_ret
                  exact ⟨by rw [hF.out]; rfl, by first | exact below_drewN (hB1.out.trans (hBd.out.mono hB1.out.size)) _ | exact below_drewN (below_drewN (hB1.out.trans (hBd.out.mono hB1.out.size)) _) _⟩
              · have hp1 : decide (0 ≤ dd) = false := decide_eq_false hp
                have hdb : Hid (db = true) := by rw [Hid, hDbi, hp1]; rfl
                have hT : Hid (d1 = true) := by rw [Hid, hDn.out, hDp.out, hdb.out]; rfl
                clear hDbi hcs
                go_wp2_with (fail)
                go_quiet (fail)
                go_wp2
                go_quiet (fail)
                go_wp2
                go_roundw
                case rel => exact ⟨m + 1, by omega, by go_num, by rw [hN1.out, hn2.out]; rfl, by rw [hDd1.out]; exact hT.out, by first | exact below_drewN hBd.out _ | exact below_drewN (below_drewN hBd.out _) _⟩
                case measure => simp [intOf]; omega
            · have he' : (ym == yi) = false := by simpa using he
              have hn2 : Hid (n1 = n) := by rw [Hid, hcs, if_neg he]; rfl
              clear he
              by_cases hp : 0 ≤ dd
              · have hp1 : decide (0 ≤ dd) = true := decide_eq_true hp
                by_cases hq : yi + dd ≤ ym
                · have hp2 : decide (yi + dd ≤ ym) = true := decide_eq_true hq
                  have hp3 : decide (ym < yi + dd) = false := decide_eq_false (by omega)
                  have hdb : Hid (db = true) := by rw [Hid, hDbi, hp1, hp2]; rfl
                  have hT : Hid (d1 = true) := by rw [Hid, hDn.out, hDp.out, hdb.out]; rfl
                  clear hDbi hcs
                  clear hp2
                  go_wp2_with (fail)
                  go_quiet (fail)
                  go_wp2
                  go_quiet (fail)
                  go_wp2
                  go_roundw
                  case rel => exact ⟨m + 1, by omega, by go_num, by rw [hN1.out, hn2.out], by rw [hDd1.out]; exact hT.out, by first | exact below_drewN hBd.out _ | exact below_drewN (below_drewN hBd.out _) _⟩
                  case measure => simp [intOf]; omega
                · have hp2 : decide (yi + dd ≤ ym) = false := decide_eq_false hq
                  have hp3 : decide (ym < yi + dd) = true := decide_eq_true (by omega)
                  have hdb : Hid (db = false) := by rw [Hid, hDbi, hp1, hp2]; rfl
                  have hF : Hid (O = false) := by
                    have h1 : DP i cs.length = false := hDfi.out (by rw [hDn.out, hdb.out]; simp)
                    have h2 : m1 = false := by rw [hMn.out, hMbi.out, h1]; simp
                    rw [Hid, ← hO.out]; exact hMfi.out h2
                  clear hDbi hcs
                  clear hp2
                  go_wp2_with (fail)
                  go_quiet (fail)
                  go_wp2
                  go_quiet (fail)
                  go_wp2
                  go_ret
                  exact ⟨by rw [hF.out]; rfl, by first | exact below_drewN (hB1.out.trans (hBd.out.mono hB1.out.size)) _ | exact below_drewN (below_drewN (hB1.out.trans (hBd.out.mono hB1.out.size)) _) _⟩
              · have hp1 : decide (0 ≤ dd) = false := decide_eq_false hp
                have hdb : Hid (db = true) := by rw [Hid, hDbi, hp1]; rfl
                have hT : Hid (d1 = true) := by rw [Hid, hDn.out, hDp.out, hdb.out]; rfl
                clear hDbi hcs
                go_wp2_with (fail)
                go_quiet (fail)
                go_wp2
                go_quiet (fail)
                go_wp2
                go_roundw
                case rel => exact ⟨m + 1, by omega, by go_num, by rw [hN1.out, hn2.out], by rw [hDd1.out]; exact hT.out, by first | exact below_drewN hBd.out _ | exact below_drewN (below_drewN hBd.out _) _⟩
                case measure => simp [intOf]; omega
          · obtain rfl : m = cs.length := by omega
            have hcx : xs.take cs.length = xs := by rw [← hLen.out, List.take_length]
            rw [hcx]
            rw [hDp.out, Bool.true_and] at hMbi
            generalize cntE xs (xs.getD i 0) = n at *
            by_cases hc : (n : Int) ≤ wide
            · have hT : Hid (m1 = true) := by rw [Hid, hMn.out, hMbi.out, hPi.out, decide_eq_true hc]; rfl
              have hd : decide (wide < (n : Int)) = false := decide_eq_false (by omega)
              clear hcx
              go_wp2
              go_roundw
              case rel => exact ⟨i + 1, by omega, by go_num, by rw [hMs1.out]; exact hT.out, hBq.out⟩
              case measure => simp [intOf]; omega
            · have hF : Hid (O = false) := by
                have h2 : m1 = false := by rw [hMn.out, hMbi.out, decide_eq_false hc]; simp
                rw [Hid, ← hO.out]; exact hMfi.out h2
              have hd : decide (wide < (n : Int)) = true := decide_eq_true (by omega)
              clear hcx
              go_wp2
              go_ret
              exact ⟨by rw [hF.out]; rfl, hB1.out.trans (hBq.out.mono hB1.out.size)⟩
      · obtain rfl : i = cs.length := by omega
        go_wp2
        go_ret
        exact ⟨by rw [← hO.out, hPi.out]; rfl, hB1.out.trans (hBL.out.mono hB1.out.size)⟩

set_option maxHeartbeats 4000000 in
theorem sIsSchedule_k (L B : Nat) (A : Option Addr) (c : Nat) (cs : List In) (wide : Int) (L' B' : Nat) (A' : Option Addr) (c' : Nat) (xs : List Int) (w : World) (hl : cs.length ≤ 1048576) (hes : RS In.enc 5 w L B A cs) (hB : B ≤ w.heap.size) (hn : xs.length ≤ 1048576) (hns : IS w L' B' A' xs) (hB' : B' ≤ w.heap.size) :
    Calls Try.prog 48 #[.slice A cs.length c, .int .i64 wide, .slice A' xs.length c'] w (ResIsSchedule (schB cs wide xs) (schK cs wide xs) w) := by
  have H := Lib.hid (orGood_any L B A c cs w hl hes hB)
  cases hg : orGood cs
  · have hK := Lib.hid (schK_no1 wide xs hg)
    have hR := Lib.hid (schB_no hK.out)
    rw [hg] at H
    clear hg hes hns
    generalize schB cs wide xs = R at *
    generalize schK cs wide xs = K at *
    go_enter Try.func48, Try.ntmps48
    go_wp2_with (fail)
    refine H.out.mono ?_
    rintro e w1 ⟨rfl, hb1⟩
    have hB1 := Lib.hid hb1
    clear hb1
    go_wp2
    go_ret2
    rw [hR.out, hK.out]
    exact ⟨rfl, hB1.out⟩
  have HW := Lib.hid (orWide_any wide)
  rw [hg] at H
  cases hw : inR wide 1 3
  · have hK := Lib.hid (schK_no2 cs xs hw)
    have hR := Lib.hid (schB_no hK.out)
    rw [hw] at HW
    clear hg hes hns hw
    generalize schB cs wide xs = R at *
    generalize schK cs wide xs = K at *
    go_enter Try.func48, Try.ntmps48
    go_wp2_with (fail)
    refine H.out.mono ?_
    rintro e w1 ⟨rfl, hb1⟩
    have hB1 := Lib.hid hb1
    clear hb1
    go_wp2_with (fail)
    refine (HW.out _).mono ?_
    rintro e w2 ⟨rfl, rfl⟩
    go_wp2
    go_ret2
    rw [hR.out, hK.out]
    exact ⟨rfl, hB1.out⟩
  rw [hw] at HW
  by_cases hlen : xs.length = cs.length
  · have hK := Lib.hid (schK_yes hg hw hlen)
    have hR := Lib.hid (schB_yes hK.out)
    have hGp := orGood_parts hg
    have hwi := (inR_iff _ _ _).1 hw
    have e1 : ((xs.length : Int) != (cs.length : Int)) = false := by simp; omega
    have HS := Lib.hid fun (W : World) (hW : Below w.heap.size w W) => orSchedule_any L B A c cs wide L' B' A' c' xs W hGp.1 hGp.2 hwi (hes.below hW hB) (Nat.le_trans hB hW.size) hlen (hns.below hW hB') (Nat.le_trans hB' hW.size)
    clear hg hes hns hw hlen hGp hwi
    generalize schB cs wide xs = R at *
    generalize schK cs wide xs = K at *
    generalize scP cs wide xs cs.length = O at *
    go_enter Try.func48, Try.ntmps48
    go_wp2_with (fail)
    refine H.out.mono ?_
    rintro e w1 ⟨rfl, hb1⟩
    have hB1 := Lib.hid hb1
    clear hb1
    go_wp2_with (fail)
    refine (HW.out _).mono ?_
    rintro e w2 ⟨rfl, rfl⟩
    go_wp2_with (fail)
    refine (HS.out _ hB1.out).mono ?_
    rintro e w2 ⟨rfl, hb2⟩
    have hB2 := Lib.hid (hB1.out.trans (hb2.mono hB1.out.size))
    clear hb2
    go_wp2
    go_ret2
    rw [hR.out, hK.out]
    exact ⟨rfl, hB2.out⟩
  · have hK := Lib.hid (schK_no3 wide hlen)
    have hR := Lib.hid (schB_no hK.out)
    have e1 : ((xs.length : Int) != (cs.length : Int)) = true := by simp; omega
    clear hg hes hns hw hlen
    generalize schB cs wide xs = R at *
    generalize schK cs wide xs = K at *
    go_enter Try.func48, Try.ntmps48
    go_wp2_with (fail)
    refine H.out.mono ?_
    rintro e w1 ⟨rfl, hb1⟩
    have hB1 := Lib.hid hb1
    clear hb1
    go_wp2_with (fail)
    refine (HW.out _).mono ?_
    rintro e w2 ⟨rfl, rfl⟩
    go_wp2
    go_ret2
    rw [hR.out, hK.out]
    exact ⟨rfl, hB1.out⟩
end Go.Proofs.Ytpgdccfpegdcoaa

/- Arguments of the types []laws.Instr, laws.Instr and []int opened. -/
namespace Go.Proofs.Ytpgdccfpegdcoaa
open Go.ChangeShapes Go.WideShapes Go.ChangeAt Go.RowKit Go.Deep
open Go.ChangeMaps (open_string shut_string)
set_option linter.unusedVariables false

theorem cellsIn : Try.prog.cellsOf 59 = 5 := by kernel_rfl
theorem cellsStr : Try.prog.cellsOf 9 = 1 := by kernel_rfl
theorem cellsInt : Try.prog.cellsOf 3 = 1 := by kernel_rfl

set_option maxRecDepth 100000 in
theorem in_of_trod {H : Type} {enc : TypeId × Value → H} {w : World} {base : Nat} {spare : Nat → Bool} {held : Bool} {n : Nat} {cs : List Value} {x : DataW H × List MemPlace}
    (h : DataW.trod enc Try.prog w base spare held n 59 cs = some x) : ∃ nd : In, cs = nd.enc ∧ nd.op.size ≤ maxLen := by
  obtain ⟨xs, m, _, _, hlen, hxl, hf⟩ := DataW.trod_struct Try.underlying59 h
  rw [cellsIn] at hlen
  match cs, hlen with
  | [c0, c1, c2, c3, c4], _ =>
    match xs, hxl with
    | [y0, y1, y2, y3, y4], _ =>
      have h0 := hf 0 _ rfl
      change DataW.trod enc Try.prog w base spare held m 9 (([c0, c1, c2, c3, c4].drop 0).take (Try.prog.cellsOf 9)) = _ at h0
      rw [cellsStr] at h0
      have h1 := hf 1 _ rfl
      change DataW.trod enc Try.prog w base spare held m 3 (([c0, c1, c2, c3, c4].drop 1).take (Try.prog.cellsOf 3)) = _ at h1
      rw [cellsInt] at h1
      have h2 := hf 2 _ rfl
      change DataW.trod enc Try.prog w base spare held m 3 (([c0, c1, c2, c3, c4].drop 2).take (Try.prog.cellsOf 3)) = _ at h2
      rw [cellsInt] at h2
      have h3 := hf 3 _ rfl
      change DataW.trod enc Try.prog w base spare held m 3 (([c0, c1, c2, c3, c4].drop 3).take (Try.prog.cellsOf 3)) = _ at h3
      rw [cellsInt] at h3
      have h4 := hf 4 _ rfl
      change DataW.trod enc Try.prog w base spare held m 3 (([c0, c1, c2, c3, c4].drop 4).take (Try.prog.cellsOf 3)) = _ at h4
      rw [cellsInt] at h4
      obtain ⟨s, e0, _, hs⟩ := DataW.trod_string Try.underlying9 h0
      obtain ⟨d, e1, _, _⟩ := DataW.trod_int Try.underlying3 h1
      obtain ⟨a, e2, _, _⟩ := DataW.trod_int Try.underlying3 h2
      obtain ⟨b, e3, _, _⟩ := DataW.trod_int Try.underlying3 h3
      obtain ⟨m, e4, _, _⟩ := DataW.trod_int Try.underlying3 h4
      have e0 : c0 = .string s := by simpa using e0
      have e1 : c1 = .int .i64 d := by simpa using e1
      have e2 : c2 = .int .i64 a := by simpa using e2
      have e3 : c3 = .int .i64 b := by simpa using e3
      have e4 : c4 = .int .i64 m := by simpa using e4
      exact ⟨⟨s, d, a, b, m⟩, by rw [e0, e1, e2, e3, e4]; rfl, hs⟩

theorem cell_lt_heap {w : World} {a : Addr} {v : Value} (h : w.cell? a = some v) : a.block < w.heap.size := by
  rcases Nat.lt_or_ge a.block w.heap.size with hlt | hge
  · exact hlt
  · unfold World.cell? at h; rw [Array.getElem?_eq_none hge] at h; simp at h

set_option maxRecDepth 100000 in
theorem x_of_trod {H : Type} {enc : TypeId × Value → H} {w : World} {r : Reach} {b0 : Nat} {spare : Nat → Bool} {held : Bool} {v : Value} {d : DataW H} {p : List MemPlace}
    (hv : Value.okWide Try.prog w r b0 59 v) (h : DataW.Trod enc Try.prog w 0 spare held 59 v d p) :
    ∃ x : In, v = .agg #[.string x.op, .int .i64 x.d, .int .i64 x.a, .int .i64 x.b, .int .i64 x.m] ∧ x.op.size ≤ 9223372036854775807 := by
  obtain ⟨cs, rfl, hsz⟩ := okWide_struct Try.underlying59 hv
  obtain ⟨fuel, hf⟩ := h
  obtain ⟨x, hx, hs⟩ := in_of_trod hf
  refine ⟨x, ?_, by unfold maxLen at hs; omega⟩
  obtain ⟨l⟩ := cs
  have hx' : l = x.enc := by simpa [Value.cells] using hx
  subst hx'; rfl

set_option maxRecDepth 100000 in
theorem ins_of_trod {H : Type} {enc : TypeId × Value → H} {w : World} {spare : Nat → Bool} {held : Bool} {A : Option Addr} {len cap : Nat} {d : DataW H} {p : List MemPlace}
    (h : DataW.Trod enc Try.prog w 0 spare held 22 (.slice A len cap) d p) :
    ∃ es : List In, es.length = len ∧ RS In.enc 5 w 0 w.heap.size A es ∧ (∀ n ∈ es, n.op.size ≤ 9223372036854775807) ∧ len ≤ 9223372036854775807 := by
  obtain ⟨fuel, hf⟩ := h
  rcases open_slice Try.underlying22 hf with ⟨hcs, _⟩ | ⟨a, l, c, m, n, D, Pl, hcs, _, hl, hm, hmm, _, hi⟩
  · simp [Value.cells] at hcs
    obtain ⟨rfl, rfl, rfl⟩ := hcs
    exact ⟨[], rfl, fun h => absurd h (by simp), (fun n hn => by cases hn), by omega⟩
  · simp [Value.cells] at hcs
    obtain ⟨rfl, rfl, rfl⟩ := hcs
    have hlm : len ≤ m := by rw [hmm]; split <;> omega
    have hex : ∀ i, i < len → ∃ nd : In, (∀ j v, nd.enc[j]? = some v → w.cell? (a.add (i * 5 + j)) = some v) ∧ nd.op.size ≤ maxLen := by
      intro i hil
      obtain ⟨cs', hc, ht⟩ := hi i (by omega)
      rw [cellsIn] at hc
      obtain ⟨nd, rfl, hs⟩ := in_of_trod ht
      obtain ⟨_, _, hat⟩ := World.cells?_some hc
      refine ⟨nd, fun j v hv => ?_, hs⟩
      have hj : j < 5 := kflat_lt In.hk hv
      have := hat j hj
      rw [add_add, hv] at this; exact this
    obtain ⟨f, hf2⟩ := Classical.axiomOfChoice (fun i : {i // i < len} => hex i.1 i.2)
    have hget : ∀ i (h : i < (List.ofFn fun i : Fin len => f ⟨i.1, i.2⟩).length), (List.ofFn fun i : Fin len => f ⟨i.1, i.2⟩)[i] = f ⟨i, by simpa using h⟩ := fun i h => by simp
    refine ⟨List.ofFn fun i : Fin len => f ⟨i.1, i.2⟩, by simp, ?_, ?_, by unfold maxLen at hm; omega⟩
    · intro hpos
      have hpos' : 0 < len := by simpa using hpos
      have h0 := (hf2 ⟨0, hpos'⟩).1 0 _ rfl
      obtain ⟨b, o, spot⟩ := a
      have hspot : spot = none := by have := World.cell?_spot h0; simpa [Addr.add] using this
      subst hspot
      have hadd : ∀ k, (⟨b, o, none⟩ : Addr).add k = ⟨b, o + k, none⟩ := fun k => by simp [Addr.add]
      refine ⟨b, o, rfl, ⟨Nat.zero_le _, ?_⟩, fun i hi j v hv => ?_⟩
      · rw [hadd] at h0
        exact cell_lt_heap h0
      · have hi' : i < len := by simpa using hi
        rw [hget i hi] at hv
        have := (hf2 ⟨i, hi'⟩).1 j v hv
        simp only [hadd, ← Nat.add_assoc] at this
        exact this
    · intro n hn
      obtain ⟨i, rfl⟩ := List.mem_ofFn.1 hn
      have := (hf2 ⟨i.1, i.2⟩).2
      unfold maxLen at this; omega

set_option maxRecDepth 100000 in
theorem ints_of_trod {H : Type} {enc : TypeId × Value → H} {w : World} {spare : Nat → Bool} {held : Bool} {A : Option Addr} {len cap : Nat} {d : DataW H} {p : List MemPlace}
    (h : DataW.Trod enc Try.prog w 0 spare held 38 (.slice A len cap) d p) :
    ∃ xs : List Int, xs.length = len ∧ IS w 0 w.heap.size A xs ∧ len ≤ 9223372036854775807 := by
  obtain ⟨fuel, hf⟩ := h
  rcases open_slice Try.underlying38 hf with ⟨hcs, _⟩ | ⟨a, l, c, m, n, D, Pl, hcs, _, hl, hm, hmm, _, hi⟩
  · simp [Value.cells] at hcs
    obtain ⟨rfl, rfl, rfl⟩ := hcs
    exact ⟨[], rfl, fun h => absurd h (by simp), by omega⟩
  · simp [Value.cells] at hcs
    obtain ⟨rfl, rfl, rfl⟩ := hcs
    have hlm : len ≤ m := by rw [hmm]; split <;> omega
    have hex : ∀ i, i < len → ∃ x : Int, w.cell? (a.add i) = some (.int .i64 x) := by
      intro i hil
      obtain ⟨cs', hc, ht⟩ := hi i (by omega)
      rw [cellsInt, Nat.mul_one] at hc
      obtain ⟨x, hx, _, _⟩ := DataW.trod_int Try.underlying3 ht
      obtain ⟨_, _, hat⟩ := World.cells?_some hc
      have := hat 0 (by omega)
      rw [add_add, hx] at this
      exact ⟨x, by simpa using this⟩
    obtain ⟨f, hf2⟩ := Classical.axiomOfChoice (fun i : {i // i < len} => hex i.1 i.2)
    have hget : ∀ i (h : i < (List.ofFn fun i : Fin len => f ⟨i.1, i.2⟩).length), (List.ofFn fun i : Fin len => f ⟨i.1, i.2⟩)[i] = f ⟨i, by simpa using h⟩ := fun i h => by simp
    refine ⟨List.ofFn fun i : Fin len => f ⟨i.1, i.2⟩, by simp, ?_, by unfold maxLen at hm; omega⟩
    intro hpos
    have hpos' : 0 < len := by simpa using hpos
    have h0 := hf2 ⟨0, hpos'⟩
    obtain ⟨b, o, spot⟩ := a
    have hspot : spot = none := by have := World.cell?_spot h0; simpa [Addr.add] using this
    subst hspot
    have hadd : ∀ k, (⟨b, o, none⟩ : Addr).add k = ⟨b, o + k, none⟩ := fun k => by simp [Addr.add]
    refine ⟨b, o, rfl, ⟨Nat.zero_le _, ?_⟩, fun i hi => ?_⟩
    · rw [hadd] at h0
      exact cell_lt_heap h0
    · have hi' : i < len := by simpa using hi
      rw [hget i hi]
      have := hf2 ⟨i, hi'⟩
      simp only [hadd] at this
      exact this
end Go.Proofs.Ytpgdccfpegdcoaa
