import Derived.Test.YtcfmfbgnfpgpgaaTP
import Derived.Test.YtcfmfbgnfpgpgaaLI
import Derived.WalkKit
import Derived.WalkSpells
import Derived.WalkLawsBesides
import Derived.StillTailTactics
import Derived.Deep.QuietTactic
import Derived.BigQuiet
import Derived.Lib.Hide
/- The model's helpers of chapter 3 over tables. -/
namespace Go.Proofs.Ytcfmfbgnfpgpgaa
open Go.RowKit
set_option linter.unusedVariables false
set_option maxRecDepth 100000


set_option maxHeartbeats 1000000 in
theorem eqFirst_any (L B L' B' : Nat) (A A' : Option Addr) (c c' : Nat) (n : Nat) (xs ys : List Int) (w : World) (hl : n ≤ 1048576) (hxn : xs.length = n) (hyn : ys.length = n) (hx : IS w L B A xs) (hy : IS w L' B' A' ys) :
    Calls Try.prog 70 #[.slice A n c, .slice A' n c'] w fun e w' => e = .returned (.int .i64 (firstI (neI xs ys) n)) ∧ w = w' := by
  have hX := Lib.hid hx
  have hY := Lib.hid hy
  have hXN := Lib.hid hxn
  have hYN := Lib.hid hyn
  clear hx hy hxn hyn
  go_enter Try.func70, Try.ntmps70
  go_wp2
  go_loop [5, 9] (fun _ i => ∃ k : Nat, k ≤ n ∧ i = .int .i64 k ∧ ∀ j, j < k → neI xs ys j = false) (fun _ i => n - (intOf i).toNat)
  case atStart => exact ⟨0, Nat.zero_le _, rfl, fun j hj => absurd hj (Nat.not_lt_zero _)⟩
  case round =>
    obtain ⟨k, hk, rfl, hh⟩ := hrel
    have hH := Lib.hid hh; clear hh
    by_cases hlt : k < n
    · have hkx : k < xs.length := by rw [hXN.out]; exact hlt
      have hky : k < ys.length := by rw [hYN.out]; exact hlt
      obtain ⟨b, o, rfl, _, hc⟩ := hX.out (by rw [hXN.out]; omega)
      obtain ⟨b', o', rfl, _, hc'⟩ := hY.out (by rw [hYN.out]; omega)
      have c1 := hc k hkx
      have c2 := hc' k hky
      have hS : Hid (neI xs ys k = (xs[k] != ys[k])) := by unfold Hid neI; rw [getD_get hkx, getD_get hky]
      clear hc hc' 
      generalize hgx : xs[k] = x at *
      generalize hgy : ys[k] = y at *
      clear hgx hgy hkx hky
      cases hb : (x != y)
      · go_wp2
        go_round
        case rel => exact ⟨k + 1, by omega, by go_num, fun j hj => by
          by_cases e : j = k
          · rw [e, hS.out]; exact hb
          · exact hH.out j (by omega)⟩
        case measure => simp [intOf]; omega
      · go_wp2
        go_ret
        exact ⟨by rw [firstI_some hlt (by rw [hS.out]; exact hb) hH.out]; rfl, rfl⟩
    · obtain rfl : k = n := by omega
      go_wp2
      go_ret
      exact ⟨by rw [firstI_none hH.out]; rfl, rfl⟩

set_option maxHeartbeats 1000000 in
theorem eqBits_any (L B L' B' : Nat) (A A' : Option Addr) (c c' : Nat) (n : Nat) (xs ys : List Int) (w : World) (hl : n ≤ 1048576) (hxn : xs.length = n) (hyn : ys.length = n) (hx : IS w L B A xs) (hy : IS w L' B' A' ys) :
    Calls Try.prog 75 #[.slice A n c, .slice A' n c'] w fun e w' => e = .returned (.int .i64 (orI (xorI xs ys) n)) ∧ w = w' := by
  have hX := Lib.hid hx
  have hY := Lib.hid hy
  have hXN := Lib.hid hxn
  have hYN := Lib.hid hyn
  clear hx hy hxn hyn
  go_enter Try.func75, Try.ntmps75
  go_wp2
  go_loop [5, 10] (fun q i => ∃ k : Nat, k ≤ n ∧ i = .int .i64 k ∧ q = .int .i64 (orI (xorI xs ys) k)) (fun _ i => n - (intOf i).toNat)
  case atStart => exact ⟨0, Nat.zero_le _, rfl, rfl⟩
  case round =>
    obtain ⟨k, hk, rfl, rfl⟩ := hrel
    by_cases hlt : k < n
    · have hkx : k < xs.length := by rw [hXN.out]; exact hlt
      have hky : k < ys.length := by rw [hYN.out]; exact hlt
      obtain ⟨b, o, rfl, _, hc⟩ := hX.out (by rw [hXN.out]; omega)
      obtain ⟨b', o', rfl, _, hc'⟩ := hY.out (by rw [hYN.out]; omega)
      have c1 := hc k hkx
      have c2 := hc' k hky
      have hS : Hid (orI (xorI xs ys) (k + 1) = bits .or .i64 (orI (xorI xs ys) k) (bits .xor .i64 xs[k] ys[k])) := by unfold Hid; rw [orI, xorI, getD_get hkx, getD_get hky]
      clear hc hc' 
      generalize hgx : xs[k] = x at *
      generalize hgy : ys[k] = y at *
      clear hgx hgy hkx hky
      generalize orI (xorI xs ys) k = q at *
      go_wp2
      go_round
      case rel => exact ⟨k + 1, by omega, by go_num, by rw [hS.out]⟩
      case measure => simp [intOf]; omega
    · obtain rfl : k = n := by omega
      go_wp2
      go_ret
      exact ⟨rfl, rfl⟩

set_option maxHeartbeats 1000000 in
theorem l1Same_any (L B L' B' : Nat) (A A' : Option Addr) (c c' : Nat) (n : Nat) (xs ys : List Int) (w : World) (hl : n ≤ 1048576) (hxn : xs.length = n) (hyn : ys.length = n) (hx : IS w L B A xs) (hy : IS w L' B' A' ys) (hB : B ≤ w.heap.size) (hB' : B' ≤ w.heap.size) :
    Calls Try.prog 66 #[.slice A n c, .slice A' n c'] w fun e w' => e = .returned (.bool (decide (firstI (neI xs ys) n < 0))) ∧ Below w.heap.size w w' := by
  have hX := Lib.hid hx
  have hY := Lib.hid hy
  have hXN := Lib.hid hxn
  have hYN := Lib.hid hyn
  have hBB := Lib.hid hB
  have hBB' := Lib.hid hB'
  have hBel0 := Below.refl w.heap.size w
  clear hx hy hB hB' hxn hyn
  go_enter Try.func66, Try.ntmps66
  go_wp2
  go_loopw [5, 13] (fun _ i wr => ∃ k : Nat, k ≤ n ∧ i = .int .i64 k ∧ (∀ j, j < k → neI xs ys j = false) ∧ Below w.heap.size w wr) (fun _ i _ => n - (intOf i).toNat)
  case atStart => exact ⟨0, Nat.zero_le _, rfl, fun j hj => absurd hj (Nat.not_lt_zero _), hBel0⟩
  case round =>
    obtain ⟨k, hk, rfl, hh, hbel⟩ := hrel
    have hH := Lib.hid hh; clear hh
    by_cases hlt : k < n
    · have hkx : k < xs.length := by rw [hXN.out]; exact hlt
      have hky : k < ys.length := by rw [hYN.out]; exact hlt
      obtain ⟨b, o, rfl, ⟨_, hbB⟩, hc⟩ := (hX.out.below hbel hBB.out) (by rw [hXN.out]; omega)
      obtain ⟨b', o', rfl, ⟨_, hbB'⟩, hc'⟩ := (hY.out.below hbel hBB'.out) (by rw [hYN.out]; omega)
      have c1 := hc k hkx
      have d1 := hc' k hky
      have hS : Hid (neI xs ys k = (xs[k] != ys[k])) := by unfold Hid neI; rw [getD_get hkx, getD_get hky]
      clear hc hc' 
      generalize hgx : xs[k] = x at *
      generalize hgy : ys[k] = y at *
      clear hgx hgy hkx hky
      have hBelB := Lib.hid (hbel.drew)
      have i1 : (k : Int) < (n : Int) := by omega
      have i0 : (0 : Int) ≤ (k : Int) := by omega
      cases hb : (x != y)
      all_goals
        go_wp2_with (fail)
        go_still_tail 8, (by kernel_rfl)
        change wpList _ _ _ _ _ wr.drew
        generalize wr.drew = wd at *
        clear hbel c1 d1
        go_wp2
      · go_roundw
        case rel => exact ⟨k + 1, by omega, by go_num, fun j hj => by
          by_cases e : j = k
          · rw [e, hS.out]; exact hb
          · exact hH.out j (by omega), hBelB.out⟩
        case measure => simp [intOf]; omega
      · go_ret
        refine ⟨ret_bool ?_, hBelB.out⟩
        rw [firstI_some hlt (by rw [hS.out]; exact hb) hH.out]; simp
    · obtain rfl : k = n := by omega
      go_wp2
      go_ret
      exact ⟨ret_bool (by rw [firstI_none hH.out]; rfl), hbel⟩

theorem l1Least_any (a b : Int) (w : World) : Calls Try.prog 85 #[.int .i64 a, .int .i64 b] w fun e w' => e = .returned (.int .i64 (min a b)) ∧ w = w' := by
  by_cases h : a < b
  all_goals
    go_enter Try.func85, Try.ntmps85
    go_wp2
    go_ret
    exact ⟨ret_int (by omega), rfl⟩
theorem l1Most_any (a b : Int) (w : World) : Calls Try.prog 86 #[.int .i64 a, .int .i64 b] w fun e w' => e = .returned (.int .i64 (max a b)) ∧ w = w' := by
  by_cases h : a > b
  all_goals
    have h' : (b < a) = (a > b) := rfl
    go_enter Try.func86, Try.ntmps86
    go_wp2
    go_ret
    exact ⟨ret_int (by omega), rfl⟩
end Go.Proofs.Ytcfmfbgnfpgpgaa
