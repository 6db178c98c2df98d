import Derived.Test.YtcfmfbgnfpgpgaaTJ
import Derived.Test.YtcfmfbgnfpgpgaaK4
import Derived.WalkKit
import Derived.WalkSpells
import Derived.WalkLawsBesides
import Derived.StillTailTactics
import Derived.Deep.QuietTactic
import Derived.BigQuiet
import Derived.Lib.Hide
/- slices' functions over lists of ints; the program's lists of differences and of changing words. -/
namespace Go.Proofs.Ytcfmfbgnfpgpgaa
open Go.RowKit
set_option linter.unusedVariables false
set_option maxRecDepth 100000

theorem leastWord_tells (N L B : Nat) (A : Option Addr) (c : Nat) (xs : List Int) (k : Int) (w : World) (hl : xs.length = 4096) (hx : IS w L B A xs) (hB : B ≤ w.heap.size) (hBN : B ≤ N) (hk : isK k = true) :
    Tells N (fun _ => True) w 114 (.agg #[.slice A 4096 c, .int .i64 k]) (fun x0 x1 => lwI xs k (64 * x0 + x1).toNat) := by
  intro x0 x1 W h0 h1 hb hz _
  refine (leastWord_any L B A c 4096 xs k x0 x1 W rfl hl (hx.below hb hBN) (Nat.le_trans hB hz) hk h0 h1).mono ?_
  rintro e W' ⟨rfl, hb'⟩
  have e1 : (64 * (x0 : Int) + (x1 : Int)).toNat = 64 * x0 + x1 := by omega
  refine ⟨?_, trivial, none, grownBy_of_below hb' none, fun k hk => by cases hk⟩
  show Ending.returned (.int .i64 _) = Ending.returned (.int .i64 (lwI xs k (64 * (x0 : Int) + (x1 : Int)).toNat))
  rw [e1]


set_option maxHeartbeats 1000000 in
theorem indexFunc_isDifference (L B : Nat) (A : Option Addr) (c n : Nat) (xs : List Int) (w : World) (hl : n ≤ 1048576) (hxn : xs.length = n) (hx : IS w L B A xs) :
    Calls Try.prog 72 #[.slice A n c, .func (.func 73) #[] #[]] w fun e w' => e = .returned (.int .i64 (firstI (fun i => xs.getD i 0 != 0) n)) ∧ w = w' := by
  have hX := Lib.hid hx
  have hXN := Lib.hid hxn
  obtain ⟨P, hPd⟩ : ∃ P : Nat → Bool, P = fun i => xs.getD i 0 != 0 := ⟨_, rfl⟩
  rw [← hPd]
  have hPH := Lib.hid hPd
  clear hx hxn hPd
  go_enter Try.func72, Try.ntmps72
  go_wp2
  go_loop [5, 8] (fun _ i => ∃ k : Nat, k ≤ n ∧ i = .int .i64 k ∧ ∀ j, j < k → P j = false) (fun _ i => n - (intOf i).toNat)
  case atStart => exact ⟨0, Nat.zero_le _, rfl, fun j hj => absurd hj (Nat.not_lt_zero _)⟩
  case round =>
    obtain ⟨k, hk, rfl, hh⟩ := hrel
    have hH := Lib.hid hh; clear hh
    by_cases hlt : k < n
    · have hkx : k < xs.length := by rw [hXN.out]; exact hlt
      obtain ⟨b, o, rfl, _, hc⟩ := hX.out (by rw [hXN.out]; omega)
      have c1 := hc k hkx
      have hS : Hid (P k = (xs[k] != 0)) := by unfold Hid; rw [hPH.out]; show (xs.getD k 0 != 0) = _; rw [getD_get hkx]
      clear hc
      generalize hgx : xs[k] = x at *
      clear hgx hkx
      have HC := Lib.hid (isDifference_any x w)
      cases hb : (x != 0)
      · rw [hb] at hS HC
        go_wp2_with (fail)
        refine HC.out.mono ?_
        rintro e w' ⟨rfl, rfl⟩
        go_wp2
        go_round
        case rel => exact ⟨k + 1, by omega, by go_num, fun j hj => by
          by_cases e : j = k
          · rw [e]; exact hS.out
          · exact hH.out j (by omega)⟩
        case measure => simp [intOf]; omega
      · rw [hb] at hS HC
        go_wp2_with (fail)
        refine HC.out.mono ?_
        rintro e w' ⟨rfl, rfl⟩
        go_wp2
        go_ret
        exact ⟨ret_int (by rw [firstI_some hlt hS.out hH.out]), rfl⟩
    · obtain rfl : k = n := by omega
      go_wp2
      go_ret
      exact ⟨ret_int (by rw [firstI_none hH.out]), rfl⟩


set_option maxHeartbeats 1000000 in
theorem indexFunc_isWord (L B : Nat) (A : Option Addr) (c n : Nat) (xs : List Int) (w : World) (hl : n ≤ 1048576) (hxn : xs.length = n) (hx : IS w L B A xs) :
    Calls Try.prog 72 #[.slice A n c, .func (.func 78) #[] #[]] w fun e w' => e = .returned (.int .i64 (firstI (fun i => isW (xs.getD i 0)) n)) ∧ w = w' := by
  have hX := Lib.hid hx
  have hXN := Lib.hid hxn
  obtain ⟨P, hPd⟩ : ∃ P : Nat → Bool, P = fun i => isW (xs.getD i 0) := ⟨_, rfl⟩
  rw [← hPd]
  have hPH := Lib.hid hPd
  clear hx hxn hPd
  go_enter Try.func72, Try.ntmps72
  go_wp2
  go_loop [5, 8] (fun _ i => ∃ k : Nat, k ≤ n ∧ i = .int .i64 k ∧ ∀ j, j < k → P j = false) (fun _ i => n - (intOf i).toNat)
  case atStart => exact ⟨0, Nat.zero_le _, rfl, fun j hj => absurd hj (Nat.not_lt_zero _)⟩
  case round =>
    obtain ⟨k, hk, rfl, hh⟩ := hrel
    have hH := Lib.hid hh; clear hh
    by_cases hlt : k < n
    · have hkx : k < xs.length := by rw [hXN.out]; exact hlt
      obtain ⟨b, o, rfl, _, hc⟩ := hX.out (by rw [hXN.out]; omega)
      have c1 := hc k hkx
      have hS : Hid (P k = (isW xs[k])) := by unfold Hid; rw [hPH.out]; show (isW (xs.getD k 0)) = _; rw [getD_get hkx]
      clear hc
      generalize hgx : xs[k] = x at *
      clear hgx hkx
      have HC := Lib.hid (isWord_any x w)
      cases hb : (isW (x))
      · rw [hb] at hS HC
        go_wp2_with (fail)
        refine HC.out.mono ?_
        rintro e w' ⟨rfl, rfl⟩
        go_wp2
        go_round
        case rel => exact ⟨k + 1, by omega, by go_num, fun j hj => by
          by_cases e : j = k
          · rw [e]; exact hS.out
          · exact hH.out j (by omega)⟩
        case measure => simp [intOf]; omega
      · rw [hb] at hS HC
        go_wp2_with (fail)
        refine HC.out.mono ?_
        rintro e w' ⟨rfl, rfl⟩
        go_wp2
        go_ret
        exact ⟨ret_int (by rw [firstI_some hlt hS.out hH.out]), rfl⟩
    · obtain rfl : k = n := by omega
      go_wp2
      go_ret
      exact ⟨ret_int (by rw [firstI_none hH.out]), rfl⟩


theorem containsFunc_isWord (L B : Nat) (A : Option Addr) (c n : Nat) (xs : List Int) (w : World) (hl : n ≤ 1048576) (hxn : xs.length = n) (hx : IS w L B A xs) :
    Calls Try.prog 82 #[.slice A n c, .func (.func 78) #[] #[]] w fun e w' => e = .returned (.bool (decide (0 ≤ firstI (fun i => isW (xs.getD i 0)) n))) ∧ w = w' := by
  have H := Lib.hid (indexFunc_isWord L B A c n xs w hl hxn hx)
  clear hxn hx
  generalize firstI (fun i => isW (xs.getD i 0)) n = r at *
  go_enter Try.func82, Try.ntmps82
  go_wp2_with (fail)
  refine H.out.mono ?_
  rintro e w' ⟨rfl, rfl⟩
  go_wp2
  go_ret
  exact ⟨ret_bool (by simp), rfl⟩

theorem slMax_any (L B : Nat) (A : Option Addr) (c n : Nat) (xs : List Int) (w : World) (hl : n ≤ 1000000) (hn : 1 ≤ n) (hxn : xs.length = n) (hx : IS w L B A xs) :
    Calls Try.prog 89 #[.slice A n c] w fun e w' => e = .returned (.int .i64 (maxI (fun i => xs.getD i 0) (xs.getD 0 0) n)) ∧ w = w' := by
  have hX := Lib.hid hx
  have hXN := Lib.hid hxn
  have hk0 : 0 < xs.length := by omega
  obtain ⟨b, o, rfl, _, hc⟩ := hx (by omega)
  have c0 := hc 0 hk0
  have hx0 := Lib.hid (getD_get hk0)
  rw [Nat.add_zero] at c0
  clear hc hx hxn
  generalize hgx : xs[0] = x0 at *
  clear hgx hk0
  have hS1 : Hid (maxI (fun i => xs.getD i 0) (xs.getD 0 0) 1 = x0) := by unfold Hid; rw [maxI, maxI, hx0.out]; exact Int.max_self _
  go_enter Try.func89, Try.ntmps89
  go_wp2
  go_loop [3, 4] (fun q i => ∃ k : Nat, k ≤ n ∧ 1 ≤ k ∧ i = .int .i64 k ∧ q = .int .i64 (maxI (fun i => xs.getD i 0) (xs.getD 0 0) k)) (fun _ i => n - (intOf i).toNat)
  case atStart => exact ⟨1, hn, Nat.le_refl _, rfl, by rw [hS1.out]⟩
  case round =>
    obtain ⟨k, hk, hk1, rfl, rfl⟩ := hrel
    by_cases hlt : k < n
    · have hkx : k < xs.length := by rw [hXN.out]; exact hlt
      obtain ⟨b', o', hbe, _, hc⟩ := hX.out (by rw [hXN.out]; omega)
      injection hbe with hbe
      injection hbe with e1 e2 _
      subst e1; subst e2
      have c1 := hc k hkx
      have hS : Hid (maxI (fun i => xs.getD i 0) (xs.getD 0 0) (k + 1) = max (maxI (fun i => xs.getD i 0) (xs.getD 0 0) k) xs[k]) := by unfold Hid; rw [maxI, getD_get hkx]
      clear hc
      generalize hgx : xs[k] = x at *
      clear hgx hkx
      generalize maxI (fun i => xs.getD i 0) (xs.getD 0 0) k = q at *
      go_wp2
      go_round
      case rel => exact ⟨k + 1, by omega, by omega, by go_num, by rw [hS.out]; congr 1 <;> omega⟩
      case measure => simp [intOf]; omega
    · obtain rfl : k = n := by omega
      go_wp2
      go_ret
      exact ⟨rfl, rfl⟩

set_option maxHeartbeats 1000000 in
theorem slEqual_any (L B L' B' : Nat) (A A' : Option Addr) (c c' n : Nat) (xs ys : List Int) (w : World) (hl : n ≤ 1048576) (hxn : xs.length = n) (hyn : ys.length = n) (hx : IS w L B A xs) (hy : IS w L' B' A' ys) (hB : B ≤ w.heap.size) (hB' : B' ≤ w.heap.size) :
    Calls Try.prog 90 #[.slice A n c, .slice A' n c'] w fun e w' => e = .returned (.bool (decide (firstI (neI xs ys) n < 0))) ∧ Below w.heap.size w w' := by
  have hX := Lib.hid hx
  have hY := Lib.hid hy
  have hXN := Lib.hid hxn
  have hYN := Lib.hid hyn
  have hBB := Lib.hid hB
  have hBB' := Lib.hid hB'
  have hBel0 := Below.refl w.heap.size w
  clear hx hy hB hB' hxn hyn
  go_enter Try.func90, Try.ntmps90
  go_wp2
  go_loopw [5, 13] (fun _ i wr => ∃ k : Nat, k ≤ n ∧ i = .int .i64 k ∧ (∀ j, j < k → neI xs ys j = false) ∧ Below w.heap.size w wr) (fun _ i _ => n - (intOf i).toNat)
  case atStart => exact ⟨0, Nat.zero_le _, rfl, fun j hj => absurd hj (Nat.not_lt_zero _), hBel0⟩
  case round =>
    obtain ⟨k, hk, rfl, hh, hbel⟩ := hrel
    have hH := Lib.hid hh; clear hh
    by_cases hlt : k < n
    · have hkx : k < xs.length := by rw [hXN.out]; exact hlt
      have hky : k < ys.length := by rw [hYN.out]; exact hlt
      obtain ⟨b, o, rfl, ⟨_, hbB⟩, hc⟩ := (hX.out.below hbel hBB.out) (by rw [hXN.out]; omega)
      obtain ⟨b', o', rfl, ⟨_, hbB'⟩, hc'⟩ := (hY.out.below hbel hBB'.out) (by rw [hYN.out]; omega)
      have c1 := hc k hkx
      have d1 := hc' k hky
      have hS : Hid (neI xs ys k = (xs[k] != ys[k])) := by unfold Hid neI; rw [getD_get hkx, getD_get hky]
      clear hc hc'
      generalize hgx : xs[k] = x at *
      generalize hgy : ys[k] = y at *
      clear hgx hgy hkx hky
      have hBelB := Lib.hid (hbel.drew)
      have i1 : (k : Int) < (n : Int) := by omega
      have i0 : (0 : Int) ≤ (k : Int) := by omega
      cases hb : (x != y)
      all_goals
        go_wp2_with (fail)
        go_still_tail 8, (by kernel_rfl)
        change wpList _ _ _ _ _ wr.drew
        generalize wr.drew = wd at *
        clear hbel c1 d1
        go_wp2
      · go_roundw
        case rel => exact ⟨k + 1, by omega, by go_num, fun j hj => by
          by_cases e : j = k
          · rw [e, hS.out]; exact hb
          · exact hH.out j (by omega), hBelB.out⟩
        case measure => simp [intOf]; omega
      · go_ret
        refine ⟨ret_bool ?_, hBelB.out⟩
        rw [firstI_some hlt (by rw [hS.out]; exact hb) hH.out]; simp
    · obtain rfl : k = n := by omega
      go_wp2
      go_ret
      exact ⟨ret_bool (by rw [firstI_none hH.out]; rfl), hbel⟩
end Go.Proofs.Ytcfmfbgnfpgpgaa
