import Derived.Test.YtcfmfbgnfpgpgaaTP
import Derived.Test.YtcfmfbgnfpgpgaaLI
import Derived.Test.YtcfmfbgnfpgpgaaA
import Derived.WalkKit
import Derived.WalkSpells
import Derived.WalkLawsBesides
import Derived.StillTailTactics
import Derived.Deep.QuietTactic
import Derived.BigQuiet
import Derived.Lib.Hide
/- The program's helpers of chapter 3 over tables. -/
namespace Go.Proofs.Ytcfmfbgnfpgpgaa
open Go.RowKit
set_option linter.unusedVariables false
set_option maxRecDepth 100000

set_option maxHeartbeats 400000 in
theorem at_any (L B : Nat) (A : Option Addr) (c n : Nat) (xs : List Int) (x0 x1 : Nat) (w : World) (hn : n = 4096) (hl : xs.length = n) (hx : IS w L B A xs) (h0 : x0 < 64) (h1 : x1 < 64) :
    Calls Try.prog 116 #[.slice A n c, .int .i64 x0, .int .i64 x1] w fun e w' => e = .returned (.int .i64 (xs.getD (64 * x0 + x1) 0)) ∧ w = w' := by
  obtain ⟨m, hm⟩ : ∃ m, m = 64 * x0 + x1 := ⟨_, rfl⟩
  have hi : m < xs.length := by omega
  obtain ⟨b, o, rfl, _, hc⟩ := hx (by omega)
  have c1 := hc _ hi
  have hq := Lib.hid (getD_get hi)
  rw [← hm]
  clear hc hx
  generalize xs[m] = x at *
  have hw : (64 : Int) * (x0 : Int) + (x1 : Int) = (m : Int) := by omega
  have hmn : m < n := by omega
  have hw0 : wrap64 (64 * (x0 : Int)) = 64 * (x0 : Int) := by unfold wrap64; omega
  have hw1 : wrap64 (m : Int) = (m : Int) := by unfold wrap64; omega
  clear hl hm hi hn
  go_enter Try.func116, Try.ntmps116
  go_wp2
  go_ret
  exact ⟨ret_int hq.out.symm, rfl⟩

theorem exchanged_any (L B : Nat) (A : Option Addr) (c n : Nat) (xs : List Int) (x0 x1 : Nat) (w : World) (hn : n = 4096) (hl : xs.length = n) (hx : IS w L B A xs) (h0 : x0 < 64) (h1 : x1 < 64) :
    Calls Try.prog 92 #[.slice A n c, .int .i64 x0, .int .i64 x1] w fun e w' => e = .returned (.int .i64 (xs.getD (64 * x1 + x0) 0)) ∧ w = w' := by
  have H := Lib.hid (at_any L B A c n xs x1 x0 w hn hl hx h1 h0)
  clear hl hx hn
  go_enter Try.func92, Try.ntmps92
  go_wp2_with (fail)
  refine H.out.mono ?_
  rintro e w' ⟨rfl, rfl⟩
  go_wp2
  go_ret
  exact ⟨rfl, rfl⟩

theorem isDifference_any (x : Int) (w : World) : Calls Try.prog 73 #[.int .i64 x] w fun e w' => e = .returned (.bool (x != 0)) ∧ w = w' := by
  go_enter Try.func73, Try.ntmps73
  go_wp2
  go_ret
  exact ⟨rfl, rfl⟩

theorem inputsAt_any (k : Nat) (w : World) (hk : k < 4096) : Calls Try.prog 74 #[.int .i64 k] w fun e w' => e = .returned (.tuple #[.int .i64 ((k : Int) / 64), .int .i64 ((k : Int) % 64)]) ∧ w = w' := by
  go_enter Try.func74, Try.ntmps74
  go_wp2
  go_ret2
  have h1 : wrap64 ((k : Int) / 64) = (k : Int) / 64 := by unfold wrap64; omega
  exact ⟨by rw [← h1]; rfl, rfl⟩

theorem bitsOfAny_any (L B : Nat) (A : Option Addr) (c n : Nat) (xs : List Int) (w : World) (hl : n ≤ 1048576) (hxn : xs.length = n) (hx : IS w L B A xs) :
    Calls Try.prog 76 #[.slice A n c] w fun e w' => e = .returned (.int .i64 (orI (fun i => xs.getD i 0) n)) ∧ w = w' := by
  have hX := Lib.hid hx
  have hXN := Lib.hid hxn
  clear hx hxn
  go_enter Try.func76, Try.ntmps76
  go_wp2
  go_loop [3, 8] (fun q i => ∃ k : Nat, k ≤ n ∧ i = .int .i64 k ∧ q = .int .i64 (orI (fun i => xs.getD i 0) k)) (fun _ i => n - (intOf i).toNat)
  case atStart => exact ⟨0, Nat.zero_le _, rfl, rfl⟩
  case round =>
    obtain ⟨k, hk, rfl, rfl⟩ := hrel
    by_cases hlt : k < n
    · have hkx : k < xs.length := by rw [hXN.out]; exact hlt
      obtain ⟨b, o, rfl, _, hc⟩ := hX.out (by rw [hXN.out]; omega)
      have c1 := hc k hkx
      have hS : Hid (orI (fun i => xs.getD i 0) (k + 1) = bits .or .i64 (orI (fun i => xs.getD i 0) k) xs[k]) := by unfold Hid; rw [orI, getD_get hkx]
      clear hc
      generalize hgx : xs[k] = x at *
      clear hgx hkx
      generalize orI (fun i => xs.getD i 0) k = q at *
      go_wp2
      go_round
      case rel => exact ⟨k + 1, by omega, by go_num, by rw [hS.out]⟩
      case measure => simp [intOf]; omega
    · obtain rfl : k = n := by omega
      go_wp2
      go_ret
      exact ⟨rfl, rfl⟩

theorem slMin_any (L B : Nat) (A : Option Addr) (c n : Nat) (xs : List Int) (w : World) (hl : n ≤ 1000000) (hn : 1 ≤ n) (hxn : xs.length = n) (hx : IS w L B A xs) :
    Calls Try.prog 88 #[.slice A n c] w fun e w' => e = .returned (.int .i64 (minI (fun i => xs.getD i 0) (xs.getD 0 0) n)) ∧ w = w' := by
  have hX := Lib.hid hx
  have hXN := Lib.hid hxn
  have hk0 : 0 < xs.length := by omega
  obtain ⟨b, o, rfl, _, hc⟩ := hx (by omega)
  have c0 := hc 0 hk0
  have hx0 := Lib.hid (getD_get hk0)
  rw [Nat.add_zero] at c0
  clear hc hx hxn
  generalize hgx : xs[0] = x0 at *
  clear hgx hk0
  have hS1 : Hid (minI (fun i => xs.getD i 0) (xs.getD 0 0) 1 = x0) := by unfold Hid; rw [minI, minI, hx0.out]; exact Int.min_self _
  go_enter Try.func88, Try.ntmps88
  go_wp2
  go_loop [3, 4] (fun q i => ∃ k : Nat, k ≤ n ∧ 1 ≤ k ∧ i = .int .i64 k ∧ q = .int .i64 (minI (fun i => xs.getD i 0) (xs.getD 0 0) k)) (fun _ i => n - (intOf i).toNat)
  case atStart => exact ⟨1, hn, Nat.le_refl _, rfl, by rw [hS1.out]⟩
  case round =>
    obtain ⟨k, hk, hk1, rfl, rfl⟩ := hrel
    by_cases hlt : k < n
    · have hkx : k < xs.length := by rw [hXN.out]; exact hlt
      obtain ⟨b', o', hbe, _, hc⟩ := hX.out (by rw [hXN.out]; omega)
      injection hbe with hbe
      injection hbe with e1 e2 _
      subst e1; subst e2
      have c1 := hc k hkx
      have hS : Hid (minI (fun i => xs.getD i 0) (xs.getD 0 0) (k + 1) = min (minI (fun i => xs.getD i 0) (xs.getD 0 0) k) xs[k]) := by unfold Hid; rw [minI, getD_get hkx]
      clear hc
      generalize hgx : xs[k] = x at *
      clear hgx hkx
      generalize minI (fun i => xs.getD i 0) (xs.getD 0 0) k = q at *
      go_wp2
      go_round
      case rel => exact ⟨k + 1, by omega, by omega, by go_num, by rw [hS.out]; congr 1 <;> omega⟩
      case measure => simp [intOf]; omega
    · obtain rfl : k = n := by omega
      go_wp2
      go_ret
      exact ⟨rfl, rfl⟩
end Go.Proofs.Ytcfmfbgnfpgpgaa
