import Derived.Test.YtieljgfocgdngaaTP
import Derived.Test.YtieljgfocgdngaaLI
import Derived.Test.YtieljgfocgdngaaA
import Derived.WalkKit
import Derived.WalkSpells
import Derived.WalkLawsBesides
import Derived.StillTailTactics
import Derived.Deep.QuietTactic
import Derived.BigQuiet
import Derived.Lib.Hide
/- The program's helpers of chapter 3 over tables. -/
namespace Go.Proofs.Ytieljgfocgdngaa
open Go.RowKit
set_option linter.unusedVariables false
set_option maxRecDepth 100000

set_option maxHeartbeats 400000 in
theorem at_any (L B : Nat) (A : Option Addr) (c n : Nat) (xs : List Int) (x0 x1 : Nat) (w : World) (hn : n = 4096) (hl : xs.length = n) (hx : IS w L B A xs) (h0 : x0 < 64) (h1 : x1 < 64) :
    Calls Try.prog 138 #[.slice A n c, .int .i64 x0, .int .i64 x1] w fun e w' => e = .returned (.int .i64 (xs.getD (64 * x0 + x1) 0)) ∧ w = w' := by
  obtain ⟨m, hm⟩ : ∃ m, m = 64 * x0 + x1 := ⟨_, rfl⟩
  have hi : m < xs.length := by omega
  obtain ⟨b, o, rfl, _, hc⟩ := hx (by omega)
  have c1 := hc _ hi
  have hq := Lib.hid (getD_get hi)
  rw [← hm]
  clear hc hx
  generalize xs[m] = x at *
  have hw : (64 : Int) * (x0 : Int) + (x1 : Int) = (m : Int) := by omega
  have hmn : m < n := by omega
  have hw0 : wrap64 (64 * (x0 : Int)) = 64 * (x0 : Int) := by unfold wrap64; omega
  have hw1 : wrap64 (m : Int) = (m : Int) := by unfold wrap64; omega
  clear hl hm hi hn
  go_enter Try.func138, Try.ntmps138
  go_wp2
  go_ret
  exact ⟨ret_int hq.out.symm, rfl⟩

theorem isDifference_any (x : Int) (w : World) : Calls Try.prog 116 #[.int .i64 x] w fun e w' => e = .returned (.bool (x != 0)) ∧ w = w' := by
  go_enter Try.func116, Try.ntmps116
  go_wp2
  go_ret
  exact ⟨rfl, rfl⟩

theorem inputsAt_any (k : Nat) (w : World) (hk : k < 4096) : Calls Try.prog 117 #[.int .i64 k] w fun e w' => e = .returned (.tuple #[.int .i64 ((k : Int) / 64), .int .i64 ((k : Int) % 64)]) ∧ w = w' := by
  go_enter Try.func117, Try.ntmps117
  go_wp2
  go_ret2
  have h1 : wrap64 ((k : Int) / 64) = (k : Int) / 64 := by unfold wrap64; omega
  exact ⟨by rw [← h1]; rfl, rfl⟩

end Go.Proofs.Ytieljgfocgdngaa
