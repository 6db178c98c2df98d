import Derived.Test.YtgcbfiamhpfkhaaRows
import Derived.Test.YtgcbfiamhpfkhaaMI
import Derived.WalkKit
import Derived.WalkSpells
import Derived.WalkLawsBesides
import Derived.Lib.Hide
namespace Go.Proofs.Ytgcbfiamhpfkhaa
open Go.RowKit
set_option linter.unusedVariables false

theorem l1In_r (n lo hi : Int) (w : World) :
    Calls Try.prog 153 #[.int .i64 n, .int .i64 lo, .int .i64 hi] w fun e w' => e = .returned (.bool (inR n lo hi)) ∧ w = w' := by
  by_cases h1 : lo ≤ n
  · by_cases h2 : n ≤ hi
    all_goals
      go_enter Try.func153, Try.ntmps153
      go_wp2
      go_ret
      exact ⟨by simp [inR, *], rfl⟩
  · go_enter Try.func153, Try.ntmps153
    go_wp2
    go_ret
    exact ⟨by simp [inR]; omega, rfl⟩
theorem isIndex_any (i n : Int) (w : World) :
    Calls Try.prog 168 #[.int .i64 i, .int .i64 n] w fun e w' => e = .returned (.bool (inR i 0 (n - 1))) ∧ w = w' := by
  by_cases h1 : 0 ≤ i
  · go_enter Try.func168, Try.ntmps168
    go_wp2
    go_ret
    exact ⟨ret_bool (by rw [Bool.eq_iff_iff]; simp [inR]; omega), rfl⟩
  · go_enter Try.func168, Try.ntmps168
    go_wp2
    go_ret
    exact ⟨ret_bool (by rw [Bool.eq_iff_iff]; simp [inR]; omega), rfl⟩
theorem isRegister_any (r : Int) (w : World) :
    Calls Try.prog 145 #[.int .i64 r] w fun e w' => e = .returned (.bool (reg r)) ∧ w = w' := by
  go_enter Try.func145, Try.ntmps145
  go_wp2_with (go_at_call 168; refine (isIndex_any _ _ _).mono ?_; rintro e w' ⟨rfl, rfl⟩)
  go_ret
  exact ⟨rfl, rfl⟩
theorem cdReg_any (r : Int) (w : World) :
    Calls Try.prog 172 #[.int .i64 r] w fun e w' => e = .returned (.bool (reg r)) ∧ w = w' := by
  go_enter Try.func172, Try.ntmps172
  go_wp2_with (go_at_call 153; refine (l1In_r _ _ _ _).mono ?_; rintro e w' ⟨rfl, rfl⟩)
  go_ret
  exact ⟨rfl, rfl⟩
theorem isWord_any (n : Int) (w : World) :
    Calls Try.prog 178 #[.int .i64 n] w fun e w' => e = .returned (.bool (isW n)) ∧ w = w' := by
  by_cases h1 : 0 ≤ n
  · go_enter Try.func178, Try.ntmps178
    go_wp2
    go_ret
    exact ⟨ret_bool (by simp [isW, h1]), rfl⟩
  · go_enter Try.func178, Try.ntmps178
    go_wp2
    go_ret
    exact ⟨ret_bool (by simp [isW]; omega), rfl⟩
theorem exWord_w (n : Int) (w : World) :
    Calls Try.prog 181 #[.int .i64 n] w fun e w' => e = .returned (.bool (isW n)) ∧ w = w' := by
  go_enter Try.func181, Try.ntmps181
  go_wp2_with (go_at_call 153; refine (l1In_r _ _ _ _).mono ?_; rintro e w' ⟨rfl, rfl⟩)
  go_ret
  exact ⟨rfl, rfl⟩
theorem isOperand_any (r : Int) (u : Bool) (w : World) :
    Calls Try.prog 174 #[.int .i64 r, .bool u] w fun e w' => e = .returned (.bool (opnd r u)) ∧ w = w' := by
  have hr : Hid (∀ r, opnd r u = (r == 0 || (u && reg r))) := fun _ => rfl
  cases u
  all_goals
    go_enter Try.func174, Try.ntmps174
    go_wp2_with (go_at_call 145; refine (isRegister_any _ _).mono ?_; rintro e w' ⟨rfl, rfl⟩)
    all_goals go_ret
    all_goals exact ⟨ret_bool (by rw [hr.out]; simp_all), rfl⟩

end Go.Proofs.Ytgcbfiamhpfkhaa
