import Derived.Test.YthjfedidpjfboaaRD
import Derived.Test.YthjfedidpjfboaaKMNode
import Derived.WalkKit
import Derived.WalkSpells
import Derived.WalkLawsBesides
import Derived.Laws.StructEq
import Derived.Lib.Hide
/- Nodes compared by '=='. -/
namespace Go.Proofs.Ythjfedidpjfboaa
open Go.RowKit
set_option linter.unusedVariables false
set_option maxRecDepth 100000
theorem nd_guard : Try.prog.eqGuardType Try.prog.depth 79 = false := by kernel_rfl
theorem equalIn_nd (op op' : ByteArray) (a b v a' b' v' : Int) (w : World) : (Op.equalIn 10000 79 (.agg #[.string op, .int .i64 a, .int .i64 b, .int .i64 v]) (.agg #[.string op', .int .i64 a', .int .i64 b', .int .i64 v'])).run Try.prog w = .ok (sameN ⟨op, a, b, v⟩ ⟨op', a', b', v'⟩) w := by
  have u3 := Try.underlying3
  have a3 := Try.isAgg3
  have z3 := Try.sizeOf3
  have u9 := Try.underlying9
  have a9 := Try.isAgg9
  have z9 := Try.sizeOf9
  have hS : Try.prog.underlying 79 = some (.struct (Try.prog.fieldsOf 79)) := by kernel_rfl
  have hp : Try.prog.stoodInHeld 79 = false := by kernel_rfl
  rw [show (10000 : Nat) = 9999 + 1 from rfl, run_equalIn_agg w 9999 79 _ _ hS hp]
  simp only [Program.fieldsOf, Try.underlying79]
  unfold sameN
  go_simp
  by_cases h0 : op.toList = op'.toList <;> by_cases h1 : a = a' <;> by_cases h2 : b = b' <;> by_cases h3 : v = v' <;> simp [h0, h1, h2, h3]
theorem sameL_no {xs ys : List Nd} {k : Nat} (hk : k < xs.length) (h : sameN (xs.getD k zeroNd) (ys.getD k zeroNd) = false) : sameL xs ys = false := by
  unfold sameL
  rw [Bool.and_eq_false_iff]; right
  rw [List.all_eq_false]
  exact ⟨k, by simpa using hk, by simpa using h⟩
theorem sameL_yes {xs ys : List Nd} (hl : xs.length = ys.length) (h : ∀ k, k < xs.length → sameN (xs.getD k zeroNd) (ys.getD k zeroNd) = true) : sameL xs ys = true := by
  unfold sameL
  rw [Bool.and_eq_true]
  refine ⟨decide_eq_true hl, ?_⟩
  rw [List.all_eq_true]
  intro k hk
  exact h k (by simpa using hk)
theorem sameL_len {xs ys : List Nd} (hl : xs.length ≠ ys.length) : sameL xs ys = false := by
  unfold sameL; rw [decide_eq_false hl]; rfl

end Go.Proofs.Ythjfedidpjfboaa
