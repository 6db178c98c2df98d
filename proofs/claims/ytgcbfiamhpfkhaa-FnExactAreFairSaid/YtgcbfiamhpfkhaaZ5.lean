/- Texts of this proof, one behind the other: K3, K4, TB. -/
import Derived.Test.YtgcbfiamhpfkhaaK2
import Derived.Test.YtgcbfiamhpfkhaaZ8
import Derived.WalkKit
import Derived.WalkSpells
import Derived.WalkLawsBesides
import Derived.Lib.Hide
import Derived.Test.YtgcbfiamhpfkhaaZ7
import Derived.Test.YtgcbfiamhpfkhaaZ14
import Derived.Outline
namespace Go.Proofs.Ytgcbfiamhpfkhaa
open Go.RowKit
set_option linter.unusedVariables false

def valsOk (es : List Nd) (x0 x1 : Int) : Bool := good es && isW x0 && isW x1
def valsR (es : List Nd) (x0 x1 : Int) : List Int := if valsOk es x0 x1 = true then vals es x0 x1 else []
def evalR (es : List Nd) (x0 x1 : Int) : Int := if valsOk es x0 x1 = true then (vals es x0 x1).getD (es.length - 1) 0 else 0
theorem vals_len (es : List Nd) (x0 x1 : Int) : (vals es x0 x1).length = es.length := valsAt_len _ _ _ _
theorem valsR_len (es : List Nd) (x0 x1 : Int) : (valsR es x0 x1).length ≤ 1048576 := by
  unfold valsR
  cases h : valsOk es x0 x1
  · simp
  · have h1 : good es = true := by simp [valsOk] at h; exact h.1.1
    have := good_len h1; simp [vals_len]; omega
theorem valsOk_parts {es : List Nd} {x0 x1 : Int} (h : valsOk es x0 x1 = true) : good es = true ∧ isW x0 = true ∧ isW x1 = true := by
  simp [valsOk] at h; exact ⟨h.1.1, h.1.2, h.2⟩

end Go.Proofs.Ytgcbfiamhpfkhaa

namespace Go.Proofs.Ytgcbfiamhpfkhaa
open Go.RowKit
set_option linter.unusedVariables false

theorem evalR_of {es : List Nd} {x0 x1 : Int} (h : valsOk es x0 x1 = true) : evalR es x0 x1 = (vals es x0 x1).getD (es.length - 1) 0 := by simp [evalR, h]

theorem okParts {es : List Nd} {x0 x1 : Int} (hv : valsOk es x0 x1 = false) : good es = false ∨ (good es = true ∧ isW x0 = false) ∨ (good es = true ∧ isW x0 = true ∧ isW x1 = false) := by
  cases h1 : good es <;> cases h2 : isW x0 <;> cases h3 : isW x1 <;> simp [valsOk, h1, h2, h3] at hv ⊢

end Go.Proofs.Ytgcbfiamhpfkhaa

namespace Go.Proofs.Ytgcbfiamhpfkhaa
open Go.RowKit
set_option linter.unusedVariables false
set_option maxRecDepth 100000

/-- The value of an expression. -/
def at2 (es : List Nd) (x0 x1 : Int) : Int := (vals es x0 x1).getD (es.length - 1) 0
def tab (es : List Nd) : List Int := tabTo (at2 es) 4096
def tabR (es : List Nd) : List Int := if good es = true then tab es else []
theorem tabR_len (es : List Nd) : (tabR es).length ≤ 1048576 := by
  unfold tabR; split
  · unfold tab; rw [tabTo_len]; omega
  · simp

end Go.Proofs.Ytgcbfiamhpfkhaa
