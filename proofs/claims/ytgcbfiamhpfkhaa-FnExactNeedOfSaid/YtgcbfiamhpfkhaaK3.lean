import Derived.Test.YtgcbfiamhpfkhaaK2
import Derived.Test.YtgcbfiamhpfkhaaZ11
import Derived.WalkKit
import Derived.WalkSpells
import Derived.WalkLawsBesides
import Derived.Lib.Hide
namespace Go.Proofs.Ytgcbfiamhpfkhaa
open Go.RowKit
set_option linter.unusedVariables false

def valsOk (es : List Nd) (x0 x1 : Int) : Bool := good es && isW x0 && isW x1
def valsR (es : List Nd) (x0 x1 : Int) : List Int := if valsOk es x0 x1 = true then vals es x0 x1 else []
def evalR (es : List Nd) (x0 x1 : Int) : Int := if valsOk es x0 x1 = true then (vals es x0 x1).getD (es.length - 1) 0 else 0
theorem vals_len (es : List Nd) (x0 x1 : Int) : (vals es x0 x1).length = es.length := valsAt_len _ _ _ _
theorem valsR_len (es : List Nd) (x0 x1 : Int) : (valsR es x0 x1).length ≤ 1048576 := by
  unfold valsR
  cases h : valsOk es x0 x1
  · simp
  · have h1 : good es = true := by simp [valsOk] at h; exact h.1.1
    have := good_len h1; simp [vals_len]; omega
theorem valsOk_parts {es : List Nd} {x0 x1 : Int} (h : valsOk es x0 x1 = true) : good es = true ∧ isW x0 = true ∧ isW x1 = true := by
  simp [valsOk] at h; exact ⟨h.1.1, h.1.2, h.2⟩

end Go.Proofs.Ytgcbfiamhpfkhaa
