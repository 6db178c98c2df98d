import Derived.Test.YtdleiondfhmjdaaK4
import Derived.Test.YtdleiondfhmjdaaTM
import Derived.Test.YtdleiondfhmjdaaCG
import Derived.WalkKit
import Derived.WalkSpells
import Derived.WalkLawsBesides
import Derived.Outline
import Derived.Lib.Hide
namespace Go.Proofs.Ytdleiondfhmjdaa
open Go.RowKit
set_option linter.unusedVariables false
set_option maxRecDepth 100000

/-- The value of an expression. -/
def at2 (es : List Nd) (x0 x1 : Int) : Int := (vals es x0 x1).getD (es.length - 1) 0
def tab (es : List Nd) : List Int := tabTo (at2 es) 4096
def tabR (es : List Nd) : List Int := if good es = true then tab es else []
theorem tabR_len (es : List Nd) : (tabR es).length ≤ 1048576 := by
  unfold tabR; split
  · unfold tab; rw [tabTo_len]; omega
  · simp

end Go.Proofs.Ytdleiondfhmjdaa
