import Derived.Test.YthmpkndmgiefjaaCG
import Derived.WalkKit
import Derived.WalkSpells
import Derived.WalkLawsBesides
import Derived.Lib.Hide
namespace Go.Proofs.Ythmpkndmgiefjaa
open Go.RowKit
set_option linter.unusedVariables false
set_option maxRecDepth 100000

def SomeIdxN (xs : List Int) (w : World) (e : Ending) (w' : World) : Prop := ∃ k : Int, e = .returned (.int .i64 k) ∧ decide (0 ≤ k) = !allIn xs 0 63 ∧ w = w'
end Go.Proofs.Ythmpkndmgiefjaa
