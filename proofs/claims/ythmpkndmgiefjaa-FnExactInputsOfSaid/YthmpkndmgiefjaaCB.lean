import Derived.Test.YthmpkndmgiefjaaCA
import Derived.Test.YthmpkndmgiefjaaMI2
import Derived.WalkKit
import Derived.WalkSpells
import Derived.WalkLawsBesides
import Derived.Lib.Hide
namespace Go.Proofs.Ythmpkndmgiefjaa
open Go.RowKit
set_option linter.unusedVariables false

end Go.Proofs.Ythmpkndmgiefjaa
