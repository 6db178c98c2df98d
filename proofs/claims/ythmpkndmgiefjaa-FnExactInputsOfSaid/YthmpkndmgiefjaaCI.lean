import Derived.Test.YthmpkndmgiefjaaCV
import Derived.Test.YthmpkndmgiefjaaCD
import Derived.Test.YthmpkndmgiefjaaCH
import Derived.Test.YthmpkndmgiefjaaMV
import Derived.Test.YthmpkndmgiefjaaCK
import Derived.WalkKit
import Derived.WalkSpells
import Derived.WalkLawsBesides
import Derived.Deep.QuietTactic
import Derived.BigQuiet
import Derived.Lib.Hide
namespace Go.Proofs.Ythmpkndmgiefjaa
open Go.RowKit
set_option linter.unusedVariables false
set_option maxRecDepth 100000

end Go.Proofs.Ythmpkndmgiefjaa
