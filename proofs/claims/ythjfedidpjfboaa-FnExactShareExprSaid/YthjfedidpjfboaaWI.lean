import Derived.Test.YthjfedidpjfboaaWD
import Derived.Test.YthjfedidpjfboaaWH
import Derived.Test.YthjfedidpjfboaaD2
import Derived.WalkKit
import Derived.WalkSpells
import Derived.WalkLawsBesides
import Derived.Deep.RegionHeld3
import Derived.Lib.Hide
/- The program's kept nodes. -/
namespace Go.Proofs.Ythjfedidpjfboaa
open Go.RowKit
set_option linter.unusedVariables false
set_option maxRecDepth 100000

end Go.Proofs.Ythjfedidpjfboaa
