import Derived.Test.YthjfedidpjfboaaWG
import Derived.WalkKit
import Derived.WalkSpells
import Derived.WalkLawsBesides
import Derived.Deep.RegionHeld3
import Derived.Lib.Hide
/- The program's walk that moves nodes: one move. -/
namespace Go.Proofs.Ythjfedidpjfboaa
open Go.RowKit
set_option linter.unusedVariables false
set_option maxRecDepth 100000

theorem xn_chg {w w' : World} {L b q : Nat} {n : Nd} (h : XN w b n) (hc : Chg L b w w') (hq : q ≠ b) (v : Value) : XN (w'.setCell ⟨q, 0, none⟩ v) b n := by
  have h1 : XN w' b n := (hc.block b h.lt (by omega)).trans h
  exact h1.other 0 v hq

end Go.Proofs.Ythjfedidpjfboaa
