import Derived.Test.YthjfedidpjfboaaXG
import Derived.Test.YthjfedidpjfboaaLawP
import Derived.WalkKit
import Derived.WalkSpells
import Derived.WalkLawsBesides
import Derived.Deep.RegionHeld3
import Derived.Lib.Hide
/- ExpandExpr: the program. -/
namespace Go.Proofs.Ythjfedidpjfboaa
open Go.RowKit
set_option linter.unusedVariables false
set_option maxRecDepth 100000

set_option maxHeartbeats 4000000 in
theorem built_any (t : TypeId) (rest : List Value) (q L : Nat) (xs : List Nd) (v : Value) (w : World) (hs : GS t rest q L xs false v w) :
    Calls Try.prog 145 #[.pointer (some ⟨q, 0, none⟩)] w fun e w' => e = .returned (.tuple #[v, .bool true]) ∧ w' = w := by
  have c0 := hs.c0
  have c1 := hs.c1
  clear hs
  go_enter Try.func145, Try.ntmps145
  go_wp2
  go_ret2
  exact ⟨rfl, rfl⟩
theorem built_failed (t : TypeId) (rest : List Value) (q L : Nat) (xs : List Nd) (v : Value) (w : World) (hs : GS t rest q L xs true v w) :
    Calls Try.prog 145 #[.pointer (some ⟨q, 0, none⟩)] w fun e w' => e = .returned (.tuple #[.slice none 0 0, .bool false]) ∧ w' = w := by
  have c1 := hs.c1
  clear hs
  go_enter Try.func145, Try.ntmps145
  go_wp2
  go_ret2
  exact ⟨rfl, rfl⟩

end Go.Proofs.Ythjfedidpjfboaa
