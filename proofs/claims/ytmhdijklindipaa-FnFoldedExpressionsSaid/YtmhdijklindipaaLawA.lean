import Derived.Test.YtmhdijklindipaaKMInstr
import Derived.WalkKit
import Derived.WalkSpells
import Derived.WalkLawsBesides
import Derived.Lib.Hide
namespace Go.Proofs.Ytmhdijklindipaa
open Go.RowKit
set_option linter.unusedVariables false

def ResIsInstr (R0 : Bool) (w : World) (e : Ending) (w' : World) : Prop := e = .returned (.bool R0) ∧ Below w.heap.size w w'
def ResIsCode (R0 : Bool) (w : World) (e : Ending) (w' : World) : Prop := e = .returned (.bool R0) ∧ Below w.heap.size w w'
def ResCostOfInstr (R0 : Int) (R1 : Bool) (w : World) (e : Ending) (w' : World) : Prop := e = .returned (.tuple #[.int .i64 R0, .bool R1]) ∧ Below w.heap.size w w'
def ResCodeCost (R0 : Int) (R1 : Bool) (w : World) (e : Ending) (w' : World) : Prop := e = .returned (.tuple #[.int .i64 R0, .bool R1]) ∧ Below w.heap.size w w'
end Go.Proofs.Ytmhdijklindipaa
