import Derived.Test.YtmhdijklindipaaEA
import Derived.Test.YtmhdijklindipaaJ
import Derived.Test.YtmhdijklindipaaLI
import Derived.WalkKit
import Derived.WalkSpells
import Derived.WalkLawsBesides
import Derived.Lib.Hide
/- cvConst, cvWords, cvTree, cvCost of the model. -/
namespace Go.Proofs.Ytmhdijklindipaa
open Go.RowKit
set_option linter.unusedVariables false

def kon (xs : List Int) (n : Nd) : Bool := isConst n.op && hasI xs n.v
def BoolB (w : World) (x : Bool) (e : Ending) (w' : World) : Prop := e = .returned (.bool x) ∧ Below w.heap.size w w'
def wordsTo (k : Nat) : List Int := (List.range k).map fun (i : Nat) => (i : Int)
theorem wordsTo_succ (k : Nat) : wordsTo (k + 1) = wordsTo k ++ [(k : Int)] := by simp [wordsTo, List.range_succ]
theorem wordsTo_len (k : Nat) : (wordsTo k).length = k := by simp [wordsTo]
def OwnRet (w : World) (xs : List Int) (e : Ending) (w' : World) : Prop := ∃ A c, e = .returned (.slice A xs.length c) ∧ OW w' w.heap.size w'.heap.size (.slice A xs.length c) xs ∧ Below w.heap.size w w'
end Go.Proofs.Ytmhdijklindipaa
