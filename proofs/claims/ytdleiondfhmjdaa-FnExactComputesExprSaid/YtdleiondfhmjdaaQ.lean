import Derived.Test.YtdleiondfhmjdaaJ
import Derived.Test.YtdleiondfhmjdaaLI
import Derived.WalkKit
import Derived.WalkSpells
import Derived.WalkLawsBesides
import Derived.Lib.Hide
namespace Go.Proofs.Ytdleiondfhmjdaa
open Go.RowKit
set_option linter.unusedVariables false

/-- What a function with a list of ints and a bool leaves. -/
def IntsRes (w : World) (xs : List Int) (ok : Bool) (e : Ending) (w' : World) : Prop :=
  ∃ A c, e = .returned (.tuple #[.slice A xs.length c, .bool ok]) ∧ OW w' w.heap.size w'.heap.size (.slice A xs.length c) xs ∧ Below w.heap.size w w'
def usesR (es : List Nd) : List Int := if good es = true then uses es else []
theorem usesR_len (es : List Nd) : (usesR es).length ≤ 1048576 := by
  unfold usesR
  cases h : good es
  · simp
  · have := good_len h; simp [show (uses es).length = es.length from usesAt_len es _]; omega

end Go.Proofs.Ytdleiondfhmjdaa
