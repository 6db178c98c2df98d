/-
  No cell of these rows narrows 'for every input' (looked for: loops, veiled, ifaces, maps, wideKeys, modest, calm, conditions, laid).
  DERIVED. THE GIVEN ROWS OF THIS SEAT. 16 by the template 'for every input the law returns true; each argument reads behind the call as it read before'; 0 by the template 'total and deterministic' (their statements: YtcfmfbgnfpgpgaaTotals.lean).
  GIVEN WITH THE SEED: the statements are not yours to turn. If you find one false, say at which input.
  Laid BY PROGRAM, IN A SANDBOX (cutbox-rows.mjs): the forced cells as the released guide's own fill.sh prints them over the translation 39cd844e350f6173… (all of the seat's roots in one cut). By AI agents, Wed Nov 11 2026. No macro, syntax, notation, axiom, sorry.
-/
import Derived.Test.YtcfmfbgnfpgpgaaChecked
import GoSem.Claim
import GoSem.ClaimJoined
import GoSem.ClaimMapViews
import Derived.JoinedTies
import Derived.KernelRfl
namespace Go.Proofs.Ytcfmfbgnfpgpgaa
/- THE CELL 'sum', in the pinned program and in every row, IS THE sha256 OF THE DUMP (.gsa) THAT YtcfmfbgnfpgpgaaProg.lean LOADS. Nothing in Lean hashes anything: it is a label: what it is worth is what the hold of that sum in a sandbox is worth. -/
noncomputable def Try.pinned : Pinned := { name := "ytcfmfbgnfpgpgaa", sum := "39cd844e350f6173d446af848d27484c58e5b888020b23d3a8951819e2e44190", checked := Try.checked }
namespace Rows
def none {H : Type} : Left H := { results := [], args := [] }

/-- 'laws.FnExactAreEqual': WHATEVER THE INPUT: true; the input reads as it did. -/
def fnExactAreEqualSpec : ChangeSpec := { name := "fnExactAreEqual", fn := fun _ => fun
  | [d1, d2] => { results := [.lit (.bool true)], args := [d1, d2] }
  | _ => none }
def fnExactAreEqualRow : OpenClaim := { program := "ytcfmfbgnfpgpgaa", sum := "39cd844e350f6173d446af848d27484c58e5b888020b23d3a8951819e2e44190", func := "loop.example/g01127/laws.FnExactAreEqual", spec := "fnExactAreEqual", unfollowed := true, recurses := true, apart := false }
def FnExactAreEqualSaid : Prop := fnExactAreEqualRow.holds Try.pinned (OpenSpec.ofChange fnExactAreEqualSpec)

/-- ITS FALSE NEIGHBOUR: 'it returns false'. Refute it at one input. -/
def fnExactAreEqualWrong : ChangeSpec := { name := "fnExactAreEqual", fn := fun _ => fun
  | [d1, d2] => { results := [.lit (.bool false)], args := [d1, d2] }
  | _ => none }
def FnExactAreEqualWrongFalsely : Prop := fnExactAreEqualRow.holds Try.pinned (OpenSpec.ofChange fnExactAreEqualWrong)

/-- 'laws.FnExactFirstDifference': WHATEVER THE INPUT: true; the input reads as it did. -/
def fnExactFirstDifferenceSpec : ChangeSpec := { name := "fnExactFirstDifference", fn := fun _ => fun
  | [d1, d2] => { results := [.lit (.bool true)], args := [d1, d2] }
  | _ => none }
def fnExactFirstDifferenceRow : OpenClaim := { program := "ytcfmfbgnfpgpgaa", sum := "39cd844e350f6173d446af848d27484c58e5b888020b23d3a8951819e2e44190", func := "loop.example/g01127/laws.FnExactFirstDifference", spec := "fnExactFirstDifference", unfollowed := true, recurses := true, apart := false }
def FnExactFirstDifferenceSaid : Prop := fnExactFirstDifferenceRow.holds Try.pinned (OpenSpec.ofChange fnExactFirstDifferenceSpec)

/-- ITS FALSE NEIGHBOUR: 'it returns false'. Refute it at one input. -/
def fnExactFirstDifferenceWrong : ChangeSpec := { name := "fnExactFirstDifference", fn := fun _ => fun
  | [d1, d2] => { results := [.lit (.bool false)], args := [d1, d2] }
  | _ => none }
def FnExactFirstDifferenceWrongFalsely : Prop := fnExactFirstDifferenceRow.holds Try.pinned (OpenSpec.ofChange fnExactFirstDifferenceWrong)

/-- 'laws.FnExactCountDifferences': WHATEVER THE INPUT: true; the input reads as it did. -/
def fnExactCountDifferencesSpec : ChangeSpec := { name := "fnExactCountDifferences", fn := fun _ => fun
  | [d1, d2] => { results := [.lit (.bool true)], args := [d1, d2] }
  | _ => none }
def fnExactCountDifferencesRow : OpenClaim := { program := "ytcfmfbgnfpgpgaa", sum := "39cd844e350f6173d446af848d27484c58e5b888020b23d3a8951819e2e44190", func := "loop.example/g01127/laws.FnExactCountDifferences", spec := "fnExactCountDifferences", unfollowed := true, recurses := true, apart := false }
def FnExactCountDifferencesSaid : Prop := fnExactCountDifferencesRow.holds Try.pinned (OpenSpec.ofChange fnExactCountDifferencesSpec)

/-- ITS FALSE NEIGHBOUR: 'it returns false'. Refute it at one input. -/
def fnExactCountDifferencesWrong : ChangeSpec := { name := "fnExactCountDifferences", fn := fun _ => fun
  | [d1, d2] => { results := [.lit (.bool false)], args := [d1, d2] }
  | _ => none }
def FnExactCountDifferencesWrongFalsely : Prop := fnExactCountDifferencesRow.holds Try.pinned (OpenSpec.ofChange fnExactCountDifferencesWrong)

/-- 'laws.FnExactDifferentBits': WHATEVER THE INPUT: true; the input reads as it did. -/
def fnExactDifferentBitsSpec : ChangeSpec := { name := "fnExactDifferentBits", fn := fun _ => fun
  | [d1, d2] => { results := [.lit (.bool true)], args := [d1, d2] }
  | _ => none }
def fnExactDifferentBitsRow : OpenClaim := { program := "ytcfmfbgnfpgpgaa", sum := "39cd844e350f6173d446af848d27484c58e5b888020b23d3a8951819e2e44190", func := "loop.example/g01127/laws.FnExactDifferentBits", spec := "fnExactDifferentBits", unfollowed := true, recurses := true, apart := false }
def FnExactDifferentBitsSaid : Prop := fnExactDifferentBitsRow.holds Try.pinned (OpenSpec.ofChange fnExactDifferentBitsSpec)

/-- ITS FALSE NEIGHBOUR: 'it returns false'. Refute it at one input. -/
def fnExactDifferentBitsWrong : ChangeSpec := { name := "fnExactDifferentBits", fn := fun _ => fun
  | [d1, d2] => { results := [.lit (.bool false)], args := [d1, d2] }
  | _ => none }
def FnExactDifferentBitsWrongFalsely : Prop := fnExactDifferentBitsRow.holds Try.pinned (OpenSpec.ofChange fnExactDifferentBitsWrong)

/-- 'laws.FnExactEqualAt': WHATEVER THE INPUT: true; the input reads as it did. -/
def fnExactEqualAtSpec : ChangeSpec := { name := "fnExactEqualAt", fn := fun _ => fun
  | [d1, d2, d3] => { results := [.lit (.bool true)], args := [d1, d2, d3] }
  | _ => none }
def fnExactEqualAtRow : OpenClaim := { program := "ytcfmfbgnfpgpgaa", sum := "39cd844e350f6173d446af848d27484c58e5b888020b23d3a8951819e2e44190", func := "loop.example/g01127/laws.FnExactEqualAt", spec := "fnExactEqualAt", unfollowed := true, recurses := true, apart := false }
def FnExactEqualAtSaid : Prop := fnExactEqualAtRow.holds Try.pinned (OpenSpec.ofChange fnExactEqualAtSpec)

/-- ITS FALSE NEIGHBOUR: 'it returns false'. Refute it at one input. -/
def fnExactEqualAtWrong : ChangeSpec := { name := "fnExactEqualAt", fn := fun _ => fun
  | [d1, d2, d3] => { results := [.lit (.bool false)], args := [d1, d2, d3] }
  | _ => none }
def FnExactEqualAtWrongFalsely : Prop := fnExactEqualAtRow.holds Try.pinned (OpenSpec.ofChange fnExactEqualAtWrong)

/-- 'laws.FnExactDependsOn': WHATEVER THE INPUT: true; the input reads as it did. -/
def fnExactDependsOnSpec : ChangeSpec := { name := "fnExactDependsOn", fn := fun _ => fun
  | [d1, d2] => { results := [.lit (.bool true)], args := [d1, d2] }
  | _ => none }
def fnExactDependsOnRow : OpenClaim := { program := "ytcfmfbgnfpgpgaa", sum := "39cd844e350f6173d446af848d27484c58e5b888020b23d3a8951819e2e44190", func := "loop.example/g01127/laws.FnExactDependsOn", spec := "fnExactDependsOn", unfollowed := true, recurses := true, apart := false }
def FnExactDependsOnSaid : Prop := fnExactDependsOnRow.holds Try.pinned (OpenSpec.ofChange fnExactDependsOnSpec)

/-- ITS FALSE NEIGHBOUR: 'it returns false'. Refute it at one input. -/
def fnExactDependsOnWrong : ChangeSpec := { name := "fnExactDependsOn", fn := fun _ => fun
  | [d1, d2] => { results := [.lit (.bool false)], args := [d1, d2] }
  | _ => none }
def FnExactDependsOnWrongFalsely : Prop := fnExactDependsOnRow.holds Try.pinned (OpenSpec.ofChange fnExactDependsOnWrong)

/-- 'laws.FnExactDependWitness': WHATEVER THE INPUT: true; the input reads as it did. -/
def fnExactDependWitnessSpec : ChangeSpec := { name := "fnExactDependWitness", fn := fun _ => fun
  | [d1, d2] => { results := [.lit (.bool true)], args := [d1, d2] }
  | _ => none }
def fnExactDependWitnessRow : OpenClaim := { program := "ytcfmfbgnfpgpgaa", sum := "39cd844e350f6173d446af848d27484c58e5b888020b23d3a8951819e2e44190", func := "loop.example/g01127/laws.FnExactDependWitness", spec := "fnExactDependWitness", unfollowed := true, recurses := true, apart := false }
def FnExactDependWitnessSaid : Prop := fnExactDependWitnessRow.holds Try.pinned (OpenSpec.ofChange fnExactDependWitnessSpec)

/-- ITS FALSE NEIGHBOUR: 'it returns false'. Refute it at one input. -/
def fnExactDependWitnessWrong : ChangeSpec := { name := "fnExactDependWitness", fn := fun _ => fun
  | [d1, d2] => { results := [.lit (.bool false)], args := [d1, d2] }
  | _ => none }
def FnExactDependWitnessWrongFalsely : Prop := fnExactDependWitnessRow.holds Try.pinned (OpenSpec.ofChange fnExactDependWitnessWrong)

/-- 'laws.FnExactConstantOf': WHATEVER THE INPUT: true; the input reads as it did. -/
def fnExactConstantOfSpec : ChangeSpec := { name := "fnExactConstantOf", fn := fun _ => fun
  | [d] => { results := [.lit (.bool true)], args := [d] }
  | _ => none }
def fnExactConstantOfRow : OpenClaim := { program := "ytcfmfbgnfpgpgaa", sum := "39cd844e350f6173d446af848d27484c58e5b888020b23d3a8951819e2e44190", func := "loop.example/g01127/laws.FnExactConstantOf", spec := "fnExactConstantOf", apart := false }
def FnExactConstantOfSaid : Prop := fnExactConstantOfRow.holds Try.pinned (OpenSpec.ofChange fnExactConstantOfSpec)

/-- ITS FALSE NEIGHBOUR: 'it returns false'. Refute it at one input. -/
def fnExactConstantOfWrong : ChangeSpec := { name := "fnExactConstantOf", fn := fun _ => fun
  | [d] => { results := [.lit (.bool false)], args := [d] }
  | _ => none }
def FnExactConstantOfWrongFalsely : Prop := fnExactConstantOfRow.holds Try.pinned (OpenSpec.ofChange fnExactConstantOfWrong)

/-- 'laws.FnExactRangeOf': WHATEVER THE INPUT: true; the input reads as it did. -/
def fnExactRangeOfSpec : ChangeSpec := { name := "fnExactRangeOf", fn := fun _ => fun
  | [d] => { results := [.lit (.bool true)], args := [d] }
  | _ => none }
def fnExactRangeOfRow : OpenClaim := { program := "ytcfmfbgnfpgpgaa", sum := "39cd844e350f6173d446af848d27484c58e5b888020b23d3a8951819e2e44190", func := "loop.example/g01127/laws.FnExactRangeOf", spec := "fnExactRangeOf", apart := false }
def FnExactRangeOfSaid : Prop := fnExactRangeOfRow.holds Try.pinned (OpenSpec.ofChange fnExactRangeOfSpec)

/-- ITS FALSE NEIGHBOUR: 'it returns false'. Refute it at one input. -/
def fnExactRangeOfWrong : ChangeSpec := { name := "fnExactRangeOf", fn := fun _ => fun
  | [d] => { results := [.lit (.bool false)], args := [d] }
  | _ => none }
def FnExactRangeOfWrongFalsely : Prop := fnExactRangeOfRow.holds Try.pinned (OpenSpec.ofChange fnExactRangeOfWrong)

/-- 'laws.FnExactIsSymmetric': WHATEVER THE INPUT: true; the input reads as it did. -/
def fnExactIsSymmetricSpec : ChangeSpec := { name := "fnExactIsSymmetric", fn := fun _ => fun
  | [d] => { results := [.lit (.bool true)], args := [d] }
  | _ => none }
def fnExactIsSymmetricRow : OpenClaim := { program := "ytcfmfbgnfpgpgaa", sum := "39cd844e350f6173d446af848d27484c58e5b888020b23d3a8951819e2e44190", func := "loop.example/g01127/laws.FnExactIsSymmetric", spec := "fnExactIsSymmetric", unfollowed := true, recurses := true, apart := false }
def FnExactIsSymmetricSaid : Prop := fnExactIsSymmetricRow.holds Try.pinned (OpenSpec.ofChange fnExactIsSymmetricSpec)

/-- ITS FALSE NEIGHBOUR: 'it returns false'. Refute it at one input. -/
def fnExactIsSymmetricWrong : ChangeSpec := { name := "fnExactIsSymmetric", fn := fun _ => fun
  | [d] => { results := [.lit (.bool false)], args := [d] }
  | _ => none }
def FnExactIsSymmetricWrongFalsely : Prop := fnExactIsSymmetricRow.holds Try.pinned (OpenSpec.ofChange fnExactIsSymmetricWrong)

/-- 'laws.FnExactIsKnown': WHATEVER THE INPUT: true; the input reads as it did. -/
def fnExactIsKnownSpec : ChangeSpec := { name := "fnExactIsKnown", fn := fun _ => fun
  | [d] => { results := [.lit (.bool true)], args := [d] }
  | _ => none }
def fnExactIsKnownRow : OpenClaim := { program := "ytcfmfbgnfpgpgaa", sum := "39cd844e350f6173d446af848d27484c58e5b888020b23d3a8951819e2e44190", func := "loop.example/g01127/laws.FnExactIsKnown", spec := "fnExactIsKnown", apart := false }
def FnExactIsKnownSaid : Prop := fnExactIsKnownRow.holds Try.pinned (OpenSpec.ofChange fnExactIsKnownSpec)

/-- ITS FALSE NEIGHBOUR: 'it returns false'. Refute it at one input. -/
def fnExactIsKnownWrong : ChangeSpec := { name := "fnExactIsKnown", fn := fun _ => fun
  | [d] => { results := [.lit (.bool false)], args := [d] }
  | _ => none }
def FnExactIsKnownWrongFalsely : Prop := fnExactIsKnownRow.holds Try.pinned (OpenSpec.ofChange fnExactIsKnownWrong)

/-- 'laws.FnExactJoinKnown': WHATEVER THE INPUT: true; the input reads as it did. -/
def fnExactJoinKnownSpec : ChangeSpec := { name := "fnExactJoinKnown", fn := fun _ => fun
  | [d1, d2] => { results := [.lit (.bool true)], args := [d1, d2] }
  | _ => none }
def fnExactJoinKnownRow : OpenClaim := { program := "ytcfmfbgnfpgpgaa", sum := "39cd844e350f6173d446af848d27484c58e5b888020b23d3a8951819e2e44190", func := "loop.example/g01127/laws.FnExactJoinKnown", spec := "fnExactJoinKnown", apart := false }
def FnExactJoinKnownSaid : Prop := fnExactJoinKnownRow.holds Try.pinned (OpenSpec.ofChange fnExactJoinKnownSpec)

/-- ITS FALSE NEIGHBOUR: 'it returns false'. Refute it at one input. -/
def fnExactJoinKnownWrong : ChangeSpec := { name := "fnExactJoinKnown", fn := fun _ => fun
  | [d1, d2] => { results := [.lit (.bool false)], args := [d1, d2] }
  | _ => none }
def FnExactJoinKnownWrongFalsely : Prop := fnExactJoinKnownRow.holds Try.pinned (OpenSpec.ofChange fnExactJoinKnownWrong)

/-- 'laws.FnExactDoesKnow': WHATEVER THE INPUT: true; the input reads as it did. -/
def fnExactDoesKnowSpec : ChangeSpec := { name := "fnExactDoesKnow", fn := fun _ => fun
  | [d1, d2] => { results := [.lit (.bool true)], args := [d1, d2] }
  | _ => none }
def fnExactDoesKnowRow : OpenClaim := { program := "ytcfmfbgnfpgpgaa", sum := "39cd844e350f6173d446af848d27484c58e5b888020b23d3a8951819e2e44190", func := "loop.example/g01127/laws.FnExactDoesKnow", spec := "fnExactDoesKnow", apart := false }
def FnExactDoesKnowSaid : Prop := fnExactDoesKnowRow.holds Try.pinned (OpenSpec.ofChange fnExactDoesKnowSpec)

/-- ITS FALSE NEIGHBOUR: 'it returns false'. Refute it at one input. -/
def fnExactDoesKnowWrong : ChangeSpec := { name := "fnExactDoesKnow", fn := fun _ => fun
  | [d1, d2] => { results := [.lit (.bool false)], args := [d1, d2] }
  | _ => none }
def FnExactDoesKnowWrongFalsely : Prop := fnExactDoesKnowRow.holds Try.pinned (OpenSpec.ofChange fnExactDoesKnowWrong)

/-- 'laws.FnExactKnownBits': WHATEVER THE INPUT: true; the input reads as it did. -/
def fnExactKnownBitsSpec : ChangeSpec := { name := "fnExactKnownBits", fn := fun _ => fun
  | [d] => { results := [.lit (.bool true)], args := [d] }
  | _ => none }
def fnExactKnownBitsRow : OpenClaim := { program := "ytcfmfbgnfpgpgaa", sum := "39cd844e350f6173d446af848d27484c58e5b888020b23d3a8951819e2e44190", func := "loop.example/g01127/laws.FnExactKnownBits", spec := "fnExactKnownBits", apart := false }
def FnExactKnownBitsSaid : Prop := fnExactKnownBitsRow.holds Try.pinned (OpenSpec.ofChange fnExactKnownBitsSpec)

/-- ITS FALSE NEIGHBOUR: 'it returns false'. Refute it at one input. -/
def fnExactKnownBitsWrong : ChangeSpec := { name := "fnExactKnownBits", fn := fun _ => fun
  | [d] => { results := [.lit (.bool false)], args := [d] }
  | _ => none }
def FnExactKnownBitsWrongFalsely : Prop := fnExactKnownBitsRow.holds Try.pinned (OpenSpec.ofChange fnExactKnownBitsWrong)

/-- 'laws.FnExactAskedBits': WHATEVER THE INPUT: true; the input reads as it did. -/
def fnExactAskedBitsSpec : ChangeSpec := { name := "fnExactAskedBits", fn := fun _ => fun
  | [d1, d2] => { results := [.lit (.bool true)], args := [d1, d2] }
  | _ => none }
def fnExactAskedBitsRow : OpenClaim := { program := "ytcfmfbgnfpgpgaa", sum := "39cd844e350f6173d446af848d27484c58e5b888020b23d3a8951819e2e44190", func := "loop.example/g01127/laws.FnExactAskedBits", spec := "fnExactAskedBits", unfollowed := true, recurses := true, apart := false }
def FnExactAskedBitsSaid : Prop := fnExactAskedBitsRow.holds Try.pinned (OpenSpec.ofChange fnExactAskedBitsSpec)

/-- ITS FALSE NEIGHBOUR: 'it returns false'. Refute it at one input. -/
def fnExactAskedBitsWrong : ChangeSpec := { name := "fnExactAskedBits", fn := fun _ => fun
  | [d1, d2] => { results := [.lit (.bool false)], args := [d1, d2] }
  | _ => none }
def FnExactAskedBitsWrongFalsely : Prop := fnExactAskedBitsRow.holds Try.pinned (OpenSpec.ofChange fnExactAskedBitsWrong)

/-- 'laws.FnExactClassesOf': WHATEVER THE INPUT: true; the input reads as it did. -/
def fnExactClassesOfSpec : ChangeSpec := { name := "fnExactClassesOf", fn := fun _ => fun
  | [d] => { results := [.lit (.bool true)], args := [d] }
  | _ => none }
def fnExactClassesOfRow : OpenClaim := { program := "ytcfmfbgnfpgpgaa", sum := "39cd844e350f6173d446af848d27484c58e5b888020b23d3a8951819e2e44190", func := "loop.example/g01127/laws.FnExactClassesOf", spec := "fnExactClassesOf", unfollowed := true, recurses := true, apart := false }
def FnExactClassesOfSaid : Prop := fnExactClassesOfRow.holds Try.pinned (OpenSpec.ofChange fnExactClassesOfSpec)

/-- ITS FALSE NEIGHBOUR: 'it returns false'. Refute it at one input. -/
def fnExactClassesOfWrong : ChangeSpec := { name := "fnExactClassesOf", fn := fun _ => fun
  | [d] => { results := [.lit (.bool false)], args := [d] }
  | _ => none }
def FnExactClassesOfWrongFalsely : Prop := fnExactClassesOfRow.holds Try.pinned (OpenSpec.ofChange fnExactClassesOfWrong)

/- THE SECOND FORM. 'bulk': how many values and letters a reading holds, each counted each time it is reached (what is shared counts as often as it is met; a slice's spare places count too). A statement '..UptoSaid' is the law's where the arguments, and the package variables that the reading takes, are together of bulk at most 1048576: NARROWER than '..Said'. Prove '..Said' where nothing that the law and all that it calls make is longer than what came in: it says more and counts as full. Else prove '..UptoSaid'. A law counts once. -/
mutual
def uptoBulk {H : Type} : DataW H → Nat
  | .lit (.string bytes) => bytes.length + 1
  | .lit _ => 1
  | .nil => 1
  | .ptr d => uptoBulk d + 1
  | .slice elems spare => uptoBulkAll elems + uptoBulkAll spare + 1
  | .agg parts => uptoBulkAll parts + 1
  | .iface _ d => uptoBulk d + 1
  | .map entries => uptoBulkEntries entries + 1
  | .held _ => 1
def uptoBulkAll {H : Type} : List (DataW H) → Nat
  | [] => 0
  | d :: r => uptoBulk d + uptoBulkAll r
def uptoBulkEntries {H : Type} : List (Lit × DataW H) → Nat
  | [] => 0
  | x :: r => uptoBulkEntry x + uptoBulkEntries r
def uptoBulkEntry {H : Type} : Lit × DataW H → Nat
  | (.string bytes, d) => bytes.length + uptoBulk d + 1
  | (_, d) => uptoBulk d + 1
 end
def uptoSmall : (H : Type) → List (DataW H) → Bool := fun _ ds => decide (uptoBulkAll ds ≤ 1048576)
def OpenSpec.upto (s : _root_.Go.ChangeSpec) : _root_.Go.OpenSpec := { _root_.Go.OpenSpec.ofChange s with cond := some uptoSmall }

/-- 'laws.FnExactAreEqual', WHERE WHAT IT READS IS OF BULK AT MOST 1048576: true; the input reads as it did. -/
def fnExactAreEqualUptoRow : OpenClaim := { program := "ytcfmfbgnfpgpgaa", sum := "39cd844e350f6173d446af848d27484c58e5b888020b23d3a8951819e2e44190", func := "loop.example/g01127/laws.FnExactAreEqual", spec := "fnExactAreEqual", unfollowed := true, recurses := true, apart := false, narrowed := true }
def FnExactAreEqualUptoSaid : Prop := fnExactAreEqualUptoRow.holds Try.pinned (OpenSpec.upto fnExactAreEqualSpec)

/-- 'laws.FnExactFirstDifference', WHERE WHAT IT READS IS OF BULK AT MOST 1048576: true; the input reads as it did. -/
def fnExactFirstDifferenceUptoRow : OpenClaim := { program := "ytcfmfbgnfpgpgaa", sum := "39cd844e350f6173d446af848d27484c58e5b888020b23d3a8951819e2e44190", func := "loop.example/g01127/laws.FnExactFirstDifference", spec := "fnExactFirstDifference", unfollowed := true, recurses := true, apart := false, narrowed := true }
def FnExactFirstDifferenceUptoSaid : Prop := fnExactFirstDifferenceUptoRow.holds Try.pinned (OpenSpec.upto fnExactFirstDifferenceSpec)

/-- 'laws.FnExactCountDifferences', WHERE WHAT IT READS IS OF BULK AT MOST 1048576: true; the input reads as it did. -/
def fnExactCountDifferencesUptoRow : OpenClaim := { program := "ytcfmfbgnfpgpgaa", sum := "39cd844e350f6173d446af848d27484c58e5b888020b23d3a8951819e2e44190", func := "loop.example/g01127/laws.FnExactCountDifferences", spec := "fnExactCountDifferences", unfollowed := true, recurses := true, apart := false, narrowed := true }
def FnExactCountDifferencesUptoSaid : Prop := fnExactCountDifferencesUptoRow.holds Try.pinned (OpenSpec.upto fnExactCountDifferencesSpec)

/-- 'laws.FnExactDifferentBits', WHERE WHAT IT READS IS OF BULK AT MOST 1048576: true; the input reads as it did. -/
def fnExactDifferentBitsUptoRow : OpenClaim := { program := "ytcfmfbgnfpgpgaa", sum := "39cd844e350f6173d446af848d27484c58e5b888020b23d3a8951819e2e44190", func := "loop.example/g01127/laws.FnExactDifferentBits", spec := "fnExactDifferentBits", unfollowed := true, recurses := true, apart := false, narrowed := true }
def FnExactDifferentBitsUptoSaid : Prop := fnExactDifferentBitsUptoRow.holds Try.pinned (OpenSpec.upto fnExactDifferentBitsSpec)

/-- 'laws.FnExactEqualAt', WHERE WHAT IT READS IS OF BULK AT MOST 1048576: true; the input reads as it did. -/
def fnExactEqualAtUptoRow : OpenClaim := { program := "ytcfmfbgnfpgpgaa", sum := "39cd844e350f6173d446af848d27484c58e5b888020b23d3a8951819e2e44190", func := "loop.example/g01127/laws.FnExactEqualAt", spec := "fnExactEqualAt", unfollowed := true, recurses := true, apart := false, narrowed := true }
def FnExactEqualAtUptoSaid : Prop := fnExactEqualAtUptoRow.holds Try.pinned (OpenSpec.upto fnExactEqualAtSpec)

/-- 'laws.FnExactDependsOn', WHERE WHAT IT READS IS OF BULK AT MOST 1048576: true; the input reads as it did. -/
def fnExactDependsOnUptoRow : OpenClaim := { program := "ytcfmfbgnfpgpgaa", sum := "39cd844e350f6173d446af848d27484c58e5b888020b23d3a8951819e2e44190", func := "loop.example/g01127/laws.FnExactDependsOn", spec := "fnExactDependsOn", unfollowed := true, recurses := true, apart := false, narrowed := true }
def FnExactDependsOnUptoSaid : Prop := fnExactDependsOnUptoRow.holds Try.pinned (OpenSpec.upto fnExactDependsOnSpec)

/-- 'laws.FnExactDependWitness', WHERE WHAT IT READS IS OF BULK AT MOST 1048576: true; the input reads as it did. -/
def fnExactDependWitnessUptoRow : OpenClaim := { program := "ytcfmfbgnfpgpgaa", sum := "39cd844e350f6173d446af848d27484c58e5b888020b23d3a8951819e2e44190", func := "loop.example/g01127/laws.FnExactDependWitness", spec := "fnExactDependWitness", unfollowed := true, recurses := true, apart := false, narrowed := true }
def FnExactDependWitnessUptoSaid : Prop := fnExactDependWitnessUptoRow.holds Try.pinned (OpenSpec.upto fnExactDependWitnessSpec)

/-- 'laws.FnExactConstantOf', WHERE WHAT IT READS IS OF BULK AT MOST 1048576: true; the input reads as it did. -/
def fnExactConstantOfUptoRow : OpenClaim := { program := "ytcfmfbgnfpgpgaa", sum := "39cd844e350f6173d446af848d27484c58e5b888020b23d3a8951819e2e44190", func := "loop.example/g01127/laws.FnExactConstantOf", spec := "fnExactConstantOf", apart := false, narrowed := true }
def FnExactConstantOfUptoSaid : Prop := fnExactConstantOfUptoRow.holds Try.pinned (OpenSpec.upto fnExactConstantOfSpec)

/-- 'laws.FnExactRangeOf', WHERE WHAT IT READS IS OF BULK AT MOST 1048576: true; the input reads as it did. -/
def fnExactRangeOfUptoRow : OpenClaim := { program := "ytcfmfbgnfpgpgaa", sum := "39cd844e350f6173d446af848d27484c58e5b888020b23d3a8951819e2e44190", func := "loop.example/g01127/laws.FnExactRangeOf", spec := "fnExactRangeOf", apart := false, narrowed := true }
def FnExactRangeOfUptoSaid : Prop := fnExactRangeOfUptoRow.holds Try.pinned (OpenSpec.upto fnExactRangeOfSpec)

/-- 'laws.FnExactIsSymmetric', WHERE WHAT IT READS IS OF BULK AT MOST 1048576: true; the input reads as it did. -/
def fnExactIsSymmetricUptoRow : OpenClaim := { program := "ytcfmfbgnfpgpgaa", sum := "39cd844e350f6173d446af848d27484c58e5b888020b23d3a8951819e2e44190", func := "loop.example/g01127/laws.FnExactIsSymmetric", spec := "fnExactIsSymmetric", unfollowed := true, recurses := true, apart := false, narrowed := true }
def FnExactIsSymmetricUptoSaid : Prop := fnExactIsSymmetricUptoRow.holds Try.pinned (OpenSpec.upto fnExactIsSymmetricSpec)

/-- 'laws.FnExactIsKnown', WHERE WHAT IT READS IS OF BULK AT MOST 1048576: true; the input reads as it did. -/
def fnExactIsKnownUptoRow : OpenClaim := { program := "ytcfmfbgnfpgpgaa", sum := "39cd844e350f6173d446af848d27484c58e5b888020b23d3a8951819e2e44190", func := "loop.example/g01127/laws.FnExactIsKnown", spec := "fnExactIsKnown", apart := false, narrowed := true }
def FnExactIsKnownUptoSaid : Prop := fnExactIsKnownUptoRow.holds Try.pinned (OpenSpec.upto fnExactIsKnownSpec)

/-- 'laws.FnExactJoinKnown', WHERE WHAT IT READS IS OF BULK AT MOST 1048576: true; the input reads as it did. -/
def fnExactJoinKnownUptoRow : OpenClaim := { program := "ytcfmfbgnfpgpgaa", sum := "39cd844e350f6173d446af848d27484c58e5b888020b23d3a8951819e2e44190", func := "loop.example/g01127/laws.FnExactJoinKnown", spec := "fnExactJoinKnown", apart := false, narrowed := true }
def FnExactJoinKnownUptoSaid : Prop := fnExactJoinKnownUptoRow.holds Try.pinned (OpenSpec.upto fnExactJoinKnownSpec)

/-- 'laws.FnExactDoesKnow', WHERE WHAT IT READS IS OF BULK AT MOST 1048576: true; the input reads as it did. -/
def fnExactDoesKnowUptoRow : OpenClaim := { program := "ytcfmfbgnfpgpgaa", sum := "39cd844e350f6173d446af848d27484c58e5b888020b23d3a8951819e2e44190", func := "loop.example/g01127/laws.FnExactDoesKnow", spec := "fnExactDoesKnow", apart := false, narrowed := true }
def FnExactDoesKnowUptoSaid : Prop := fnExactDoesKnowUptoRow.holds Try.pinned (OpenSpec.upto fnExactDoesKnowSpec)

/-- 'laws.FnExactKnownBits', WHERE WHAT IT READS IS OF BULK AT MOST 1048576: true; the input reads as it did. -/
def fnExactKnownBitsUptoRow : OpenClaim := { program := "ytcfmfbgnfpgpgaa", sum := "39cd844e350f6173d446af848d27484c58e5b888020b23d3a8951819e2e44190", func := "loop.example/g01127/laws.FnExactKnownBits", spec := "fnExactKnownBits", apart := false, narrowed := true }
def FnExactKnownBitsUptoSaid : Prop := fnExactKnownBitsUptoRow.holds Try.pinned (OpenSpec.upto fnExactKnownBitsSpec)

/-- 'laws.FnExactAskedBits', WHERE WHAT IT READS IS OF BULK AT MOST 1048576: true; the input reads as it did. -/
def fnExactAskedBitsUptoRow : OpenClaim := { program := "ytcfmfbgnfpgpgaa", sum := "39cd844e350f6173d446af848d27484c58e5b888020b23d3a8951819e2e44190", func := "loop.example/g01127/laws.FnExactAskedBits", spec := "fnExactAskedBits", unfollowed := true, recurses := true, apart := false, narrowed := true }
def FnExactAskedBitsUptoSaid : Prop := fnExactAskedBitsUptoRow.holds Try.pinned (OpenSpec.upto fnExactAskedBitsSpec)

/-- 'laws.FnExactClassesOf', WHERE WHAT IT READS IS OF BULK AT MOST 1048576: true; the input reads as it did. -/
def fnExactClassesOfUptoRow : OpenClaim := { program := "ytcfmfbgnfpgpgaa", sum := "39cd844e350f6173d446af848d27484c58e5b888020b23d3a8951819e2e44190", func := "loop.example/g01127/laws.FnExactClassesOf", spec := "fnExactClassesOf", unfollowed := true, recurses := true, apart := false, narrowed := true }
def FnExactClassesOfUptoSaid : Prop := fnExactClassesOfUptoRow.holds Try.pinned (OpenSpec.upto fnExactClassesOfSpec)

end Rows
end Go.Proofs.Ytcfmfbgnfpgpgaa
