/-
  No cell of these rows narrows 'for every input' (looked for: loops, veiled, ifaces, maps, wideKeys, modest, calm, conditions, laid).
  DERIVED. THE GIVEN ROWS OF THIS SEAT. 14 by the template 'for every input the law returns true; each argument reads behind the call as it read before'; 0 by the template 'total and deterministic' (their statements: YtieljgfocgdngaaTotals.lean).
  GIVEN WITH THE SEED: the statements are not yours to turn. If you find one false, say at which input.
  Laid BY PROGRAM, IN A SANDBOX (cutbox-rows.mjs): the forced cells as the released guide's own fill.sh prints them over the translation bfccefbc77b56ac1… (all of the seat's roots in one cut). By AI agents, Wed Nov 11 2026. No macro, syntax, notation, axiom, sorry.
-/
import Derived.Test.YtieljgfocgdngaaChecked
import GoSem.Claim
import GoSem.ClaimJoined
import GoSem.ClaimMapViews
import Derived.JoinedTies
import Derived.KernelRfl
namespace Go.Proofs.Ytieljgfocgdngaa
/- THE CELL 'sum', in the pinned program and in every row, IS THE sha256 OF THE DUMP (.gsa) THAT YtieljgfocgdngaaProg.lean LOADS. Nothing in Lean hashes anything: it is a label: what it is worth is what the hold of that sum in a sandbox is worth. -/
noncomputable def Try.pinned : Pinned := { name := "ytieljgfocgdngaa", sum := "bfccefbc77b56ac10d992e241cf07da9300dae068a046217a6eb63e452f29e70", checked := Try.checked }
namespace Rows
def none {H : Type} : Left H := { results := [], args := [] }

/-- 'laws.FnExactSubExpr': WHATEVER THE INPUT: true; the input reads as it did. -/
def fnExactSubExprSpec : ChangeSpec := { name := "fnExactSubExpr", fn := fun _ => fun
  | [d1, d2] => { results := [.lit (.bool true)], args := [d1, d2] }
  | _ => none }
def fnExactSubExprRow : OpenClaim := { program := "ytieljgfocgdngaa", sum := "bfccefbc77b56ac10d992e241cf07da9300dae068a046217a6eb63e452f29e70", func := "loop.example/g01127/laws.FnExactSubExpr", spec := "fnExactSubExpr", unfollowed := true, recurses := true, apart := false }
def FnExactSubExprSaid : Prop := fnExactSubExprRow.holds Try.pinned (OpenSpec.ofChange fnExactSubExprSpec)

/-- ITS FALSE NEIGHBOUR: 'it returns false'. Refute it at one input. -/
def fnExactSubExprWrong : ChangeSpec := { name := "fnExactSubExpr", fn := fun _ => fun
  | [d1, d2] => { results := [.lit (.bool false)], args := [d1, d2] }
  | _ => none }
def FnExactSubExprWrongFalsely : Prop := fnExactSubExprRow.holds Try.pinned (OpenSpec.ofChange fnExactSubExprWrong)

/-- 'laws.FnExactExpandExpr': WHATEVER THE INPUT: true; the input reads as it did. -/
def fnExactExpandExprSpec : ChangeSpec := { name := "fnExactExpandExpr", fn := fun _ => fun
  | [d] => { results := [.lit (.bool true)], args := [d] }
  | _ => none }
def fnExactExpandExprRow : OpenClaim := { program := "ytieljgfocgdngaa", sum := "bfccefbc77b56ac10d992e241cf07da9300dae068a046217a6eb63e452f29e70", func := "loop.example/g01127/laws.FnExactExpandExpr", spec := "fnExactExpandExpr", unfollowed := true, recurses := true, apart := false }
def FnExactExpandExprSaid : Prop := fnExactExpandExprRow.holds Try.pinned (OpenSpec.ofChange fnExactExpandExprSpec)

/-- ITS FALSE NEIGHBOUR: 'it returns false'. Refute it at one input. -/
def fnExactExpandExprWrong : ChangeSpec := { name := "fnExactExpandExpr", fn := fun _ => fun
  | [d] => { results := [.lit (.bool false)], args := [d] }
  | _ => none }
def FnExactExpandExprWrongFalsely : Prop := fnExactExpandExprRow.holds Try.pinned (OpenSpec.ofChange fnExactExpandExprWrong)

/-- 'laws.FnExactShareExpr': WHATEVER THE INPUT: true; the input reads as it did. -/
def fnExactShareExprSpec : ChangeSpec := { name := "fnExactShareExpr", fn := fun _ => fun
  | [d] => { results := [.lit (.bool true)], args := [d] }
  | _ => none }
def fnExactShareExprRow : OpenClaim := { program := "ytieljgfocgdngaa", sum := "bfccefbc77b56ac10d992e241cf07da9300dae068a046217a6eb63e452f29e70", func := "loop.example/g01127/laws.FnExactShareExpr", spec := "fnExactShareExpr", unfollowed := true, recurses := true, apart := false }
def FnExactShareExprSaid : Prop := fnExactShareExprRow.holds Try.pinned (OpenSpec.ofChange fnExactShareExprSpec)

/-- ITS FALSE NEIGHBOUR: 'it returns false'. Refute it at one input. -/
def fnExactShareExprWrong : ChangeSpec := { name := "fnExactShareExpr", fn := fun _ => fun
  | [d] => { results := [.lit (.bool false)], args := [d] }
  | _ => none }
def FnExactShareExprWrongFalsely : Prop := fnExactShareExprRow.holds Try.pinned (OpenSpec.ofChange fnExactShareExprWrong)

/-- 'laws.FnExactFoldExpr': WHATEVER THE INPUT: true; the input reads as it did. -/
def fnExactFoldExprSpec : ChangeSpec := { name := "fnExactFoldExpr", fn := fun _ => fun
  | [d] => { results := [.lit (.bool true)], args := [d] }
  | _ => none }
def fnExactFoldExprRow : OpenClaim := { program := "ytieljgfocgdngaa", sum := "bfccefbc77b56ac10d992e241cf07da9300dae068a046217a6eb63e452f29e70", func := "loop.example/g01127/laws.FnExactFoldExpr", spec := "fnExactFoldExpr", unfollowed := true, recurses := true, apart := false }
def FnExactFoldExprSaid : Prop := fnExactFoldExprRow.holds Try.pinned (OpenSpec.ofChange fnExactFoldExprSpec)

/-- ITS FALSE NEIGHBOUR: 'it returns false'. Refute it at one input. -/
def fnExactFoldExprWrong : ChangeSpec := { name := "fnExactFoldExpr", fn := fun _ => fun
  | [d] => { results := [.lit (.bool false)], args := [d] }
  | _ => none }
def FnExactFoldExprWrongFalsely : Prop := fnExactFoldExprRow.holds Try.pinned (OpenSpec.ofChange fnExactFoldExprWrong)

/-- 'laws.FnExactPutInput': WHATEVER THE INPUT: true; the input reads as it did. -/
def fnExactPutInputSpec : ChangeSpec := { name := "fnExactPutInput", fn := fun _ => fun
  | [d1, d2, d3] => { results := [.lit (.bool true)], args := [d1, d2, d3] }
  | _ => none }
def fnExactPutInputRow : OpenClaim := { program := "ytieljgfocgdngaa", sum := "bfccefbc77b56ac10d992e241cf07da9300dae068a046217a6eb63e452f29e70", func := "loop.example/g01127/laws.FnExactPutInput", spec := "fnExactPutInput", unfollowed := true, recurses := true, apart := false }
def FnExactPutInputSaid : Prop := fnExactPutInputRow.holds Try.pinned (OpenSpec.ofChange fnExactPutInputSpec)

/-- ITS FALSE NEIGHBOUR: 'it returns false'. Refute it at one input. -/
def fnExactPutInputWrong : ChangeSpec := { name := "fnExactPutInput", fn := fun _ => fun
  | [d1, d2, d3] => { results := [.lit (.bool false)], args := [d1, d2, d3] }
  | _ => none }
def FnExactPutInputWrongFalsely : Prop := fnExactPutInputRow.holds Try.pinned (OpenSpec.ofChange fnExactPutInputWrong)

/-- 'laws.FnExactFirstDifference': WHATEVER THE INPUT: true; the input reads as it did. -/
def fnExactFirstDifferenceSpec : ChangeSpec := { name := "fnExactFirstDifference", fn := fun _ => fun
  | [d1, d2] => { results := [.lit (.bool true)], args := [d1, d2] }
  | _ => none }
def fnExactFirstDifferenceRow : OpenClaim := { program := "ytieljgfocgdngaa", sum := "bfccefbc77b56ac10d992e241cf07da9300dae068a046217a6eb63e452f29e70", func := "loop.example/g01127/laws.FnExactFirstDifference", spec := "fnExactFirstDifference", unfollowed := true, recurses := true, apart := false }
def FnExactFirstDifferenceSaid : Prop := fnExactFirstDifferenceRow.holds Try.pinned (OpenSpec.ofChange fnExactFirstDifferenceSpec)

/-- ITS FALSE NEIGHBOUR: 'it returns false'. Refute it at one input. -/
def fnExactFirstDifferenceWrong : ChangeSpec := { name := "fnExactFirstDifference", fn := fun _ => fun
  | [d1, d2] => { results := [.lit (.bool false)], args := [d1, d2] }
  | _ => none }
def FnExactFirstDifferenceWrongFalsely : Prop := fnExactFirstDifferenceRow.holds Try.pinned (OpenSpec.ofChange fnExactFirstDifferenceWrong)

/-- 'laws.FnExactCountDifferences': WHATEVER THE INPUT: true; the input reads as it did. -/
def fnExactCountDifferencesSpec : ChangeSpec := { name := "fnExactCountDifferences", fn := fun _ => fun
  | [d1, d2] => { results := [.lit (.bool true)], args := [d1, d2] }
  | _ => none }
def fnExactCountDifferencesRow : OpenClaim := { program := "ytieljgfocgdngaa", sum := "bfccefbc77b56ac10d992e241cf07da9300dae068a046217a6eb63e452f29e70", func := "loop.example/g01127/laws.FnExactCountDifferences", spec := "fnExactCountDifferences", unfollowed := true, recurses := true, apart := false }
def FnExactCountDifferencesSaid : Prop := fnExactCountDifferencesRow.holds Try.pinned (OpenSpec.ofChange fnExactCountDifferencesSpec)

/-- ITS FALSE NEIGHBOUR: 'it returns false'. Refute it at one input. -/
def fnExactCountDifferencesWrong : ChangeSpec := { name := "fnExactCountDifferences", fn := fun _ => fun
  | [d1, d2] => { results := [.lit (.bool false)], args := [d1, d2] }
  | _ => none }
def FnExactCountDifferencesWrongFalsely : Prop := fnExactCountDifferencesRow.holds Try.pinned (OpenSpec.ofChange fnExactCountDifferencesWrong)

/-- 'laws.FnExactIsRule': WHATEVER THE INPUT: true; the input reads as it did. -/
def fnExactIsRuleSpec : ChangeSpec := { name := "fnExactIsRule", fn := fun _ => fun
  | [d] => { results := [.lit (.bool true)], args := [d] }
  | _ => none }
def fnExactIsRuleRow : OpenClaim := { program := "ytieljgfocgdngaa", sum := "bfccefbc77b56ac10d992e241cf07da9300dae068a046217a6eb63e452f29e70", func := "loop.example/g01127/laws.FnExactIsRule", spec := "fnExactIsRule", unfollowed := true, recurses := true, apart := false }
def FnExactIsRuleSaid : Prop := fnExactIsRuleRow.holds Try.pinned (OpenSpec.ofChange fnExactIsRuleSpec)

/-- ITS FALSE NEIGHBOUR: 'it returns false'. Refute it at one input. -/
def fnExactIsRuleWrong : ChangeSpec := { name := "fnExactIsRule", fn := fun _ => fun
  | [d] => { results := [.lit (.bool false)], args := [d] }
  | _ => none }
def FnExactIsRuleWrongFalsely : Prop := fnExactIsRuleRow.holds Try.pinned (OpenSpec.ofChange fnExactIsRuleWrong)

/-- 'laws.FnExactFitsSide': WHATEVER THE INPUT: true; the input reads as it did. -/
def fnExactFitsSideSpec : ChangeSpec := { name := "fnExactFitsSide", fn := fun _ => fun
  | [d1, d2] => { results := [.lit (.bool true)], args := [d1, d2] }
  | _ => none }
def fnExactFitsSideRow : OpenClaim := { program := "ytieljgfocgdngaa", sum := "bfccefbc77b56ac10d992e241cf07da9300dae068a046217a6eb63e452f29e70", func := "loop.example/g01127/laws.FnExactFitsSide", spec := "fnExactFitsSide", apart := false }
def FnExactFitsSideSaid : Prop := fnExactFitsSideRow.holds Try.pinned (OpenSpec.ofChange fnExactFitsSideSpec)

/-- ITS FALSE NEIGHBOUR: 'it returns false'. Refute it at one input. -/
def fnExactFitsSideWrong : ChangeSpec := { name := "fnExactFitsSide", fn := fun _ => fun
  | [d1, d2] => { results := [.lit (.bool false)], args := [d1, d2] }
  | _ => none }
def FnExactFitsSideWrongFalsely : Prop := fnExactFitsSideRow.holds Try.pinned (OpenSpec.ofChange fnExactFitsSideWrong)

/-- 'laws.FnExactCostOfExpr': WHATEVER THE INPUT: true; the input reads as it did. -/
def fnExactCostOfExprSpec : ChangeSpec := { name := "fnExactCostOfExpr", fn := fun _ => fun
  | [d] => { results := [.lit (.bool true)], args := [d] }
  | _ => none }
def fnExactCostOfExprRow : OpenClaim := { program := "ytieljgfocgdngaa", sum := "bfccefbc77b56ac10d992e241cf07da9300dae068a046217a6eb63e452f29e70", func := "loop.example/g01127/laws.FnExactCostOfExpr", spec := "fnExactCostOfExpr", apart := false }
def FnExactCostOfExprSaid : Prop := fnExactCostOfExprRow.holds Try.pinned (OpenSpec.ofChange fnExactCostOfExprSpec)

/-- ITS FALSE NEIGHBOUR: 'it returns false'. Refute it at one input. -/
def fnExactCostOfExprWrong : ChangeSpec := { name := "fnExactCostOfExpr", fn := fun _ => fun
  | [d] => { results := [.lit (.bool false)], args := [d] }
  | _ => none }
def FnExactCostOfExprWrongFalsely : Prop := fnExactCostOfExprRow.holds Try.pinned (OpenSpec.ofChange fnExactCostOfExprWrong)

/-- 'laws.FnExactIsFalling': WHATEVER THE INPUT: true; the input reads as it did. -/
def fnExactIsFallingSpec : ChangeSpec := { name := "fnExactIsFalling", fn := fun _ => fun
  | [d] => { results := [.lit (.bool true)], args := [d] }
  | _ => none }
def fnExactIsFallingRow : OpenClaim := { program := "ytieljgfocgdngaa", sum := "bfccefbc77b56ac10d992e241cf07da9300dae068a046217a6eb63e452f29e70", func := "loop.example/g01127/laws.FnExactIsFalling", spec := "fnExactIsFalling", unfollowed := true, recurses := true, apart := false }
def FnExactIsFallingSaid : Prop := fnExactIsFallingRow.holds Try.pinned (OpenSpec.ofChange fnExactIsFallingSpec)

/-- ITS FALSE NEIGHBOUR: 'it returns false'. Refute it at one input. -/
def fnExactIsFallingWrong : ChangeSpec := { name := "fnExactIsFalling", fn := fun _ => fun
  | [d] => { results := [.lit (.bool false)], args := [d] }
  | _ => none }
def FnExactIsFallingWrongFalsely : Prop := fnExactIsFallingRow.holds Try.pinned (OpenSpec.ofChange fnExactIsFallingWrong)

/-- 'laws.FnExactProveRule': WHATEVER THE INPUT: true; the input reads as it did. -/
def fnExactProveRuleSpec : ChangeSpec := { name := "fnExactProveRule", fn := fun _ => fun
  | [d] => { results := [.lit (.bool true)], args := [d] }
  | _ => none }
def fnExactProveRuleRow : OpenClaim := { program := "ytieljgfocgdngaa", sum := "bfccefbc77b56ac10d992e241cf07da9300dae068a046217a6eb63e452f29e70", func := "loop.example/g01127/laws.FnExactProveRule", spec := "fnExactProveRule", unfollowed := true, recurses := true, apart := false }
def FnExactProveRuleSaid : Prop := fnExactProveRuleRow.holds Try.pinned (OpenSpec.ofChange fnExactProveRuleSpec)

/-- ITS FALSE NEIGHBOUR: 'it returns false'. Refute it at one input. -/
def fnExactProveRuleWrong : ChangeSpec := { name := "fnExactProveRule", fn := fun _ => fun
  | [d] => { results := [.lit (.bool false)], args := [d] }
  | _ => none }
def FnExactProveRuleWrongFalsely : Prop := fnExactProveRuleRow.holds Try.pinned (OpenSpec.ofChange fnExactProveRuleWrong)

/-- 'laws.FnExactRefuteRule': WHATEVER THE INPUT: true; the input reads as it did. -/
def fnExactRefuteRuleSpec : ChangeSpec := { name := "fnExactRefuteRule", fn := fun _ => fun
  | [d] => { results := [.lit (.bool true)], args := [d] }
  | _ => none }
def fnExactRefuteRuleRow : OpenClaim := { program := "ytieljgfocgdngaa", sum := "bfccefbc77b56ac10d992e241cf07da9300dae068a046217a6eb63e452f29e70", func := "loop.example/g01127/laws.FnExactRefuteRule", spec := "fnExactRefuteRule", unfollowed := true, recurses := true, apart := false }
def FnExactRefuteRuleSaid : Prop := fnExactRefuteRuleRow.holds Try.pinned (OpenSpec.ofChange fnExactRefuteRuleSpec)

/-- ITS FALSE NEIGHBOUR: 'it returns false'. Refute it at one input. -/
def fnExactRefuteRuleWrong : ChangeSpec := { name := "fnExactRefuteRule", fn := fun _ => fun
  | [d] => { results := [.lit (.bool false)], args := [d] }
  | _ => none }
def FnExactRefuteRuleWrongFalsely : Prop := fnExactRefuteRuleRow.holds Try.pinned (OpenSpec.ofChange fnExactRefuteRuleWrong)

/-- 'laws.FnExactCountRefuting': WHATEVER THE INPUT: true; the input reads as it did. -/
def fnExactCountRefutingSpec : ChangeSpec := { name := "fnExactCountRefuting", fn := fun _ => fun
  | [d] => { results := [.lit (.bool true)], args := [d] }
  | _ => none }
def fnExactCountRefutingRow : OpenClaim := { program := "ytieljgfocgdngaa", sum := "bfccefbc77b56ac10d992e241cf07da9300dae068a046217a6eb63e452f29e70", func := "loop.example/g01127/laws.FnExactCountRefuting", spec := "fnExactCountRefuting", unfollowed := true, recurses := true, apart := false }
def FnExactCountRefutingSaid : Prop := fnExactCountRefutingRow.holds Try.pinned (OpenSpec.ofChange fnExactCountRefutingSpec)

/-- ITS FALSE NEIGHBOUR: 'it returns false'. Refute it at one input. -/
def fnExactCountRefutingWrong : ChangeSpec := { name := "fnExactCountRefuting", fn := fun _ => fun
  | [d] => { results := [.lit (.bool false)], args := [d] }
  | _ => none }
def FnExactCountRefutingWrongFalsely : Prop := fnExactCountRefutingRow.holds Try.pinned (OpenSpec.ofChange fnExactCountRefutingWrong)

/- THE SECOND FORM. 'bulk': how many values and letters a reading holds, each counted each time it is reached (what is shared counts as often as it is met; a slice's spare places count too). A statement '..UptoSaid' is the law's where the arguments, and the package variables that the reading takes, are together of bulk at most 1048576: NARROWER than '..Said'. Prove '..Said' where nothing that the law and all that it calls make is longer than what came in: it says more and counts as full. Else prove '..UptoSaid'. A law counts once. -/
mutual
def uptoBulk {H : Type} : DataW H → Nat
  | .lit (.string bytes) => bytes.length + 1
  | .lit _ => 1
  | .nil => 1
  | .ptr d => uptoBulk d + 1
  | .slice elems spare => uptoBulkAll elems + uptoBulkAll spare + 1
  | .agg parts => uptoBulkAll parts + 1
  | .iface _ d => uptoBulk d + 1
  | .map entries => uptoBulkEntries entries + 1
  | .held _ => 1
def uptoBulkAll {H : Type} : List (DataW H) → Nat
  | [] => 0
  | d :: r => uptoBulk d + uptoBulkAll r
def uptoBulkEntries {H : Type} : List (Lit × DataW H) → Nat
  | [] => 0
  | x :: r => uptoBulkEntry x + uptoBulkEntries r
def uptoBulkEntry {H : Type} : Lit × DataW H → Nat
  | (.string bytes, d) => bytes.length + uptoBulk d + 1
  | (_, d) => uptoBulk d + 1
 end
def uptoSmall : (H : Type) → List (DataW H) → Bool := fun _ ds => decide (uptoBulkAll ds ≤ 1048576)
def OpenSpec.upto (s : _root_.Go.ChangeSpec) : _root_.Go.OpenSpec := { _root_.Go.OpenSpec.ofChange s with cond := some uptoSmall }

/-- 'laws.FnExactSubExpr', WHERE WHAT IT READS IS OF BULK AT MOST 1048576: true; the input reads as it did. -/
def fnExactSubExprUptoRow : OpenClaim := { program := "ytieljgfocgdngaa", sum := "bfccefbc77b56ac10d992e241cf07da9300dae068a046217a6eb63e452f29e70", func := "loop.example/g01127/laws.FnExactSubExpr", spec := "fnExactSubExpr", unfollowed := true, recurses := true, apart := false, narrowed := true }
def FnExactSubExprUptoSaid : Prop := fnExactSubExprUptoRow.holds Try.pinned (OpenSpec.upto fnExactSubExprSpec)

/-- 'laws.FnExactExpandExpr', WHERE WHAT IT READS IS OF BULK AT MOST 1048576: true; the input reads as it did. -/
def fnExactExpandExprUptoRow : OpenClaim := { program := "ytieljgfocgdngaa", sum := "bfccefbc77b56ac10d992e241cf07da9300dae068a046217a6eb63e452f29e70", func := "loop.example/g01127/laws.FnExactExpandExpr", spec := "fnExactExpandExpr", unfollowed := true, recurses := true, apart := false, narrowed := true }
def FnExactExpandExprUptoSaid : Prop := fnExactExpandExprUptoRow.holds Try.pinned (OpenSpec.upto fnExactExpandExprSpec)

/-- 'laws.FnExactShareExpr', WHERE WHAT IT READS IS OF BULK AT MOST 1048576: true; the input reads as it did. -/
def fnExactShareExprUptoRow : OpenClaim := { program := "ytieljgfocgdngaa", sum := "bfccefbc77b56ac10d992e241cf07da9300dae068a046217a6eb63e452f29e70", func := "loop.example/g01127/laws.FnExactShareExpr", spec := "fnExactShareExpr", unfollowed := true, recurses := true, apart := false, narrowed := true }
def FnExactShareExprUptoSaid : Prop := fnExactShareExprUptoRow.holds Try.pinned (OpenSpec.upto fnExactShareExprSpec)

/-- 'laws.FnExactFoldExpr', WHERE WHAT IT READS IS OF BULK AT MOST 1048576: true; the input reads as it did. -/
def fnExactFoldExprUptoRow : OpenClaim := { program := "ytieljgfocgdngaa", sum := "bfccefbc77b56ac10d992e241cf07da9300dae068a046217a6eb63e452f29e70", func := "loop.example/g01127/laws.FnExactFoldExpr", spec := "fnExactFoldExpr", unfollowed := true, recurses := true, apart := false, narrowed := true }
def FnExactFoldExprUptoSaid : Prop := fnExactFoldExprUptoRow.holds Try.pinned (OpenSpec.upto fnExactFoldExprSpec)

/-- 'laws.FnExactPutInput', WHERE WHAT IT READS IS OF BULK AT MOST 1048576: true; the input reads as it did. -/
def fnExactPutInputUptoRow : OpenClaim := { program := "ytieljgfocgdngaa", sum := "bfccefbc77b56ac10d992e241cf07da9300dae068a046217a6eb63e452f29e70", func := "loop.example/g01127/laws.FnExactPutInput", spec := "fnExactPutInput", unfollowed := true, recurses := true, apart := false, narrowed := true }
def FnExactPutInputUptoSaid : Prop := fnExactPutInputUptoRow.holds Try.pinned (OpenSpec.upto fnExactPutInputSpec)

/-- 'laws.FnExactFirstDifference', WHERE WHAT IT READS IS OF BULK AT MOST 1048576: true; the input reads as it did. -/
def fnExactFirstDifferenceUptoRow : OpenClaim := { program := "ytieljgfocgdngaa", sum := "bfccefbc77b56ac10d992e241cf07da9300dae068a046217a6eb63e452f29e70", func := "loop.example/g01127/laws.FnExactFirstDifference", spec := "fnExactFirstDifference", unfollowed := true, recurses := true, apart := false, narrowed := true }
def FnExactFirstDifferenceUptoSaid : Prop := fnExactFirstDifferenceUptoRow.holds Try.pinned (OpenSpec.upto fnExactFirstDifferenceSpec)

/-- 'laws.FnExactCountDifferences', WHERE WHAT IT READS IS OF BULK AT MOST 1048576: true; the input reads as it did. -/
def fnExactCountDifferencesUptoRow : OpenClaim := { program := "ytieljgfocgdngaa", sum := "bfccefbc77b56ac10d992e241cf07da9300dae068a046217a6eb63e452f29e70", func := "loop.example/g01127/laws.FnExactCountDifferences", spec := "fnExactCountDifferences", unfollowed := true, recurses := true, apart := false, narrowed := true }
def FnExactCountDifferencesUptoSaid : Prop := fnExactCountDifferencesUptoRow.holds Try.pinned (OpenSpec.upto fnExactCountDifferencesSpec)

/-- 'laws.FnExactIsRule', WHERE WHAT IT READS IS OF BULK AT MOST 1048576: true; the input reads as it did. -/
def fnExactIsRuleUptoRow : OpenClaim := { program := "ytieljgfocgdngaa", sum := "bfccefbc77b56ac10d992e241cf07da9300dae068a046217a6eb63e452f29e70", func := "loop.example/g01127/laws.FnExactIsRule", spec := "fnExactIsRule", unfollowed := true, recurses := true, apart := false, narrowed := true }
def FnExactIsRuleUptoSaid : Prop := fnExactIsRuleUptoRow.holds Try.pinned (OpenSpec.upto fnExactIsRuleSpec)

/-- 'laws.FnExactFitsSide', WHERE WHAT IT READS IS OF BULK AT MOST 1048576: true; the input reads as it did. -/
def fnExactFitsSideUptoRow : OpenClaim := { program := "ytieljgfocgdngaa", sum := "bfccefbc77b56ac10d992e241cf07da9300dae068a046217a6eb63e452f29e70", func := "loop.example/g01127/laws.FnExactFitsSide", spec := "fnExactFitsSide", apart := false, narrowed := true }
def FnExactFitsSideUptoSaid : Prop := fnExactFitsSideUptoRow.holds Try.pinned (OpenSpec.upto fnExactFitsSideSpec)

/-- 'laws.FnExactCostOfExpr', WHERE WHAT IT READS IS OF BULK AT MOST 1048576: true; the input reads as it did. -/
def fnExactCostOfExprUptoRow : OpenClaim := { program := "ytieljgfocgdngaa", sum := "bfccefbc77b56ac10d992e241cf07da9300dae068a046217a6eb63e452f29e70", func := "loop.example/g01127/laws.FnExactCostOfExpr", spec := "fnExactCostOfExpr", apart := false, narrowed := true }
def FnExactCostOfExprUptoSaid : Prop := fnExactCostOfExprUptoRow.holds Try.pinned (OpenSpec.upto fnExactCostOfExprSpec)

/-- 'laws.FnExactIsFalling', WHERE WHAT IT READS IS OF BULK AT MOST 1048576: true; the input reads as it did. -/
def fnExactIsFallingUptoRow : OpenClaim := { program := "ytieljgfocgdngaa", sum := "bfccefbc77b56ac10d992e241cf07da9300dae068a046217a6eb63e452f29e70", func := "loop.example/g01127/laws.FnExactIsFalling", spec := "fnExactIsFalling", unfollowed := true, recurses := true, apart := false, narrowed := true }
def FnExactIsFallingUptoSaid : Prop := fnExactIsFallingUptoRow.holds Try.pinned (OpenSpec.upto fnExactIsFallingSpec)

/-- 'laws.FnExactProveRule', WHERE WHAT IT READS IS OF BULK AT MOST 1048576: true; the input reads as it did. -/
def fnExactProveRuleUptoRow : OpenClaim := { program := "ytieljgfocgdngaa", sum := "bfccefbc77b56ac10d992e241cf07da9300dae068a046217a6eb63e452f29e70", func := "loop.example/g01127/laws.FnExactProveRule", spec := "fnExactProveRule", unfollowed := true, recurses := true, apart := false, narrowed := true }
def FnExactProveRuleUptoSaid : Prop := fnExactProveRuleUptoRow.holds Try.pinned (OpenSpec.upto fnExactProveRuleSpec)

/-- 'laws.FnExactRefuteRule', WHERE WHAT IT READS IS OF BULK AT MOST 1048576: true; the input reads as it did. -/
def fnExactRefuteRuleUptoRow : OpenClaim := { program := "ytieljgfocgdngaa", sum := "bfccefbc77b56ac10d992e241cf07da9300dae068a046217a6eb63e452f29e70", func := "loop.example/g01127/laws.FnExactRefuteRule", spec := "fnExactRefuteRule", unfollowed := true, recurses := true, apart := false, narrowed := true }
def FnExactRefuteRuleUptoSaid : Prop := fnExactRefuteRuleUptoRow.holds Try.pinned (OpenSpec.upto fnExactRefuteRuleSpec)

/-- 'laws.FnExactCountRefuting', WHERE WHAT IT READS IS OF BULK AT MOST 1048576: true; the input reads as it did. -/
def fnExactCountRefutingUptoRow : OpenClaim := { program := "ytieljgfocgdngaa", sum := "bfccefbc77b56ac10d992e241cf07da9300dae068a046217a6eb63e452f29e70", func := "loop.example/g01127/laws.FnExactCountRefuting", spec := "fnExactCountRefuting", unfollowed := true, recurses := true, apart := false, narrowed := true }
def FnExactCountRefutingUptoSaid : Prop := fnExactCountRefutingUptoRow.holds Try.pinned (OpenSpec.upto fnExactCountRefutingSpec)

end Rows
end Go.Proofs.Ytieljgfocgdngaa
