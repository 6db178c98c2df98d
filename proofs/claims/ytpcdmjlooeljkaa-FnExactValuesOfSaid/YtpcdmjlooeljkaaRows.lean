/-
  No cell of these rows narrows 'for every input' (looked for: loops, veiled, ifaces, maps, wideKeys, modest, calm, conditions, laid).
  DERIVED. THE GIVEN ROWS OF THIS SEAT. 8 by the template 'for every input the law returns true; each argument reads behind the call as it read before'; 0 by the template 'total and deterministic' (their statements: YtpcdmjlooeljkaaTotals.lean).
  GIVEN WITH THE SEED: the statements are not yours to turn. If you find one false, say at which input.
  Laid BY PROGRAM, IN A SANDBOX (cutbox-rows.mjs): the forced cells as the released guide's own fill.sh prints them over the translation 9574e3ca2c515f96… (all of the seat's roots in one cut). By AI agents, Wed Nov 11 2026. No macro, syntax, notation, axiom, sorry.
-/
import Derived.Test.YtpcdmjlooeljkaaChecked
import GoSem.Claim
import GoSem.ClaimJoined
import GoSem.ClaimMapViews
import Derived.JoinedTies
import Derived.KernelRfl
namespace Go.Proofs.Ytpcdmjlooeljkaa
/- THE CELL 'sum', in the pinned program and in every row, IS THE sha256 OF THE DUMP (.gsa) THAT YtpcdmjlooeljkaaProg.lean LOADS. Nothing in Lean hashes anything: it is a label: what it is worth is what the hold of that sum in a sandbox is worth. -/
noncomputable def Try.pinned : Pinned := { name := "ytpcdmjlooeljkaa", sum := "9574e3ca2c515f9601ef998676bd6718018955705618629f1fc57ce4640993fc", checked := Try.checked }
namespace Rows
def none {H : Type} : Left H := { results := [], args := [] }

/-- 'laws.FnExactEvalExpr': WHATEVER THE INPUT: true; the input reads as it did. -/
def fnExactEvalExprSpec : ChangeSpec := { name := "fnExactEvalExpr", fn := fun _ => fun
  | [d1, d2, d3] => { results := [.lit (.bool true)], args := [d1, d2, d3] }
  | _ => none }
def fnExactEvalExprRow : OpenClaim := { program := "ytpcdmjlooeljkaa", sum := "9574e3ca2c515f9601ef998676bd6718018955705618629f1fc57ce4640993fc", func := "loop.example/g01127/laws.FnExactEvalExpr", spec := "fnExactEvalExpr", apart := false }
def FnExactEvalExprSaid : Prop := fnExactEvalExprRow.holds Try.pinned (OpenSpec.ofChange fnExactEvalExprSpec)

/-- ITS FALSE NEIGHBOUR: 'it returns false'. Refute it at one input. -/
def fnExactEvalExprWrong : ChangeSpec := { name := "fnExactEvalExpr", fn := fun _ => fun
  | [d1, d2, d3] => { results := [.lit (.bool false)], args := [d1, d2, d3] }
  | _ => none }
def FnExactEvalExprWrongFalsely : Prop := fnExactEvalExprRow.holds Try.pinned (OpenSpec.ofChange fnExactEvalExprWrong)

/-- 'laws.FnExactValuesOf': WHATEVER THE INPUT: true; the input reads as it did. -/
def fnExactValuesOfSpec : ChangeSpec := { name := "fnExactValuesOf", fn := fun _ => fun
  | [d1, d2, d3] => { results := [.lit (.bool true)], args := [d1, d2, d3] }
  | _ => none }
def fnExactValuesOfRow : OpenClaim := { program := "ytpcdmjlooeljkaa", sum := "9574e3ca2c515f9601ef998676bd6718018955705618629f1fc57ce4640993fc", func := "loop.example/g01127/laws.FnExactValuesOf", spec := "fnExactValuesOf", apart := false }
def FnExactValuesOfSaid : Prop := fnExactValuesOfRow.holds Try.pinned (OpenSpec.ofChange fnExactValuesOfSpec)

/-- ITS FALSE NEIGHBOUR: 'it returns false'. Refute it at one input. -/
def fnExactValuesOfWrong : ChangeSpec := { name := "fnExactValuesOf", fn := fun _ => fun
  | [d1, d2, d3] => { results := [.lit (.bool false)], args := [d1, d2, d3] }
  | _ => none }
def FnExactValuesOfWrongFalsely : Prop := fnExactValuesOfRow.holds Try.pinned (OpenSpec.ofChange fnExactValuesOfWrong)

/-- 'laws.FnExactTableOf': WHATEVER THE INPUT: true; the input reads as it did. -/
def fnExactTableOfSpec : ChangeSpec := { name := "fnExactTableOf", fn := fun _ => fun
  | [d] => { results := [.lit (.bool true)], args := [d] }
  | _ => none }
def fnExactTableOfRow : OpenClaim := { program := "ytpcdmjlooeljkaa", sum := "9574e3ca2c515f9601ef998676bd6718018955705618629f1fc57ce4640993fc", func := "loop.example/g01127/laws.FnExactTableOf", spec := "fnExactTableOf", apart := false }
def FnExactTableOfSaid : Prop := fnExactTableOfRow.holds Try.pinned (OpenSpec.ofChange fnExactTableOfSpec)

/-- ITS FALSE NEIGHBOUR: 'it returns false'. Refute it at one input. -/
def fnExactTableOfWrong : ChangeSpec := { name := "fnExactTableOf", fn := fun _ => fun
  | [d] => { results := [.lit (.bool false)], args := [d] }
  | _ => none }
def FnExactTableOfWrongFalsely : Prop := fnExactTableOfRow.holds Try.pinned (OpenSpec.ofChange fnExactTableOfWrong)

/-- 'laws.FnExactSubExpr': WHATEVER THE INPUT: true; the input reads as it did. -/
def fnExactSubExprSpec : ChangeSpec := { name := "fnExactSubExpr", fn := fun _ => fun
  | [d1, d2] => { results := [.lit (.bool true)], args := [d1, d2] }
  | _ => none }
def fnExactSubExprRow : OpenClaim := { program := "ytpcdmjlooeljkaa", sum := "9574e3ca2c515f9601ef998676bd6718018955705618629f1fc57ce4640993fc", func := "loop.example/g01127/laws.FnExactSubExpr", spec := "fnExactSubExpr", unfollowed := true, recurses := true, apart := false }
def FnExactSubExprSaid : Prop := fnExactSubExprRow.holds Try.pinned (OpenSpec.ofChange fnExactSubExprSpec)

/-- ITS FALSE NEIGHBOUR: 'it returns false'. Refute it at one input. -/
def fnExactSubExprWrong : ChangeSpec := { name := "fnExactSubExpr", fn := fun _ => fun
  | [d1, d2] => { results := [.lit (.bool false)], args := [d1, d2] }
  | _ => none }
def FnExactSubExprWrongFalsely : Prop := fnExactSubExprRow.holds Try.pinned (OpenSpec.ofChange fnExactSubExprWrong)

/-- 'laws.FnExactExpandExpr': WHATEVER THE INPUT: true; the input reads as it did. -/
def fnExactExpandExprSpec : ChangeSpec := { name := "fnExactExpandExpr", fn := fun _ => fun
  | [d] => { results := [.lit (.bool true)], args := [d] }
  | _ => none }
def fnExactExpandExprRow : OpenClaim := { program := "ytpcdmjlooeljkaa", sum := "9574e3ca2c515f9601ef998676bd6718018955705618629f1fc57ce4640993fc", func := "loop.example/g01127/laws.FnExactExpandExpr", spec := "fnExactExpandExpr", unfollowed := true, recurses := true, apart := false }
def FnExactExpandExprSaid : Prop := fnExactExpandExprRow.holds Try.pinned (OpenSpec.ofChange fnExactExpandExprSpec)

/-- ITS FALSE NEIGHBOUR: 'it returns false'. Refute it at one input. -/
def fnExactExpandExprWrong : ChangeSpec := { name := "fnExactExpandExpr", fn := fun _ => fun
  | [d] => { results := [.lit (.bool false)], args := [d] }
  | _ => none }
def FnExactExpandExprWrongFalsely : Prop := fnExactExpandExprRow.holds Try.pinned (OpenSpec.ofChange fnExactExpandExprWrong)

/-- 'laws.FnExactShareExpr': WHATEVER THE INPUT: true; the input reads as it did. -/
def fnExactShareExprSpec : ChangeSpec := { name := "fnExactShareExpr", fn := fun _ => fun
  | [d] => { results := [.lit (.bool true)], args := [d] }
  | _ => none }
def fnExactShareExprRow : OpenClaim := { program := "ytpcdmjlooeljkaa", sum := "9574e3ca2c515f9601ef998676bd6718018955705618629f1fc57ce4640993fc", func := "loop.example/g01127/laws.FnExactShareExpr", spec := "fnExactShareExpr", unfollowed := true, recurses := true, apart := false }
def FnExactShareExprSaid : Prop := fnExactShareExprRow.holds Try.pinned (OpenSpec.ofChange fnExactShareExprSpec)

/-- ITS FALSE NEIGHBOUR: 'it returns false'. Refute it at one input. -/
def fnExactShareExprWrong : ChangeSpec := { name := "fnExactShareExpr", fn := fun _ => fun
  | [d] => { results := [.lit (.bool false)], args := [d] }
  | _ => none }
def FnExactShareExprWrongFalsely : Prop := fnExactShareExprRow.holds Try.pinned (OpenSpec.ofChange fnExactShareExprWrong)

/-- 'laws.FnExactFoldExpr': WHATEVER THE INPUT: true; the input reads as it did. -/
def fnExactFoldExprSpec : ChangeSpec := { name := "fnExactFoldExpr", fn := fun _ => fun
  | [d] => { results := [.lit (.bool true)], args := [d] }
  | _ => none }
def fnExactFoldExprRow : OpenClaim := { program := "ytpcdmjlooeljkaa", sum := "9574e3ca2c515f9601ef998676bd6718018955705618629f1fc57ce4640993fc", func := "loop.example/g01127/laws.FnExactFoldExpr", spec := "fnExactFoldExpr", unfollowed := true, recurses := true, apart := false }
def FnExactFoldExprSaid : Prop := fnExactFoldExprRow.holds Try.pinned (OpenSpec.ofChange fnExactFoldExprSpec)

/-- ITS FALSE NEIGHBOUR: 'it returns false'. Refute it at one input. -/
def fnExactFoldExprWrong : ChangeSpec := { name := "fnExactFoldExpr", fn := fun _ => fun
  | [d] => { results := [.lit (.bool false)], args := [d] }
  | _ => none }
def FnExactFoldExprWrongFalsely : Prop := fnExactFoldExprRow.holds Try.pinned (OpenSpec.ofChange fnExactFoldExprWrong)

/-- 'laws.FnExactPutInput': WHATEVER THE INPUT: true; the input reads as it did. -/
def fnExactPutInputSpec : ChangeSpec := { name := "fnExactPutInput", fn := fun _ => fun
  | [d1, d2, d3] => { results := [.lit (.bool true)], args := [d1, d2, d3] }
  | _ => none }
def fnExactPutInputRow : OpenClaim := { program := "ytpcdmjlooeljkaa", sum := "9574e3ca2c515f9601ef998676bd6718018955705618629f1fc57ce4640993fc", func := "loop.example/g01127/laws.FnExactPutInput", spec := "fnExactPutInput", unfollowed := true, recurses := true, apart := false }
def FnExactPutInputSaid : Prop := fnExactPutInputRow.holds Try.pinned (OpenSpec.ofChange fnExactPutInputSpec)

/-- ITS FALSE NEIGHBOUR: 'it returns false'. Refute it at one input. -/
def fnExactPutInputWrong : ChangeSpec := { name := "fnExactPutInput", fn := fun _ => fun
  | [d1, d2, d3] => { results := [.lit (.bool false)], args := [d1, d2, d3] }
  | _ => none }
def FnExactPutInputWrongFalsely : Prop := fnExactPutInputRow.holds Try.pinned (OpenSpec.ofChange fnExactPutInputWrong)

/- THE SECOND FORM. 'bulk': how many values and letters a reading holds, each counted each time it is reached (what is shared counts as often as it is met; a slice's spare places count too). A statement '..UptoSaid' is the law's where the arguments, and the package variables that the reading takes, are together of bulk at most 1048576: NARROWER than '..Said'. Prove '..Said' where nothing that the law and all that it calls make is longer than what came in: it says more and counts as full. Else prove '..UptoSaid'. A law counts once. -/
mutual
def uptoBulk {H : Type} : DataW H → Nat
  | .lit (.string bytes) => bytes.length + 1
  | .lit _ => 1
  | .nil => 1
  | .ptr d => uptoBulk d + 1
  | .slice elems spare => uptoBulkAll elems + uptoBulkAll spare + 1
  | .agg parts => uptoBulkAll parts + 1
  | .iface _ d => uptoBulk d + 1
  | .map entries => uptoBulkEntries entries + 1
  | .held _ => 1
def uptoBulkAll {H : Type} : List (DataW H) → Nat
  | [] => 0
  | d :: r => uptoBulk d + uptoBulkAll r
def uptoBulkEntries {H : Type} : List (Lit × DataW H) → Nat
  | [] => 0
  | x :: r => uptoBulkEntry x + uptoBulkEntries r
def uptoBulkEntry {H : Type} : Lit × DataW H → Nat
  | (.string bytes, d) => bytes.length + uptoBulk d + 1
  | (_, d) => uptoBulk d + 1
 end
def uptoSmall : (H : Type) → List (DataW H) → Bool := fun _ ds => decide (uptoBulkAll ds ≤ 1048576)
def OpenSpec.upto (s : _root_.Go.ChangeSpec) : _root_.Go.OpenSpec := { _root_.Go.OpenSpec.ofChange s with cond := some uptoSmall }

/-- 'laws.FnExactEvalExpr', WHERE WHAT IT READS IS OF BULK AT MOST 1048576: true; the input reads as it did. -/
def fnExactEvalExprUptoRow : OpenClaim := { program := "ytpcdmjlooeljkaa", sum := "9574e3ca2c515f9601ef998676bd6718018955705618629f1fc57ce4640993fc", func := "loop.example/g01127/laws.FnExactEvalExpr", spec := "fnExactEvalExpr", apart := false, narrowed := true }
def FnExactEvalExprUptoSaid : Prop := fnExactEvalExprUptoRow.holds Try.pinned (OpenSpec.upto fnExactEvalExprSpec)

/-- 'laws.FnExactValuesOf', WHERE WHAT IT READS IS OF BULK AT MOST 1048576: true; the input reads as it did. -/
def fnExactValuesOfUptoRow : OpenClaim := { program := "ytpcdmjlooeljkaa", sum := "9574e3ca2c515f9601ef998676bd6718018955705618629f1fc57ce4640993fc", func := "loop.example/g01127/laws.FnExactValuesOf", spec := "fnExactValuesOf", apart := false, narrowed := true }
def FnExactValuesOfUptoSaid : Prop := fnExactValuesOfUptoRow.holds Try.pinned (OpenSpec.upto fnExactValuesOfSpec)

/-- 'laws.FnExactTableOf', WHERE WHAT IT READS IS OF BULK AT MOST 1048576: true; the input reads as it did. -/
def fnExactTableOfUptoRow : OpenClaim := { program := "ytpcdmjlooeljkaa", sum := "9574e3ca2c515f9601ef998676bd6718018955705618629f1fc57ce4640993fc", func := "loop.example/g01127/laws.FnExactTableOf", spec := "fnExactTableOf", apart := false, narrowed := true }
def FnExactTableOfUptoSaid : Prop := fnExactTableOfUptoRow.holds Try.pinned (OpenSpec.upto fnExactTableOfSpec)

/-- 'laws.FnExactSubExpr', WHERE WHAT IT READS IS OF BULK AT MOST 1048576: true; the input reads as it did. -/
def fnExactSubExprUptoRow : OpenClaim := { program := "ytpcdmjlooeljkaa", sum := "9574e3ca2c515f9601ef998676bd6718018955705618629f1fc57ce4640993fc", func := "loop.example/g01127/laws.FnExactSubExpr", spec := "fnExactSubExpr", unfollowed := true, recurses := true, apart := false, narrowed := true }
def FnExactSubExprUptoSaid : Prop := fnExactSubExprUptoRow.holds Try.pinned (OpenSpec.upto fnExactSubExprSpec)

/-- 'laws.FnExactExpandExpr', WHERE WHAT IT READS IS OF BULK AT MOST 1048576: true; the input reads as it did. -/
def fnExactExpandExprUptoRow : OpenClaim := { program := "ytpcdmjlooeljkaa", sum := "9574e3ca2c515f9601ef998676bd6718018955705618629f1fc57ce4640993fc", func := "loop.example/g01127/laws.FnExactExpandExpr", spec := "fnExactExpandExpr", unfollowed := true, recurses := true, apart := false, narrowed := true }
def FnExactExpandExprUptoSaid : Prop := fnExactExpandExprUptoRow.holds Try.pinned (OpenSpec.upto fnExactExpandExprSpec)

/-- 'laws.FnExactShareExpr', WHERE WHAT IT READS IS OF BULK AT MOST 1048576: true; the input reads as it did. -/
def fnExactShareExprUptoRow : OpenClaim := { program := "ytpcdmjlooeljkaa", sum := "9574e3ca2c515f9601ef998676bd6718018955705618629f1fc57ce4640993fc", func := "loop.example/g01127/laws.FnExactShareExpr", spec := "fnExactShareExpr", unfollowed := true, recurses := true, apart := false, narrowed := true }
def FnExactShareExprUptoSaid : Prop := fnExactShareExprUptoRow.holds Try.pinned (OpenSpec.upto fnExactShareExprSpec)

/-- 'laws.FnExactFoldExpr', WHERE WHAT IT READS IS OF BULK AT MOST 1048576: true; the input reads as it did. -/
def fnExactFoldExprUptoRow : OpenClaim := { program := "ytpcdmjlooeljkaa", sum := "9574e3ca2c515f9601ef998676bd6718018955705618629f1fc57ce4640993fc", func := "loop.example/g01127/laws.FnExactFoldExpr", spec := "fnExactFoldExpr", unfollowed := true, recurses := true, apart := false, narrowed := true }
def FnExactFoldExprUptoSaid : Prop := fnExactFoldExprUptoRow.holds Try.pinned (OpenSpec.upto fnExactFoldExprSpec)

/-- 'laws.FnExactPutInput', WHERE WHAT IT READS IS OF BULK AT MOST 1048576: true; the input reads as it did. -/
def fnExactPutInputUptoRow : OpenClaim := { program := "ytpcdmjlooeljkaa", sum := "9574e3ca2c515f9601ef998676bd6718018955705618629f1fc57ce4640993fc", func := "loop.example/g01127/laws.FnExactPutInput", spec := "fnExactPutInput", unfollowed := true, recurses := true, apart := false, narrowed := true }
def FnExactPutInputUptoSaid : Prop := fnExactPutInputUptoRow.holds Try.pinned (OpenSpec.upto fnExactPutInputSpec)

end Rows
end Go.Proofs.Ytpcdmjlooeljkaa
