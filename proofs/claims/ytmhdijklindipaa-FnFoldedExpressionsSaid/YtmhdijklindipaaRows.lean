/-
  No cell of these rows narrows 'for every input' (looked for: loops, veiled, ifaces, maps, wideKeys, modest, calm, conditions, laid).
  DERIVED. THE GIVEN ROWS OF THIS SEAT. 10 by the template 'for every input the law returns true; each argument reads behind the call as it read before'; 0 by the template 'total and deterministic' (their statements: YtmhdijklindipaaTotals.lean).
  GIVEN WITH THE SEED: the statements are not yours to turn. If you find one false, say at which input.
  Laid BY PROGRAM, IN A SANDBOX (cutbox-rows.mjs): the forced cells as the released guide's own fill.sh prints them over the translation 62d7e9a5a51d2741… (all of the seat's roots in one cut). By AI agents, Wed Nov 11 2026. No macro, syntax, notation, axiom, sorry.
-/
import Derived.Test.YtmhdijklindipaaChecked
import GoSem.Claim
import GoSem.ClaimJoined
import GoSem.ClaimMapViews
import Derived.JoinedTies
import Derived.KernelRfl
namespace Go.Proofs.Ytmhdijklindipaa
/- THE CELL 'sum', in the pinned program and in every row, IS THE sha256 OF THE DUMP (.gsa) THAT YtmhdijklindipaaProg.lean LOADS. Nothing in Lean hashes anything: it is a label: what it is worth is what the hold of that sum in a sandbox is worth. -/
noncomputable def Try.pinned : Pinned := { name := "ytmhdijklindipaa", sum := "62d7e9a5a51d27411b1628f6b32a34502bcd9ef2cf5611effb41a8f1240bd5b4", checked := Try.checked }
namespace Rows
def none {H : Type} : Left H := { results := [], args := [] }

/-- 'laws.FnValuesOfNodes': WHATEVER THE INPUT: true; the input reads as it did. -/
def fnValuesOfNodesSpec : ChangeSpec := { name := "fnValuesOfNodes", fn := fun _ => fun
  | [d1, d2] => { results := [.lit (.bool true)], args := [d1, d2] }
  | _ => none }
def fnValuesOfNodesRow : OpenClaim := { program := "ytmhdijklindipaa", sum := "62d7e9a5a51d27411b1628f6b32a34502bcd9ef2cf5611effb41a8f1240bd5b4", func := "loop.example/g01127/laws.FnValuesOfNodes", spec := "fnValuesOfNodes", recurses := true, apart := false }
def FnValuesOfNodesSaid : Prop := fnValuesOfNodesRow.holds Try.pinned (OpenSpec.ofChange fnValuesOfNodesSpec)

/-- ITS FALSE NEIGHBOUR: 'it returns false'. Refute it at one input. -/
def fnValuesOfNodesWrong : ChangeSpec := { name := "fnValuesOfNodes", fn := fun _ => fun
  | [d1, d2] => { results := [.lit (.bool false)], args := [d1, d2] }
  | _ => none }
def FnValuesOfNodesWrongFalsely : Prop := fnValuesOfNodesRow.holds Try.pinned (OpenSpec.ofChange fnValuesOfNodesWrong)

/-- 'laws.FnCodeRuns': WHATEVER THE INPUT: true; the input reads as it did. -/
def fnCodeRunsSpec : ChangeSpec := { name := "fnCodeRuns", fn := fun _ => fun
  | [d1, d2] => { results := [.lit (.bool true)], args := [d1, d2] }
  | _ => none }
def fnCodeRunsRow : OpenClaim := { program := "ytmhdijklindipaa", sum := "62d7e9a5a51d27411b1628f6b32a34502bcd9ef2cf5611effb41a8f1240bd5b4", func := "loop.example/g01127/laws.FnCodeRuns", spec := "fnCodeRuns", unfollowed := true, recurses := true, apart := false }
def FnCodeRunsSaid : Prop := fnCodeRunsRow.holds Try.pinned (OpenSpec.ofChange fnCodeRunsSpec)

/-- ITS FALSE NEIGHBOUR: 'it returns false'. Refute it at one input. -/
def fnCodeRunsWrong : ChangeSpec := { name := "fnCodeRuns", fn := fun _ => fun
  | [d1, d2] => { results := [.lit (.bool false)], args := [d1, d2] }
  | _ => none }
def FnCodeRunsWrongFalsely : Prop := fnCodeRunsRow.holds Try.pinned (OpenSpec.ofChange fnCodeRunsWrong)

/-- 'laws.FnInstructionsStep': WHATEVER THE INPUT: true; the input reads as it did. -/
def fnInstructionsStepSpec : ChangeSpec := { name := "fnInstructionsStep", fn := fun _ => fun
  | [d1, d2] => { results := [.lit (.bool true)], args := [d1, d2] }
  | _ => none }
def fnInstructionsStepRow : OpenClaim := { program := "ytmhdijklindipaa", sum := "62d7e9a5a51d27411b1628f6b32a34502bcd9ef2cf5611effb41a8f1240bd5b4", func := "loop.example/g01127/laws.FnInstructionsStep", spec := "fnInstructionsStep", unfollowed := true, recurses := true, apart := false }
def FnInstructionsStepSaid : Prop := fnInstructionsStepRow.holds Try.pinned (OpenSpec.ofChange fnInstructionsStepSpec)

/-- ITS FALSE NEIGHBOUR: 'it returns false'. Refute it at one input. -/
def fnInstructionsStepWrong : ChangeSpec := { name := "fnInstructionsStep", fn := fun _ => fun
  | [d1, d2] => { results := [.lit (.bool false)], args := [d1, d2] }
  | _ => none }
def FnInstructionsStepWrongFalsely : Prop := fnInstructionsStepRow.holds Try.pinned (OpenSpec.ofChange fnInstructionsStepWrong)

/-- 'laws.FnRenamedAndSwapped': WHATEVER THE INPUT: true; the input reads as it did. -/
def fnRenamedAndSwappedSpec : ChangeSpec := { name := "fnRenamedAndSwapped", fn := fun _ => fun
  | [d1, d2] => { results := [.lit (.bool true)], args := [d1, d2] }
  | _ => none }
def fnRenamedAndSwappedRow : OpenClaim := { program := "ytmhdijklindipaa", sum := "62d7e9a5a51d27411b1628f6b32a34502bcd9ef2cf5611effb41a8f1240bd5b4", func := "loop.example/g01127/laws.FnRenamedAndSwapped", spec := "fnRenamedAndSwapped", unfollowed := true, recurses := true, apart := false }
def FnRenamedAndSwappedSaid : Prop := fnRenamedAndSwappedRow.holds Try.pinned (OpenSpec.ofChange fnRenamedAndSwappedSpec)

/-- ITS FALSE NEIGHBOUR: 'it returns false'. Refute it at one input. -/
def fnRenamedAndSwappedWrong : ChangeSpec := { name := "fnRenamedAndSwapped", fn := fun _ => fun
  | [d1, d2] => { results := [.lit (.bool false)], args := [d1, d2] }
  | _ => none }
def FnRenamedAndSwappedWrongFalsely : Prop := fnRenamedAndSwappedRow.holds Try.pinned (OpenSpec.ofChange fnRenamedAndSwappedWrong)

/-- 'laws.FnDeadCodeGoes': WHATEVER THE INPUT: true; the input reads as it did. -/
def fnDeadCodeGoesSpec : ChangeSpec := { name := "fnDeadCodeGoes", fn := fun _ => fun
  | [d1, d2] => { results := [.lit (.bool true)], args := [d1, d2] }
  | _ => none }
def fnDeadCodeGoesRow : OpenClaim := { program := "ytmhdijklindipaa", sum := "62d7e9a5a51d27411b1628f6b32a34502bcd9ef2cf5611effb41a8f1240bd5b4", func := "loop.example/g01127/laws.FnDeadCodeGoes", spec := "fnDeadCodeGoes", unfollowed := true, recurses := true, apart := false }
def FnDeadCodeGoesSaid : Prop := fnDeadCodeGoesRow.holds Try.pinned (OpenSpec.ofChange fnDeadCodeGoesSpec)

/-- ITS FALSE NEIGHBOUR: 'it returns false'. Refute it at one input. -/
def fnDeadCodeGoesWrong : ChangeSpec := { name := "fnDeadCodeGoes", fn := fun _ => fun
  | [d1, d2] => { results := [.lit (.bool false)], args := [d1, d2] }
  | _ => none }
def FnDeadCodeGoesWrongFalsely : Prop := fnDeadCodeGoesRow.holds Try.pinned (OpenSpec.ofChange fnDeadCodeGoesWrong)

/-- 'laws.FnInputsThatMatter': WHATEVER THE INPUT: true; the input reads as it did. -/
def fnInputsThatMatterSpec : ChangeSpec := { name := "fnInputsThatMatter", fn := fun _ => fun
  | [d1, d2] => { results := [.lit (.bool true)], args := [d1, d2] }
  | _ => none }
def fnInputsThatMatterRow : OpenClaim := { program := "ytmhdijklindipaa", sum := "62d7e9a5a51d27411b1628f6b32a34502bcd9ef2cf5611effb41a8f1240bd5b4", func := "loop.example/g01127/laws.FnInputsThatMatter", spec := "fnInputsThatMatter", unfollowed := true, recurses := true, apart := false }
def FnInputsThatMatterSaid : Prop := fnInputsThatMatterRow.holds Try.pinned (OpenSpec.ofChange fnInputsThatMatterSpec)

/-- ITS FALSE NEIGHBOUR: 'it returns false'. Refute it at one input. -/
def fnInputsThatMatterWrong : ChangeSpec := { name := "fnInputsThatMatter", fn := fun _ => fun
  | [d1, d2] => { results := [.lit (.bool false)], args := [d1, d2] }
  | _ => none }
def FnInputsThatMatterWrongFalsely : Prop := fnInputsThatMatterRow.holds Try.pinned (OpenSpec.ofChange fnInputsThatMatterWrong)

/-- 'laws.FnAskedBits': WHATEVER THE INPUT: true; the input reads as it did. -/
def fnAskedBitsSpec : ChangeSpec := { name := "fnAskedBits", fn := fun _ => fun
  | [d1, d2] => { results := [.lit (.bool true)], args := [d1, d2] }
  | _ => none }
def fnAskedBitsRow : OpenClaim := { program := "ytmhdijklindipaa", sum := "62d7e9a5a51d27411b1628f6b32a34502bcd9ef2cf5611effb41a8f1240bd5b4", func := "loop.example/g01127/laws.FnAskedBits", spec := "fnAskedBits", unfollowed := true, recurses := true, apart := false }
def FnAskedBitsSaid : Prop := fnAskedBitsRow.holds Try.pinned (OpenSpec.ofChange fnAskedBitsSpec)

/-- ITS FALSE NEIGHBOUR: 'it returns false'. Refute it at one input. -/
def fnAskedBitsWrong : ChangeSpec := { name := "fnAskedBits", fn := fun _ => fun
  | [d1, d2] => { results := [.lit (.bool false)], args := [d1, d2] }
  | _ => none }
def FnAskedBitsWrongFalsely : Prop := fnAskedBitsRow.holds Try.pinned (OpenSpec.ofChange fnAskedBitsWrong)

/-- 'laws.FnSharedAndExpanded': WHATEVER THE INPUT: true; the input reads as it did. -/
def fnSharedAndExpandedSpec : ChangeSpec := { name := "fnSharedAndExpanded", fn := fun _ => fun
  | [d1, d2] => { results := [.lit (.bool true)], args := [d1, d2] }
  | _ => none }
def fnSharedAndExpandedRow : OpenClaim := { program := "ytmhdijklindipaa", sum := "62d7e9a5a51d27411b1628f6b32a34502bcd9ef2cf5611effb41a8f1240bd5b4", func := "loop.example/g01127/laws.FnSharedAndExpanded", spec := "fnSharedAndExpanded", unfollowed := true, recurses := true, apart := false }
def FnSharedAndExpandedSaid : Prop := fnSharedAndExpandedRow.holds Try.pinned (OpenSpec.ofChange fnSharedAndExpandedSpec)

/-- ITS FALSE NEIGHBOUR: 'it returns false'. Refute it at one input. -/
def fnSharedAndExpandedWrong : ChangeSpec := { name := "fnSharedAndExpanded", fn := fun _ => fun
  | [d1, d2] => { results := [.lit (.bool false)], args := [d1, d2] }
  | _ => none }
def FnSharedAndExpandedWrongFalsely : Prop := fnSharedAndExpandedRow.holds Try.pinned (OpenSpec.ofChange fnSharedAndExpandedWrong)

/-- 'laws.FnFoldedExpressions': WHATEVER THE INPUT: true; the input reads as it did. -/
def fnFoldedExpressionsSpec : ChangeSpec := { name := "fnFoldedExpressions", fn := fun _ => fun
  | [d1, d2] => { results := [.lit (.bool true)], args := [d1, d2] }
  | _ => none }
def fnFoldedExpressionsRow : OpenClaim := { program := "ytmhdijklindipaa", sum := "62d7e9a5a51d27411b1628f6b32a34502bcd9ef2cf5611effb41a8f1240bd5b4", func := "loop.example/g01127/laws.FnFoldedExpressions", spec := "fnFoldedExpressions", unfollowed := true, recurses := true, apart := false }
def FnFoldedExpressionsSaid : Prop := fnFoldedExpressionsRow.holds Try.pinned (OpenSpec.ofChange fnFoldedExpressionsSpec)

/-- ITS FALSE NEIGHBOUR: 'it returns false'. Refute it at one input. -/
def fnFoldedExpressionsWrong : ChangeSpec := { name := "fnFoldedExpressions", fn := fun _ => fun
  | [d1, d2] => { results := [.lit (.bool false)], args := [d1, d2] }
  | _ => none }
def FnFoldedExpressionsWrongFalsely : Prop := fnFoldedExpressionsRow.holds Try.pinned (OpenSpec.ofChange fnFoldedExpressionsWrong)

/-- 'laws.FnInputsPut': WHATEVER THE INPUT: true; the input reads as it did. -/
def fnInputsPutSpec : ChangeSpec := { name := "fnInputsPut", fn := fun _ => fun
  | [d1, d2] => { results := [.lit (.bool true)], args := [d1, d2] }
  | _ => none }
def fnInputsPutRow : OpenClaim := { program := "ytmhdijklindipaa", sum := "62d7e9a5a51d27411b1628f6b32a34502bcd9ef2cf5611effb41a8f1240bd5b4", func := "loop.example/g01127/laws.FnInputsPut", spec := "fnInputsPut", unfollowed := true, recurses := true, apart := false }
def FnInputsPutSaid : Prop := fnInputsPutRow.holds Try.pinned (OpenSpec.ofChange fnInputsPutSpec)

/-- ITS FALSE NEIGHBOUR: 'it returns false'. Refute it at one input. -/
def fnInputsPutWrong : ChangeSpec := { name := "fnInputsPut", fn := fun _ => fun
  | [d1, d2] => { results := [.lit (.bool false)], args := [d1, d2] }
  | _ => none }
def FnInputsPutWrongFalsely : Prop := fnInputsPutRow.holds Try.pinned (OpenSpec.ofChange fnInputsPutWrong)

/- THE SECOND FORM. 'bulk': how many values and letters a reading holds, each counted each time it is reached (what is shared counts as often as it is met; a slice's spare places count too). A statement '..UptoSaid' is the law's where the arguments, and the package variables that the reading takes, are together of bulk at most 1048576: NARROWER than '..Said'. Prove '..Said' where nothing that the law and all that it calls make is longer than what came in: it says more and counts as full. Else prove '..UptoSaid'. A law counts once. -/
mutual
def uptoBulk {H : Type} : DataW H → Nat
  | .lit (.string bytes) => bytes.length + 1
  | .lit _ => 1
  | .nil => 1
  | .ptr d => uptoBulk d + 1
  | .slice elems spare => uptoBulkAll elems + uptoBulkAll spare + 1
  | .agg parts => uptoBulkAll parts + 1
  | .iface _ d => uptoBulk d + 1
  | .map entries => uptoBulkEntries entries + 1
  | .held _ => 1
def uptoBulkAll {H : Type} : List (DataW H) → Nat
  | [] => 0
  | d :: r => uptoBulk d + uptoBulkAll r
def uptoBulkEntries {H : Type} : List (Lit × DataW H) → Nat
  | [] => 0
  | x :: r => uptoBulkEntry x + uptoBulkEntries r
def uptoBulkEntry {H : Type} : Lit × DataW H → Nat
  | (.string bytes, d) => bytes.length + uptoBulk d + 1
  | (_, d) => uptoBulk d + 1
 end
def uptoSmall : (H : Type) → List (DataW H) → Bool := fun _ ds => decide (uptoBulkAll ds ≤ 1048576)
def OpenSpec.upto (s : _root_.Go.ChangeSpec) : _root_.Go.OpenSpec := { _root_.Go.OpenSpec.ofChange s with cond := some uptoSmall }

/-- 'laws.FnValuesOfNodes', WHERE WHAT IT READS IS OF BULK AT MOST 1048576: true; the input reads as it did. -/
def fnValuesOfNodesUptoRow : OpenClaim := { program := "ytmhdijklindipaa", sum := "62d7e9a5a51d27411b1628f6b32a34502bcd9ef2cf5611effb41a8f1240bd5b4", func := "loop.example/g01127/laws.FnValuesOfNodes", spec := "fnValuesOfNodes", recurses := true, apart := false, narrowed := true }
def FnValuesOfNodesUptoSaid : Prop := fnValuesOfNodesUptoRow.holds Try.pinned (OpenSpec.upto fnValuesOfNodesSpec)

/-- 'laws.FnCodeRuns', WHERE WHAT IT READS IS OF BULK AT MOST 1048576: true; the input reads as it did. -/
def fnCodeRunsUptoRow : OpenClaim := { program := "ytmhdijklindipaa", sum := "62d7e9a5a51d27411b1628f6b32a34502bcd9ef2cf5611effb41a8f1240bd5b4", func := "loop.example/g01127/laws.FnCodeRuns", spec := "fnCodeRuns", unfollowed := true, recurses := true, apart := false, narrowed := true }
def FnCodeRunsUptoSaid : Prop := fnCodeRunsUptoRow.holds Try.pinned (OpenSpec.upto fnCodeRunsSpec)

/-- 'laws.FnInstructionsStep', WHERE WHAT IT READS IS OF BULK AT MOST 1048576: true; the input reads as it did. -/
def fnInstructionsStepUptoRow : OpenClaim := { program := "ytmhdijklindipaa", sum := "62d7e9a5a51d27411b1628f6b32a34502bcd9ef2cf5611effb41a8f1240bd5b4", func := "loop.example/g01127/laws.FnInstructionsStep", spec := "fnInstructionsStep", unfollowed := true, recurses := true, apart := false, narrowed := true }
def FnInstructionsStepUptoSaid : Prop := fnInstructionsStepUptoRow.holds Try.pinned (OpenSpec.upto fnInstructionsStepSpec)

/-- 'laws.FnRenamedAndSwapped', WHERE WHAT IT READS IS OF BULK AT MOST 1048576: true; the input reads as it did. -/
def fnRenamedAndSwappedUptoRow : OpenClaim := { program := "ytmhdijklindipaa", sum := "62d7e9a5a51d27411b1628f6b32a34502bcd9ef2cf5611effb41a8f1240bd5b4", func := "loop.example/g01127/laws.FnRenamedAndSwapped", spec := "fnRenamedAndSwapped", unfollowed := true, recurses := true, apart := false, narrowed := true }
def FnRenamedAndSwappedUptoSaid : Prop := fnRenamedAndSwappedUptoRow.holds Try.pinned (OpenSpec.upto fnRenamedAndSwappedSpec)

/-- 'laws.FnDeadCodeGoes', WHERE WHAT IT READS IS OF BULK AT MOST 1048576: true; the input reads as it did. -/
def fnDeadCodeGoesUptoRow : OpenClaim := { program := "ytmhdijklindipaa", sum := "62d7e9a5a51d27411b1628f6b32a34502bcd9ef2cf5611effb41a8f1240bd5b4", func := "loop.example/g01127/laws.FnDeadCodeGoes", spec := "fnDeadCodeGoes", unfollowed := true, recurses := true, apart := false, narrowed := true }
def FnDeadCodeGoesUptoSaid : Prop := fnDeadCodeGoesUptoRow.holds Try.pinned (OpenSpec.upto fnDeadCodeGoesSpec)

/-- 'laws.FnInputsThatMatter', WHERE WHAT IT READS IS OF BULK AT MOST 1048576: true; the input reads as it did. -/
def fnInputsThatMatterUptoRow : OpenClaim := { program := "ytmhdijklindipaa", sum := "62d7e9a5a51d27411b1628f6b32a34502bcd9ef2cf5611effb41a8f1240bd5b4", func := "loop.example/g01127/laws.FnInputsThatMatter", spec := "fnInputsThatMatter", unfollowed := true, recurses := true, apart := false, narrowed := true }
def FnInputsThatMatterUptoSaid : Prop := fnInputsThatMatterUptoRow.holds Try.pinned (OpenSpec.upto fnInputsThatMatterSpec)

/-- 'laws.FnAskedBits', WHERE WHAT IT READS IS OF BULK AT MOST 1048576: true; the input reads as it did. -/
def fnAskedBitsUptoRow : OpenClaim := { program := "ytmhdijklindipaa", sum := "62d7e9a5a51d27411b1628f6b32a34502bcd9ef2cf5611effb41a8f1240bd5b4", func := "loop.example/g01127/laws.FnAskedBits", spec := "fnAskedBits", unfollowed := true, recurses := true, apart := false, narrowed := true }
def FnAskedBitsUptoSaid : Prop := fnAskedBitsUptoRow.holds Try.pinned (OpenSpec.upto fnAskedBitsSpec)

/-- 'laws.FnSharedAndExpanded', WHERE WHAT IT READS IS OF BULK AT MOST 1048576: true; the input reads as it did. -/
def fnSharedAndExpandedUptoRow : OpenClaim := { program := "ytmhdijklindipaa", sum := "62d7e9a5a51d27411b1628f6b32a34502bcd9ef2cf5611effb41a8f1240bd5b4", func := "loop.example/g01127/laws.FnSharedAndExpanded", spec := "fnSharedAndExpanded", unfollowed := true, recurses := true, apart := false, narrowed := true }
def FnSharedAndExpandedUptoSaid : Prop := fnSharedAndExpandedUptoRow.holds Try.pinned (OpenSpec.upto fnSharedAndExpandedSpec)

/-- 'laws.FnFoldedExpressions', WHERE WHAT IT READS IS OF BULK AT MOST 1048576: true; the input reads as it did. -/
def fnFoldedExpressionsUptoRow : OpenClaim := { program := "ytmhdijklindipaa", sum := "62d7e9a5a51d27411b1628f6b32a34502bcd9ef2cf5611effb41a8f1240bd5b4", func := "loop.example/g01127/laws.FnFoldedExpressions", spec := "fnFoldedExpressions", unfollowed := true, recurses := true, apart := false, narrowed := true }
def FnFoldedExpressionsUptoSaid : Prop := fnFoldedExpressionsUptoRow.holds Try.pinned (OpenSpec.upto fnFoldedExpressionsSpec)

/-- 'laws.FnInputsPut', WHERE WHAT IT READS IS OF BULK AT MOST 1048576: true; the input reads as it did. -/
def fnInputsPutUptoRow : OpenClaim := { program := "ytmhdijklindipaa", sum := "62d7e9a5a51d27411b1628f6b32a34502bcd9ef2cf5611effb41a8f1240bd5b4", func := "loop.example/g01127/laws.FnInputsPut", spec := "fnInputsPut", unfollowed := true, recurses := true, apart := false, narrowed := true }
def FnInputsPutUptoSaid : Prop := fnInputsPutUptoRow.holds Try.pinned (OpenSpec.upto fnInputsPutSpec)

end Rows
end Go.Proofs.Ytmhdijklindipaa
