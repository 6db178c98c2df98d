/-
  No cell of these rows narrows 'for every input' (looked for: loops, veiled, ifaces, maps, wideKeys, modest, calm, conditions, laid).
  DERIVED. THE GIVEN ROWS OF THIS SEAT. 17 by the template 'for every input the law returns true; each argument reads behind the call as it read before'; 0 by the template 'total and deterministic' (their statements: YtpgdccfpegdcoaaTotals.lean).
  GIVEN WITH THE SEED: the statements are not yours to turn. If you find one false, say at which input.
  Laid BY PROGRAM, IN A SANDBOX (cutbox-rows.mjs): the forced cells as the released guide's own fill.sh prints them over the translation 1cda010b6b37a80e… (all of the seat's roots in one cut). By AI agents, Wed Nov 11 2026. No macro, syntax, notation, axiom, sorry.
-/
import Derived.Test.YtpgdccfpegdcoaaChecked
import GoSem.Claim
import GoSem.ClaimJoined
import GoSem.ClaimMapViews
import Derived.JoinedTies
import Derived.KernelRfl
namespace Go.Proofs.Ytpgdccfpegdcoaa
/- THE CELL 'sum', in the pinned program and in every row, IS THE sha256 OF THE DUMP (.gsa) THAT YtpgdccfpegdcoaaProg.lean LOADS. Nothing in Lean hashes anything: it is a label: what it is worth is what the hold of that sum in a sandbox is worth. -/
noncomputable def Try.pinned : Pinned := { name := "ytpgdccfpegdcoaa", sum := "1cda010b6b37a80ec1fe0429895e2bb730aa860d66b02da69bd739ef7482007e", checked := Try.checked }
namespace Rows
def none {H : Type} : Left H := { results := [], args := [] }

/-- 'laws.FnExactPassesTests': WHATEVER THE INPUT: true; the input reads as it did. -/
def fnExactPassesTestsSpec : ChangeSpec := { name := "fnExactPassesTests", fn := fun _ => fun
  | [d1, d2, d3, d4] => { results := [.lit (.bool true)], args := [d1, d2, d3, d4] }
  | _ => none }
def fnExactPassesTestsRow : OpenClaim := { program := "ytpgdccfpegdcoaa", sum := "1cda010b6b37a80ec1fe0429895e2bb730aa860d66b02da69bd739ef7482007e", func := "loop.example/g01127/laws.FnExactPassesTests", spec := "fnExactPassesTests", unfollowed := true, recurses := true, apart := false }
def FnExactPassesTestsSaid : Prop := fnExactPassesTestsRow.holds Try.pinned (OpenSpec.ofChange fnExactPassesTestsSpec)

/-- ITS FALSE NEIGHBOUR: 'it returns false'. Refute it at one input. -/
def fnExactPassesTestsWrong : ChangeSpec := { name := "fnExactPassesTests", fn := fun _ => fun
  | [d1, d2, d3, d4] => { results := [.lit (.bool false)], args := [d1, d2, d3, d4] }
  | _ => none }
def FnExactPassesTestsWrongFalsely : Prop := fnExactPassesTestsRow.holds Try.pinned (OpenSpec.ofChange fnExactPassesTestsWrong)

/-- 'laws.FnExactDependsOf': WHATEVER THE INPUT: true; the input reads as it did. -/
def fnExactDependsOfSpec : ChangeSpec := { name := "fnExactDependsOf", fn := fun _ => fun
  | [d] => { results := [.lit (.bool true)], args := [d] }
  | _ => none }
def fnExactDependsOfRow : OpenClaim := { program := "ytpgdccfpegdcoaa", sum := "1cda010b6b37a80ec1fe0429895e2bb730aa860d66b02da69bd739ef7482007e", func := "loop.example/g01127/laws.FnExactDependsOf", spec := "fnExactDependsOf", unfollowed := true, recurses := true, apart := false }
def FnExactDependsOfSaid : Prop := fnExactDependsOfRow.holds Try.pinned (OpenSpec.ofChange fnExactDependsOfSpec)

/-- ITS FALSE NEIGHBOUR: 'it returns false'. Refute it at one input. -/
def fnExactDependsOfWrong : ChangeSpec := { name := "fnExactDependsOf", fn := fun _ => fun
  | [d] => { results := [.lit (.bool false)], args := [d] }
  | _ => none }
def FnExactDependsOfWrongFalsely : Prop := fnExactDependsOfRow.holds Try.pinned (OpenSpec.ofChange fnExactDependsOfWrong)

/-- 'laws.FnExactIsOrder': WHATEVER THE INPUT: true; the input reads as it did. -/
def fnExactIsOrderSpec : ChangeSpec := { name := "fnExactIsOrder", fn := fun _ => fun
  | [d1, d2] => { results := [.lit (.bool true)], args := [d1, d2] }
  | _ => none }
def fnExactIsOrderRow : OpenClaim := { program := "ytpgdccfpegdcoaa", sum := "1cda010b6b37a80ec1fe0429895e2bb730aa860d66b02da69bd739ef7482007e", func := "loop.example/g01127/laws.FnExactIsOrder", spec := "fnExactIsOrder", unfollowed := true, recurses := true, apart := false }
def FnExactIsOrderSaid : Prop := fnExactIsOrderRow.holds Try.pinned (OpenSpec.ofChange fnExactIsOrderSpec)

/-- ITS FALSE NEIGHBOUR: 'it returns false'. Refute it at one input. -/
def fnExactIsOrderWrong : ChangeSpec := { name := "fnExactIsOrder", fn := fun _ => fun
  | [d1, d2] => { results := [.lit (.bool false)], args := [d1, d2] }
  | _ => none }
def FnExactIsOrderWrongFalsely : Prop := fnExactIsOrderRow.holds Try.pinned (OpenSpec.ofChange fnExactIsOrderWrong)

/-- 'laws.FnExactApplyOrder': WHATEVER THE INPUT: true; the input reads as it did. -/
def fnExactApplyOrderSpec : ChangeSpec := { name := "fnExactApplyOrder", fn := fun _ => fun
  | [d1, d2] => { results := [.lit (.bool true)], args := [d1, d2] }
  | _ => none }
def fnExactApplyOrderRow : OpenClaim := { program := "ytpgdccfpegdcoaa", sum := "1cda010b6b37a80ec1fe0429895e2bb730aa860d66b02da69bd739ef7482007e", func := "loop.example/g01127/laws.FnExactApplyOrder", spec := "fnExactApplyOrder", unfollowed := true, recurses := true, apart := false }
def FnExactApplyOrderSaid : Prop := fnExactApplyOrderRow.holds Try.pinned (OpenSpec.ofChange fnExactApplyOrderSpec)

/-- ITS FALSE NEIGHBOUR: 'it returns false'. Refute it at one input. -/
def fnExactApplyOrderWrong : ChangeSpec := { name := "fnExactApplyOrder", fn := fun _ => fun
  | [d1, d2] => { results := [.lit (.bool false)], args := [d1, d2] }
  | _ => none }
def FnExactApplyOrderWrongFalsely : Prop := fnExactApplyOrderRow.holds Try.pinned (OpenSpec.ofChange fnExactApplyOrderWrong)

/-- 'laws.FnExactCountOrders': WHATEVER THE INPUT: true; the input reads as it did. -/
def fnExactCountOrdersSpec : ChangeSpec := { name := "fnExactCountOrders", fn := fun _ => fun
  | [d] => { results := [.lit (.bool true)], args := [d] }
  | _ => none }
def fnExactCountOrdersRow : OpenClaim := { program := "ytpgdccfpegdcoaa", sum := "1cda010b6b37a80ec1fe0429895e2bb730aa860d66b02da69bd739ef7482007e", func := "loop.example/g01127/laws.FnExactCountOrders", spec := "fnExactCountOrders", unfollowed := true, recurses := true, apart := false }
def FnExactCountOrdersSaid : Prop := fnExactCountOrdersRow.holds Try.pinned (OpenSpec.ofChange fnExactCountOrdersSpec)

/-- ITS FALSE NEIGHBOUR: 'it returns false'. Refute it at one input. -/
def fnExactCountOrdersWrong : ChangeSpec := { name := "fnExactCountOrders", fn := fun _ => fun
  | [d] => { results := [.lit (.bool false)], args := [d] }
  | _ => none }
def FnExactCountOrdersWrongFalsely : Prop := fnExactCountOrdersRow.holds Try.pinned (OpenSpec.ofChange fnExactCountOrdersWrong)

/-- 'laws.FnExactFirstOrder': WHATEVER THE INPUT: true; the input reads as it did. -/
def fnExactFirstOrderSpec : ChangeSpec := { name := "fnExactFirstOrder", fn := fun _ => fun
  | [d] => { results := [.lit (.bool true)], args := [d] }
  | _ => none }
def fnExactFirstOrderRow : OpenClaim := { program := "ytpgdccfpegdcoaa", sum := "1cda010b6b37a80ec1fe0429895e2bb730aa860d66b02da69bd739ef7482007e", func := "loop.example/g01127/laws.FnExactFirstOrder", spec := "fnExactFirstOrder", apart := false }
def FnExactFirstOrderSaid : Prop := fnExactFirstOrderRow.holds Try.pinned (OpenSpec.ofChange fnExactFirstOrderSpec)

/-- ITS FALSE NEIGHBOUR: 'it returns false'. Refute it at one input. -/
def fnExactFirstOrderWrong : ChangeSpec := { name := "fnExactFirstOrder", fn := fun _ => fun
  | [d] => { results := [.lit (.bool false)], args := [d] }
  | _ => none }
def FnExactFirstOrderWrongFalsely : Prop := fnExactFirstOrderRow.holds Try.pinned (OpenSpec.ofChange fnExactFirstOrderWrong)

/-- 'laws.FnExactLastOrder': WHATEVER THE INPUT: true; the input reads as it did. -/
def fnExactLastOrderSpec : ChangeSpec := { name := "fnExactLastOrder", fn := fun _ => fun
  | [d] => { results := [.lit (.bool true)], args := [d] }
  | _ => none }
def fnExactLastOrderRow : OpenClaim := { program := "ytpgdccfpegdcoaa", sum := "1cda010b6b37a80ec1fe0429895e2bb730aa860d66b02da69bd739ef7482007e", func := "loop.example/g01127/laws.FnExactLastOrder", spec := "fnExactLastOrder", unfollowed := true, recurses := true, apart := false }
def FnExactLastOrderSaid : Prop := fnExactLastOrderRow.holds Try.pinned (OpenSpec.ofChange fnExactLastOrderSpec)

/-- ITS FALSE NEIGHBOUR: 'it returns false'. Refute it at one input. -/
def fnExactLastOrderWrong : ChangeSpec := { name := "fnExactLastOrder", fn := fun _ => fun
  | [d] => { results := [.lit (.bool false)], args := [d] }
  | _ => none }
def FnExactLastOrderWrongFalsely : Prop := fnExactLastOrderRow.holds Try.pinned (OpenSpec.ofChange fnExactLastOrderWrong)

/-- 'laws.FnExactIsSchedule': WHATEVER THE INPUT: true; the input reads as it did. -/
def fnExactIsScheduleSpec : ChangeSpec := { name := "fnExactIsSchedule", fn := fun _ => fun
  | [d1, d2, d3] => { results := [.lit (.bool true)], args := [d1, d2, d3] }
  | _ => none }
def fnExactIsScheduleRow : OpenClaim := { program := "ytpgdccfpegdcoaa", sum := "1cda010b6b37a80ec1fe0429895e2bb730aa860d66b02da69bd739ef7482007e", func := "loop.example/g01127/laws.FnExactIsSchedule", spec := "fnExactIsSchedule", unfollowed := true, recurses := true, apart := false }
def FnExactIsScheduleSaid : Prop := fnExactIsScheduleRow.holds Try.pinned (OpenSpec.ofChange fnExactIsScheduleSpec)

/-- ITS FALSE NEIGHBOUR: 'it returns false'. Refute it at one input. -/
def fnExactIsScheduleWrong : ChangeSpec := { name := "fnExactIsSchedule", fn := fun _ => fun
  | [d1, d2, d3] => { results := [.lit (.bool false)], args := [d1, d2, d3] }
  | _ => none }
def FnExactIsScheduleWrongFalsely : Prop := fnExactIsScheduleRow.holds Try.pinned (OpenSpec.ofChange fnExactIsScheduleWrong)

/-- 'laws.FnExactLengthOf': WHATEVER THE INPUT: true; the input reads as it did. -/
def fnExactLengthOfSpec : ChangeSpec := { name := "fnExactLengthOf", fn := fun _ => fun
  | [d1, d2] => { results := [.lit (.bool true)], args := [d1, d2] }
  | _ => none }
def fnExactLengthOfRow : OpenClaim := { program := "ytpgdccfpegdcoaa", sum := "1cda010b6b37a80ec1fe0429895e2bb730aa860d66b02da69bd739ef7482007e", func := "loop.example/g01127/laws.FnExactLengthOf", spec := "fnExactLengthOf", unfollowed := true, recurses := true, apart := false }
def FnExactLengthOfSaid : Prop := fnExactLengthOfRow.holds Try.pinned (OpenSpec.ofChange fnExactLengthOfSpec)

/-- ITS FALSE NEIGHBOUR: 'it returns false'. Refute it at one input. -/
def fnExactLengthOfWrong : ChangeSpec := { name := "fnExactLengthOf", fn := fun _ => fun
  | [d1, d2] => { results := [.lit (.bool false)], args := [d1, d2] }
  | _ => none }
def FnExactLengthOfWrongFalsely : Prop := fnExactLengthOfRow.holds Try.pinned (OpenSpec.ofChange fnExactLengthOfWrong)

/-- 'laws.FnExactEarliestOf': WHATEVER THE INPUT: true; the input reads as it did. -/
def fnExactEarliestOfSpec : ChangeSpec := { name := "fnExactEarliestOf", fn := fun _ => fun
  | [d] => { results := [.lit (.bool true)], args := [d] }
  | _ => none }
def fnExactEarliestOfRow : OpenClaim := { program := "ytpgdccfpegdcoaa", sum := "1cda010b6b37a80ec1fe0429895e2bb730aa860d66b02da69bd739ef7482007e", func := "loop.example/g01127/laws.FnExactEarliestOf", spec := "fnExactEarliestOf", unfollowed := true, recurses := true, apart := false }
def FnExactEarliestOfSaid : Prop := fnExactEarliestOfRow.holds Try.pinned (OpenSpec.ofChange fnExactEarliestOfSpec)

/-- ITS FALSE NEIGHBOUR: 'it returns false'. Refute it at one input. -/
def fnExactEarliestOfWrong : ChangeSpec := { name := "fnExactEarliestOf", fn := fun _ => fun
  | [d] => { results := [.lit (.bool false)], args := [d] }
  | _ => none }
def FnExactEarliestOfWrongFalsely : Prop := fnExactEarliestOfRow.holds Try.pinned (OpenSpec.ofChange fnExactEarliestOfWrong)

/-- 'laws.FnExactLatestOf': WHATEVER THE INPUT: true; the input reads as it did. -/
def fnExactLatestOfSpec : ChangeSpec := { name := "fnExactLatestOf", fn := fun _ => fun
  | [d1, d2] => { results := [.lit (.bool true)], args := [d1, d2] }
  | _ => none }
def fnExactLatestOfRow : OpenClaim := { program := "ytpgdccfpegdcoaa", sum := "1cda010b6b37a80ec1fe0429895e2bb730aa860d66b02da69bd739ef7482007e", func := "loop.example/g01127/laws.FnExactLatestOf", spec := "fnExactLatestOf", unfollowed := true, recurses := true, apart := false }
def FnExactLatestOfSaid : Prop := fnExactLatestOfRow.holds Try.pinned (OpenSpec.ofChange fnExactLatestOfSpec)

/-- ITS FALSE NEIGHBOUR: 'it returns false'. Refute it at one input. -/
def fnExactLatestOfWrong : ChangeSpec := { name := "fnExactLatestOf", fn := fun _ => fun
  | [d1, d2] => { results := [.lit (.bool false)], args := [d1, d2] }
  | _ => none }
def FnExactLatestOfWrongFalsely : Prop := fnExactLatestOfRow.holds Try.pinned (OpenSpec.ofChange fnExactLatestOfWrong)

/-- 'laws.FnExactPathBound': WHATEVER THE INPUT: true; the input reads as it did. -/
def fnExactPathBoundSpec : ChangeSpec := { name := "fnExactPathBound", fn := fun _ => fun
  | [d] => { results := [.lit (.bool true)], args := [d] }
  | _ => none }
def fnExactPathBoundRow : OpenClaim := { program := "ytpgdccfpegdcoaa", sum := "1cda010b6b37a80ec1fe0429895e2bb730aa860d66b02da69bd739ef7482007e", func := "loop.example/g01127/laws.FnExactPathBound", spec := "fnExactPathBound", unfollowed := true, recurses := true, apart := false }
def FnExactPathBoundSaid : Prop := fnExactPathBoundRow.holds Try.pinned (OpenSpec.ofChange fnExactPathBoundSpec)

/-- ITS FALSE NEIGHBOUR: 'it returns false'. Refute it at one input. -/
def fnExactPathBoundWrong : ChangeSpec := { name := "fnExactPathBound", fn := fun _ => fun
  | [d] => { results := [.lit (.bool false)], args := [d] }
  | _ => none }
def FnExactPathBoundWrongFalsely : Prop := fnExactPathBoundRow.holds Try.pinned (OpenSpec.ofChange fnExactPathBoundWrong)

/-- 'laws.FnExactWideBound': WHATEVER THE INPUT: true; the input reads as it did. -/
def fnExactWideBoundSpec : ChangeSpec := { name := "fnExactWideBound", fn := fun _ => fun
  | [d1, d2] => { results := [.lit (.bool true)], args := [d1, d2] }
  | _ => none }
def fnExactWideBoundRow : OpenClaim := { program := "ytpgdccfpegdcoaa", sum := "1cda010b6b37a80ec1fe0429895e2bb730aa860d66b02da69bd739ef7482007e", func := "loop.example/g01127/laws.FnExactWideBound", spec := "fnExactWideBound", unfollowed := true, recurses := true, apart := false }
def FnExactWideBoundSaid : Prop := fnExactWideBoundRow.holds Try.pinned (OpenSpec.ofChange fnExactWideBoundSpec)

/-- ITS FALSE NEIGHBOUR: 'it returns false'. Refute it at one input. -/
def fnExactWideBoundWrong : ChangeSpec := { name := "fnExactWideBound", fn := fun _ => fun
  | [d1, d2] => { results := [.lit (.bool false)], args := [d1, d2] }
  | _ => none }
def FnExactWideBoundWrongFalsely : Prop := fnExactWideBoundRow.holds Try.pinned (OpenSpec.ofChange fnExactWideBoundWrong)

/-- 'laws.FnExactListSchedule': WHATEVER THE INPUT: true; the input reads as it did. -/
def fnExactListScheduleSpec : ChangeSpec := { name := "fnExactListSchedule", fn := fun _ => fun
  | [d1, d2] => { results := [.lit (.bool true)], args := [d1, d2] }
  | _ => none }
def fnExactListScheduleRow : OpenClaim := { program := "ytpgdccfpegdcoaa", sum := "1cda010b6b37a80ec1fe0429895e2bb730aa860d66b02da69bd739ef7482007e", func := "loop.example/g01127/laws.FnExactListSchedule", spec := "fnExactListSchedule", unfollowed := true, recurses := true, apart := false }
def FnExactListScheduleSaid : Prop := fnExactListScheduleRow.holds Try.pinned (OpenSpec.ofChange fnExactListScheduleSpec)

/-- ITS FALSE NEIGHBOUR: 'it returns false'. Refute it at one input. -/
def fnExactListScheduleWrong : ChangeSpec := { name := "fnExactListSchedule", fn := fun _ => fun
  | [d1, d2] => { results := [.lit (.bool false)], args := [d1, d2] }
  | _ => none }
def FnExactListScheduleWrongFalsely : Prop := fnExactListScheduleRow.holds Try.pinned (OpenSpec.ofChange fnExactListScheduleWrong)

/-- 'laws.FnExactOrderOfSchedule': WHATEVER THE INPUT: true; the input reads as it did. -/
def fnExactOrderOfScheduleSpec : ChangeSpec := { name := "fnExactOrderOfSchedule", fn := fun _ => fun
  | [d1, d2] => { results := [.lit (.bool true)], args := [d1, d2] }
  | _ => none }
def fnExactOrderOfScheduleRow : OpenClaim := { program := "ytpgdccfpegdcoaa", sum := "1cda010b6b37a80ec1fe0429895e2bb730aa860d66b02da69bd739ef7482007e", func := "loop.example/g01127/laws.FnExactOrderOfSchedule", spec := "fnExactOrderOfSchedule", unfollowed := true, recurses := true, apart := false }
def FnExactOrderOfScheduleSaid : Prop := fnExactOrderOfScheduleRow.holds Try.pinned (OpenSpec.ofChange fnExactOrderOfScheduleSpec)

/-- ITS FALSE NEIGHBOUR: 'it returns false'. Refute it at one input. -/
def fnExactOrderOfScheduleWrong : ChangeSpec := { name := "fnExactOrderOfSchedule", fn := fun _ => fun
  | [d1, d2] => { results := [.lit (.bool false)], args := [d1, d2] }
  | _ => none }
def FnExactOrderOfScheduleWrongFalsely : Prop := fnExactOrderOfScheduleRow.holds Try.pinned (OpenSpec.ofChange fnExactOrderOfScheduleWrong)

/-- 'laws.FnExactBestSchedule': WHATEVER THE INPUT: true; the input reads as it did. -/
def fnExactBestScheduleSpec : ChangeSpec := { name := "fnExactBestSchedule", fn := fun _ => fun
  | [d1, d2] => { results := [.lit (.bool true)], args := [d1, d2] }
  | _ => none }
def fnExactBestScheduleRow : OpenClaim := { program := "ytpgdccfpegdcoaa", sum := "1cda010b6b37a80ec1fe0429895e2bb730aa860d66b02da69bd739ef7482007e", func := "loop.example/g01127/laws.FnExactBestSchedule", spec := "fnExactBestSchedule", unfollowed := true, recurses := true, apart := false }
def FnExactBestScheduleSaid : Prop := fnExactBestScheduleRow.holds Try.pinned (OpenSpec.ofChange fnExactBestScheduleSpec)

/-- ITS FALSE NEIGHBOUR: 'it returns false'. Refute it at one input. -/
def fnExactBestScheduleWrong : ChangeSpec := { name := "fnExactBestSchedule", fn := fun _ => fun
  | [d1, d2] => { results := [.lit (.bool false)], args := [d1, d2] }
  | _ => none }
def FnExactBestScheduleWrongFalsely : Prop := fnExactBestScheduleRow.holds Try.pinned (OpenSpec.ofChange fnExactBestScheduleWrong)

/-- 'laws.FnExactLeastLength': WHATEVER THE INPUT: true; the input reads as it did. -/
def fnExactLeastLengthSpec : ChangeSpec := { name := "fnExactLeastLength", fn := fun _ => fun
  | [d1, d2] => { results := [.lit (.bool true)], args := [d1, d2] }
  | _ => none }
def fnExactLeastLengthRow : OpenClaim := { program := "ytpgdccfpegdcoaa", sum := "1cda010b6b37a80ec1fe0429895e2bb730aa860d66b02da69bd739ef7482007e", func := "loop.example/g01127/laws.FnExactLeastLength", spec := "fnExactLeastLength", unfollowed := true, recurses := true, apart := false }
def FnExactLeastLengthSaid : Prop := fnExactLeastLengthRow.holds Try.pinned (OpenSpec.ofChange fnExactLeastLengthSpec)

/-- ITS FALSE NEIGHBOUR: 'it returns false'. Refute it at one input. -/
def fnExactLeastLengthWrong : ChangeSpec := { name := "fnExactLeastLength", fn := fun _ => fun
  | [d1, d2] => { results := [.lit (.bool false)], args := [d1, d2] }
  | _ => none }
def FnExactLeastLengthWrongFalsely : Prop := fnExactLeastLengthRow.holds Try.pinned (OpenSpec.ofChange fnExactLeastLengthWrong)

/- THE SECOND FORM. 'bulk': how many values and letters a reading holds, each counted each time it is reached (what is shared counts as often as it is met; a slice's spare places count too). A statement '..UptoSaid' is the law's where the arguments, and the package variables that the reading takes, are together of bulk at most 1048576: NARROWER than '..Said'. Prove '..Said' where nothing that the law and all that it calls make is longer than what came in: it says more and counts as full. Else prove '..UptoSaid'. A law counts once. -/
mutual
def uptoBulk {H : Type} : DataW H → Nat
  | .lit (.string bytes) => bytes.length + 1
  | .lit _ => 1
  | .nil => 1
  | .ptr d => uptoBulk d + 1
  | .slice elems spare => uptoBulkAll elems + uptoBulkAll spare + 1
  | .agg parts => uptoBulkAll parts + 1
  | .iface _ d => uptoBulk d + 1
  | .map entries => uptoBulkEntries entries + 1
  | .held _ => 1
def uptoBulkAll {H : Type} : List (DataW H) → Nat
  | [] => 0
  | d :: r => uptoBulk d + uptoBulkAll r
def uptoBulkEntries {H : Type} : List (Lit × DataW H) → Nat
  | [] => 0
  | x :: r => uptoBulkEntry x + uptoBulkEntries r
def uptoBulkEntry {H : Type} : Lit × DataW H → Nat
  | (.string bytes, d) => bytes.length + uptoBulk d + 1
  | (_, d) => uptoBulk d + 1
 end
def uptoSmall : (H : Type) → List (DataW H) → Bool := fun _ ds => decide (uptoBulkAll ds ≤ 1048576)
def OpenSpec.upto (s : _root_.Go.ChangeSpec) : _root_.Go.OpenSpec := { _root_.Go.OpenSpec.ofChange s with cond := some uptoSmall }

/-- 'laws.FnExactPassesTests', WHERE WHAT IT READS IS OF BULK AT MOST 1048576: true; the input reads as it did. -/
def fnExactPassesTestsUptoRow : OpenClaim := { program := "ytpgdccfpegdcoaa", sum := "1cda010b6b37a80ec1fe0429895e2bb730aa860d66b02da69bd739ef7482007e", func := "loop.example/g01127/laws.FnExactPassesTests", spec := "fnExactPassesTests", unfollowed := true, recurses := true, apart := false, narrowed := true }
def FnExactPassesTestsUptoSaid : Prop := fnExactPassesTestsUptoRow.holds Try.pinned (OpenSpec.upto fnExactPassesTestsSpec)

/-- 'laws.FnExactDependsOf', WHERE WHAT IT READS IS OF BULK AT MOST 1048576: true; the input reads as it did. -/
def fnExactDependsOfUptoRow : OpenClaim := { program := "ytpgdccfpegdcoaa", sum := "1cda010b6b37a80ec1fe0429895e2bb730aa860d66b02da69bd739ef7482007e", func := "loop.example/g01127/laws.FnExactDependsOf", spec := "fnExactDependsOf", unfollowed := true, recurses := true, apart := false, narrowed := true }
def FnExactDependsOfUptoSaid : Prop := fnExactDependsOfUptoRow.holds Try.pinned (OpenSpec.upto fnExactDependsOfSpec)

/-- 'laws.FnExactIsOrder', WHERE WHAT IT READS IS OF BULK AT MOST 1048576: true; the input reads as it did. -/
def fnExactIsOrderUptoRow : OpenClaim := { program := "ytpgdccfpegdcoaa", sum := "1cda010b6b37a80ec1fe0429895e2bb730aa860d66b02da69bd739ef7482007e", func := "loop.example/g01127/laws.FnExactIsOrder", spec := "fnExactIsOrder", unfollowed := true, recurses := true, apart := false, narrowed := true }
def FnExactIsOrderUptoSaid : Prop := fnExactIsOrderUptoRow.holds Try.pinned (OpenSpec.upto fnExactIsOrderSpec)

/-- 'laws.FnExactApplyOrder', WHERE WHAT IT READS IS OF BULK AT MOST 1048576: true; the input reads as it did. -/
def fnExactApplyOrderUptoRow : OpenClaim := { program := "ytpgdccfpegdcoaa", sum := "1cda010b6b37a80ec1fe0429895e2bb730aa860d66b02da69bd739ef7482007e", func := "loop.example/g01127/laws.FnExactApplyOrder", spec := "fnExactApplyOrder", unfollowed := true, recurses := true, apart := false, narrowed := true }
def FnExactApplyOrderUptoSaid : Prop := fnExactApplyOrderUptoRow.holds Try.pinned (OpenSpec.upto fnExactApplyOrderSpec)

/-- 'laws.FnExactCountOrders', WHERE WHAT IT READS IS OF BULK AT MOST 1048576: true; the input reads as it did. -/
def fnExactCountOrdersUptoRow : OpenClaim := { program := "ytpgdccfpegdcoaa", sum := "1cda010b6b37a80ec1fe0429895e2bb730aa860d66b02da69bd739ef7482007e", func := "loop.example/g01127/laws.FnExactCountOrders", spec := "fnExactCountOrders", unfollowed := true, recurses := true, apart := false, narrowed := true }
def FnExactCountOrdersUptoSaid : Prop := fnExactCountOrdersUptoRow.holds Try.pinned (OpenSpec.upto fnExactCountOrdersSpec)

/-- 'laws.FnExactFirstOrder', WHERE WHAT IT READS IS OF BULK AT MOST 1048576: true; the input reads as it did. -/
def fnExactFirstOrderUptoRow : OpenClaim := { program := "ytpgdccfpegdcoaa", sum := "1cda010b6b37a80ec1fe0429895e2bb730aa860d66b02da69bd739ef7482007e", func := "loop.example/g01127/laws.FnExactFirstOrder", spec := "fnExactFirstOrder", apart := false, narrowed := true }
def FnExactFirstOrderUptoSaid : Prop := fnExactFirstOrderUptoRow.holds Try.pinned (OpenSpec.upto fnExactFirstOrderSpec)

/-- 'laws.FnExactLastOrder', WHERE WHAT IT READS IS OF BULK AT MOST 1048576: true; the input reads as it did. -/
def fnExactLastOrderUptoRow : OpenClaim := { program := "ytpgdccfpegdcoaa", sum := "1cda010b6b37a80ec1fe0429895e2bb730aa860d66b02da69bd739ef7482007e", func := "loop.example/g01127/laws.FnExactLastOrder", spec := "fnExactLastOrder", unfollowed := true, recurses := true, apart := false, narrowed := true }
def FnExactLastOrderUptoSaid : Prop := fnExactLastOrderUptoRow.holds Try.pinned (OpenSpec.upto fnExactLastOrderSpec)

/-- 'laws.FnExactIsSchedule', WHERE WHAT IT READS IS OF BULK AT MOST 1048576: true; the input reads as it did. -/
def fnExactIsScheduleUptoRow : OpenClaim := { program := "ytpgdccfpegdcoaa", sum := "1cda010b6b37a80ec1fe0429895e2bb730aa860d66b02da69bd739ef7482007e", func := "loop.example/g01127/laws.FnExactIsSchedule", spec := "fnExactIsSchedule", unfollowed := true, recurses := true, apart := false, narrowed := true }
def FnExactIsScheduleUptoSaid : Prop := fnExactIsScheduleUptoRow.holds Try.pinned (OpenSpec.upto fnExactIsScheduleSpec)

/-- 'laws.FnExactLengthOf', WHERE WHAT IT READS IS OF BULK AT MOST 1048576: true; the input reads as it did. -/
def fnExactLengthOfUptoRow : OpenClaim := { program := "ytpgdccfpegdcoaa", sum := "1cda010b6b37a80ec1fe0429895e2bb730aa860d66b02da69bd739ef7482007e", func := "loop.example/g01127/laws.FnExactLengthOf", spec := "fnExactLengthOf", unfollowed := true, recurses := true, apart := false, narrowed := true }
def FnExactLengthOfUptoSaid : Prop := fnExactLengthOfUptoRow.holds Try.pinned (OpenSpec.upto fnExactLengthOfSpec)

/-- 'laws.FnExactEarliestOf', WHERE WHAT IT READS IS OF BULK AT MOST 1048576: true; the input reads as it did. -/
def fnExactEarliestOfUptoRow : OpenClaim := { program := "ytpgdccfpegdcoaa", sum := "1cda010b6b37a80ec1fe0429895e2bb730aa860d66b02da69bd739ef7482007e", func := "loop.example/g01127/laws.FnExactEarliestOf", spec := "fnExactEarliestOf", unfollowed := true, recurses := true, apart := false, narrowed := true }
def FnExactEarliestOfUptoSaid : Prop := fnExactEarliestOfUptoRow.holds Try.pinned (OpenSpec.upto fnExactEarliestOfSpec)

/-- 'laws.FnExactLatestOf', WHERE WHAT IT READS IS OF BULK AT MOST 1048576: true; the input reads as it did. -/
def fnExactLatestOfUptoRow : OpenClaim := { program := "ytpgdccfpegdcoaa", sum := "1cda010b6b37a80ec1fe0429895e2bb730aa860d66b02da69bd739ef7482007e", func := "loop.example/g01127/laws.FnExactLatestOf", spec := "fnExactLatestOf", unfollowed := true, recurses := true, apart := false, narrowed := true }
def FnExactLatestOfUptoSaid : Prop := fnExactLatestOfUptoRow.holds Try.pinned (OpenSpec.upto fnExactLatestOfSpec)

/-- 'laws.FnExactPathBound', WHERE WHAT IT READS IS OF BULK AT MOST 1048576: true; the input reads as it did. -/
def fnExactPathBoundUptoRow : OpenClaim := { program := "ytpgdccfpegdcoaa", sum := "1cda010b6b37a80ec1fe0429895e2bb730aa860d66b02da69bd739ef7482007e", func := "loop.example/g01127/laws.FnExactPathBound", spec := "fnExactPathBound", unfollowed := true, recurses := true, apart := false, narrowed := true }
def FnExactPathBoundUptoSaid : Prop := fnExactPathBoundUptoRow.holds Try.pinned (OpenSpec.upto fnExactPathBoundSpec)

/-- 'laws.FnExactWideBound', WHERE WHAT IT READS IS OF BULK AT MOST 1048576: true; the input reads as it did. -/
def fnExactWideBoundUptoRow : OpenClaim := { program := "ytpgdccfpegdcoaa", sum := "1cda010b6b37a80ec1fe0429895e2bb730aa860d66b02da69bd739ef7482007e", func := "loop.example/g01127/laws.FnExactWideBound", spec := "fnExactWideBound", unfollowed := true, recurses := true, apart := false, narrowed := true }
def FnExactWideBoundUptoSaid : Prop := fnExactWideBoundUptoRow.holds Try.pinned (OpenSpec.upto fnExactWideBoundSpec)

/-- 'laws.FnExactListSchedule', WHERE WHAT IT READS IS OF BULK AT MOST 1048576: true; the input reads as it did. -/
def fnExactListScheduleUptoRow : OpenClaim := { program := "ytpgdccfpegdcoaa", sum := "1cda010b6b37a80ec1fe0429895e2bb730aa860d66b02da69bd739ef7482007e", func := "loop.example/g01127/laws.FnExactListSchedule", spec := "fnExactListSchedule", unfollowed := true, recurses := true, apart := false, narrowed := true }
def FnExactListScheduleUptoSaid : Prop := fnExactListScheduleUptoRow.holds Try.pinned (OpenSpec.upto fnExactListScheduleSpec)

/-- 'laws.FnExactOrderOfSchedule', WHERE WHAT IT READS IS OF BULK AT MOST 1048576: true; the input reads as it did. -/
def fnExactOrderOfScheduleUptoRow : OpenClaim := { program := "ytpgdccfpegdcoaa", sum := "1cda010b6b37a80ec1fe0429895e2bb730aa860d66b02da69bd739ef7482007e", func := "loop.example/g01127/laws.FnExactOrderOfSchedule", spec := "fnExactOrderOfSchedule", unfollowed := true, recurses := true, apart := false, narrowed := true }
def FnExactOrderOfScheduleUptoSaid : Prop := fnExactOrderOfScheduleUptoRow.holds Try.pinned (OpenSpec.upto fnExactOrderOfScheduleSpec)

/-- 'laws.FnExactBestSchedule', WHERE WHAT IT READS IS OF BULK AT MOST 1048576: true; the input reads as it did. -/
def fnExactBestScheduleUptoRow : OpenClaim := { program := "ytpgdccfpegdcoaa", sum := "1cda010b6b37a80ec1fe0429895e2bb730aa860d66b02da69bd739ef7482007e", func := "loop.example/g01127/laws.FnExactBestSchedule", spec := "fnExactBestSchedule", unfollowed := true, recurses := true, apart := false, narrowed := true }
def FnExactBestScheduleUptoSaid : Prop := fnExactBestScheduleUptoRow.holds Try.pinned (OpenSpec.upto fnExactBestScheduleSpec)

/-- 'laws.FnExactLeastLength', WHERE WHAT IT READS IS OF BULK AT MOST 1048576: true; the input reads as it did. -/
def fnExactLeastLengthUptoRow : OpenClaim := { program := "ytpgdccfpegdcoaa", sum := "1cda010b6b37a80ec1fe0429895e2bb730aa860d66b02da69bd739ef7482007e", func := "loop.example/g01127/laws.FnExactLeastLength", spec := "fnExactLeastLength", unfollowed := true, recurses := true, apart := false, narrowed := true }
def FnExactLeastLengthUptoSaid : Prop := fnExactLeastLengthUptoRow.holds Try.pinned (OpenSpec.upto fnExactLeastLengthSpec)

end Rows
end Go.Proofs.Ytpgdccfpegdcoaa
