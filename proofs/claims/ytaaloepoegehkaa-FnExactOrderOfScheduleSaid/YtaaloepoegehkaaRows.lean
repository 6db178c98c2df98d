/-
  No cell of these rows narrows 'for every input' (looked for: loops, veiled, ifaces, maps, wideKeys, modest, calm, conditions, laid).
  DERIVED. THE GIVEN ROWS OF THIS SEAT. 14 by the template 'for every input the law returns true; each argument reads behind the call as it read before'; 0 by the template 'total and deterministic' (their statements: YtaaloepoegehkaaTotals.lean).
  GIVEN WITH THE SEED: the statements are not yours to turn. If you find one false, say at which input.
  Laid BY PROGRAM, IN A SANDBOX (cutbox-rows.mjs): the forced cells as the released guide's own fill.sh prints them over the translation 028ca6595a90f5ae… (all of the seat's roots in one cut). By AI agents, Wed Nov 11 2026. No macro, syntax, notation, axiom, sorry.
-/
import Derived.Test.YtaaloepoegehkaaChecked
import GoSem.Claim
import GoSem.ClaimJoined
import GoSem.ClaimMapViews
import Derived.JoinedTies
import Derived.KernelRfl
namespace Go.Proofs.Ytaaloepoegehkaa
/- THE CELL 'sum', in the pinned program and in every row, IS THE sha256 OF THE DUMP (.gsa) THAT YtaaloepoegehkaaProg.lean LOADS. Nothing in Lean hashes anything: it is a label: what it is worth is what the hold of that sum in a sandbox is worth. -/
noncomputable def Try.pinned : Pinned := { name := "ytaaloepoegehkaa", sum := "028ca6595a90f5ae6fb57d65acf50d45dc6ae9d5b8ef200649a8a884d5efb8a3", checked := Try.checked }
namespace Rows
def none {H : Type} : Left H := { results := [], args := [] }

/-- 'laws.FnExactPassesTests': WHATEVER THE INPUT: true; the input reads as it did. -/
def fnExactPassesTestsSpec : ChangeSpec := { name := "fnExactPassesTests", fn := fun _ => fun
  | [d1, d2, d3, d4] => { results := [.lit (.bool true)], args := [d1, d2, d3, d4] }
  | _ => none }
def fnExactPassesTestsRow : OpenClaim := { program := "ytaaloepoegehkaa", sum := "028ca6595a90f5ae6fb57d65acf50d45dc6ae9d5b8ef200649a8a884d5efb8a3", func := "loop.example/g01127/laws.FnExactPassesTests", spec := "fnExactPassesTests", unfollowed := true, recurses := true, apart := false }
def FnExactPassesTestsSaid : Prop := fnExactPassesTestsRow.holds Try.pinned (OpenSpec.ofChange fnExactPassesTestsSpec)

/-- ITS FALSE NEIGHBOUR: 'it returns false'. Refute it at one input. -/
def fnExactPassesTestsWrong : ChangeSpec := { name := "fnExactPassesTests", fn := fun _ => fun
  | [d1, d2, d3, d4] => { results := [.lit (.bool false)], args := [d1, d2, d3, d4] }
  | _ => none }
def FnExactPassesTestsWrongFalsely : Prop := fnExactPassesTestsRow.holds Try.pinned (OpenSpec.ofChange fnExactPassesTestsWrong)

/-- 'laws.FnExactListSchedule': WHATEVER THE INPUT: true; the input reads as it did. -/
def fnExactListScheduleSpec : ChangeSpec := { name := "fnExactListSchedule", fn := fun _ => fun
  | [d1, d2] => { results := [.lit (.bool true)], args := [d1, d2] }
  | _ => none }
def fnExactListScheduleRow : OpenClaim := { program := "ytaaloepoegehkaa", sum := "028ca6595a90f5ae6fb57d65acf50d45dc6ae9d5b8ef200649a8a884d5efb8a3", func := "loop.example/g01127/laws.FnExactListSchedule", spec := "fnExactListSchedule", unfollowed := true, recurses := true, apart := false }
def FnExactListScheduleSaid : Prop := fnExactListScheduleRow.holds Try.pinned (OpenSpec.ofChange fnExactListScheduleSpec)

/-- ITS FALSE NEIGHBOUR: 'it returns false'. Refute it at one input. -/
def fnExactListScheduleWrong : ChangeSpec := { name := "fnExactListSchedule", fn := fun _ => fun
  | [d1, d2] => { results := [.lit (.bool false)], args := [d1, d2] }
  | _ => none }
def FnExactListScheduleWrongFalsely : Prop := fnExactListScheduleRow.holds Try.pinned (OpenSpec.ofChange fnExactListScheduleWrong)

/-- 'laws.FnExactOrderOfSchedule': WHATEVER THE INPUT: true; the input reads as it did. -/
def fnExactOrderOfScheduleSpec : ChangeSpec := { name := "fnExactOrderOfSchedule", fn := fun _ => fun
  | [d1, d2] => { results := [.lit (.bool true)], args := [d1, d2] }
  | _ => none }
def fnExactOrderOfScheduleRow : OpenClaim := { program := "ytaaloepoegehkaa", sum := "028ca6595a90f5ae6fb57d65acf50d45dc6ae9d5b8ef200649a8a884d5efb8a3", func := "loop.example/g01127/laws.FnExactOrderOfSchedule", spec := "fnExactOrderOfSchedule", unfollowed := true, recurses := true, apart := false }
def FnExactOrderOfScheduleSaid : Prop := fnExactOrderOfScheduleRow.holds Try.pinned (OpenSpec.ofChange fnExactOrderOfScheduleSpec)

/-- ITS FALSE NEIGHBOUR: 'it returns false'. Refute it at one input. -/
def fnExactOrderOfScheduleWrong : ChangeSpec := { name := "fnExactOrderOfSchedule", fn := fun _ => fun
  | [d1, d2] => { results := [.lit (.bool false)], args := [d1, d2] }
  | _ => none }
def FnExactOrderOfScheduleWrongFalsely : Prop := fnExactOrderOfScheduleRow.holds Try.pinned (OpenSpec.ofChange fnExactOrderOfScheduleWrong)

/-- 'laws.FnExactBestSchedule': WHATEVER THE INPUT: true; the input reads as it did. -/
def fnExactBestScheduleSpec : ChangeSpec := { name := "fnExactBestSchedule", fn := fun _ => fun
  | [d1, d2] => { results := [.lit (.bool true)], args := [d1, d2] }
  | _ => none }
def fnExactBestScheduleRow : OpenClaim := { program := "ytaaloepoegehkaa", sum := "028ca6595a90f5ae6fb57d65acf50d45dc6ae9d5b8ef200649a8a884d5efb8a3", func := "loop.example/g01127/laws.FnExactBestSchedule", spec := "fnExactBestSchedule", unfollowed := true, recurses := true, apart := false }
def FnExactBestScheduleSaid : Prop := fnExactBestScheduleRow.holds Try.pinned (OpenSpec.ofChange fnExactBestScheduleSpec)

/-- ITS FALSE NEIGHBOUR: 'it returns false'. Refute it at one input. -/
def fnExactBestScheduleWrong : ChangeSpec := { name := "fnExactBestSchedule", fn := fun _ => fun
  | [d1, d2] => { results := [.lit (.bool false)], args := [d1, d2] }
  | _ => none }
def FnExactBestScheduleWrongFalsely : Prop := fnExactBestScheduleRow.holds Try.pinned (OpenSpec.ofChange fnExactBestScheduleWrong)

/-- 'laws.FnExactLeastLength': WHATEVER THE INPUT: true; the input reads as it did. -/
def fnExactLeastLengthSpec : ChangeSpec := { name := "fnExactLeastLength", fn := fun _ => fun
  | [d1, d2] => { results := [.lit (.bool true)], args := [d1, d2] }
  | _ => none }
def fnExactLeastLengthRow : OpenClaim := { program := "ytaaloepoegehkaa", sum := "028ca6595a90f5ae6fb57d65acf50d45dc6ae9d5b8ef200649a8a884d5efb8a3", func := "loop.example/g01127/laws.FnExactLeastLength", spec := "fnExactLeastLength", unfollowed := true, recurses := true, apart := false }
def FnExactLeastLengthSaid : Prop := fnExactLeastLengthRow.holds Try.pinned (OpenSpec.ofChange fnExactLeastLengthSpec)

/-- ITS FALSE NEIGHBOUR: 'it returns false'. Refute it at one input. -/
def fnExactLeastLengthWrong : ChangeSpec := { name := "fnExactLeastLength", fn := fun _ => fun
  | [d1, d2] => { results := [.lit (.bool false)], args := [d1, d2] }
  | _ => none }
def FnExactLeastLengthWrongFalsely : Prop := fnExactLeastLengthRow.holds Try.pinned (OpenSpec.ofChange fnExactLeastLengthWrong)

/-- 'laws.FnExactFirstDesk': WHATEVER THE INPUT: true; the input reads as it did. -/
def fnExactFirstDeskSpec : ChangeSpec := { name := "fnExactFirstDesk", fn := fun _ => fun
  | [] => { results := [.lit (.bool true)], args := [] }
  | _ => none }
def fnExactFirstDeskRow : OpenClaim := { program := "ytaaloepoegehkaa", sum := "028ca6595a90f5ae6fb57d65acf50d45dc6ae9d5b8ef200649a8a884d5efb8a3", func := "loop.example/g01127/laws.FnExactFirstDesk", spec := "fnExactFirstDesk", apart := false }
def FnExactFirstDeskSaid : Prop := fnExactFirstDeskRow.holds Try.pinned (OpenSpec.ofChange fnExactFirstDeskSpec)

/-- ITS FALSE NEIGHBOUR: 'it returns false'. Refute it at one input. -/
def fnExactFirstDeskWrong : ChangeSpec := { name := "fnExactFirstDesk", fn := fun _ => fun
  | [] => { results := [.lit (.bool false)], args := [] }
  | _ => none }
def FnExactFirstDeskWrongFalsely : Prop := fnExactFirstDeskRow.holds Try.pinned (OpenSpec.ofChange fnExactFirstDeskWrong)

/-- 'laws.FnExactIsDesk': WHATEVER THE INPUT: true; the input reads as it did. -/
def fnExactIsDeskSpec : ChangeSpec := { name := "fnExactIsDesk", fn := fun _ => fun
  | [d] => { results := [.lit (.bool true)], args := [d] }
  | _ => none }
def fnExactIsDeskRow : OpenClaim := { program := "ytaaloepoegehkaa", sum := "028ca6595a90f5ae6fb57d65acf50d45dc6ae9d5b8ef200649a8a884d5efb8a3", func := "loop.example/g01127/laws.FnExactIsDesk", spec := "fnExactIsDesk", apart := false }
def FnExactIsDeskSaid : Prop := fnExactIsDeskRow.holds Try.pinned (OpenSpec.ofChange fnExactIsDeskSpec)

/-- ITS FALSE NEIGHBOUR: 'it returns false'. Refute it at one input. -/
def fnExactIsDeskWrong : ChangeSpec := { name := "fnExactIsDesk", fn := fun _ => fun
  | [d] => { results := [.lit (.bool false)], args := [d] }
  | _ => none }
def FnExactIsDeskWrongFalsely : Prop := fnExactIsDeskRow.holds Try.pinned (OpenSpec.ofChange fnExactIsDeskWrong)

/-- 'laws.FnExactIsChoice': WHATEVER THE INPUT: true; the input reads as it did. -/
def fnExactIsChoiceSpec : ChangeSpec := { name := "fnExactIsChoice", fn := fun _ => fun
  | [d] => { results := [.lit (.bool true)], args := [d] }
  | _ => none }
def fnExactIsChoiceRow : OpenClaim := { program := "ytaaloepoegehkaa", sum := "028ca6595a90f5ae6fb57d65acf50d45dc6ae9d5b8ef200649a8a884d5efb8a3", func := "loop.example/g01127/laws.FnExactIsChoice", spec := "fnExactIsChoice", unfollowed := true, recurses := true, apart := false }
def FnExactIsChoiceSaid : Prop := fnExactIsChoiceRow.holds Try.pinned (OpenSpec.ofChange fnExactIsChoiceSpec)

/-- ITS FALSE NEIGHBOUR: 'it returns false'. Refute it at one input. -/
def fnExactIsChoiceWrong : ChangeSpec := { name := "fnExactIsChoice", fn := fun _ => fun
  | [d] => { results := [.lit (.bool false)], args := [d] }
  | _ => none }
def FnExactIsChoiceWrongFalsely : Prop := fnExactIsChoiceRow.holds Try.pinned (OpenSpec.ofChange fnExactIsChoiceWrong)

/-- 'laws.FnExactStepsOf': WHATEVER THE INPUT: true; the input reads as it did. -/
def fnExactStepsOfSpec : ChangeSpec := { name := "fnExactStepsOf", fn := fun _ => fun
  | [d1, d2] => { results := [.lit (.bool true)], args := [d1, d2] }
  | _ => none }
def fnExactStepsOfRow : OpenClaim := { program := "ytaaloepoegehkaa", sum := "028ca6595a90f5ae6fb57d65acf50d45dc6ae9d5b8ef200649a8a884d5efb8a3", func := "loop.example/g01127/laws.FnExactStepsOf", spec := "fnExactStepsOf", unfollowed := true, recurses := true, apart := false }
def FnExactStepsOfSaid : Prop := fnExactStepsOfRow.holds Try.pinned (OpenSpec.ofChange fnExactStepsOfSpec)

/-- ITS FALSE NEIGHBOUR: 'it returns false'. Refute it at one input. -/
def fnExactStepsOfWrong : ChangeSpec := { name := "fnExactStepsOf", fn := fun _ => fun
  | [d1, d2] => { results := [.lit (.bool false)], args := [d1, d2] }
  | _ => none }
def FnExactStepsOfWrongFalsely : Prop := fnExactStepsOfRow.holds Try.pinned (OpenSpec.ofChange fnExactStepsOfWrong)

/-- 'laws.FnExactCountPrograms': WHATEVER THE INPUT: true; the input reads as it did. -/
def fnExactCountProgramsSpec : ChangeSpec := { name := "fnExactCountPrograms", fn := fun _ => fun
  | [d1, d2] => { results := [.lit (.bool true)], args := [d1, d2] }
  | _ => none }
def fnExactCountProgramsRow : OpenClaim := { program := "ytaaloepoegehkaa", sum := "028ca6595a90f5ae6fb57d65acf50d45dc6ae9d5b8ef200649a8a884d5efb8a3", func := "loop.example/g01127/laws.FnExactCountPrograms", spec := "fnExactCountPrograms", unfollowed := true, recurses := true, apart := false }
def FnExactCountProgramsSaid : Prop := fnExactCountProgramsRow.holds Try.pinned (OpenSpec.ofChange fnExactCountProgramsSpec)

/-- ITS FALSE NEIGHBOUR: 'it returns false'. Refute it at one input. -/
def fnExactCountProgramsWrong : ChangeSpec := { name := "fnExactCountPrograms", fn := fun _ => fun
  | [d1, d2] => { results := [.lit (.bool false)], args := [d1, d2] }
  | _ => none }
def FnExactCountProgramsWrongFalsely : Prop := fnExactCountProgramsRow.holds Try.pinned (OpenSpec.ofChange fnExactCountProgramsWrong)

/-- 'laws.FnExactProgramWith': WHATEVER THE INPUT: true; the input reads as it did. -/
def fnExactProgramWithSpec : ChangeSpec := { name := "fnExactProgramWith", fn := fun _ => fun
  | [d1, d2, d3] => { results := [.lit (.bool true)], args := [d1, d2, d3] }
  | _ => none }
def fnExactProgramWithRow : OpenClaim := { program := "ytaaloepoegehkaa", sum := "028ca6595a90f5ae6fb57d65acf50d45dc6ae9d5b8ef200649a8a884d5efb8a3", func := "loop.example/g01127/laws.FnExactProgramWith", spec := "fnExactProgramWith", unfollowed := true, recurses := true, apart := false }
def FnExactProgramWithSaid : Prop := fnExactProgramWithRow.holds Try.pinned (OpenSpec.ofChange fnExactProgramWithSpec)

/-- ITS FALSE NEIGHBOUR: 'it returns false'. Refute it at one input. -/
def fnExactProgramWithWrong : ChangeSpec := { name := "fnExactProgramWith", fn := fun _ => fun
  | [d1, d2, d3] => { results := [.lit (.bool false)], args := [d1, d2, d3] }
  | _ => none }
def FnExactProgramWithWrongFalsely : Prop := fnExactProgramWithRow.holds Try.pinned (OpenSpec.ofChange fnExactProgramWithWrong)

/-- 'laws.FnExactRankProgram': WHATEVER THE INPUT: true; the input reads as it did. -/
def fnExactRankProgramSpec : ChangeSpec := { name := "fnExactRankProgram", fn := fun _ => fun
  | [d1, d2] => { results := [.lit (.bool true)], args := [d1, d2] }
  | _ => none }
def fnExactRankProgramRow : OpenClaim := { program := "ytaaloepoegehkaa", sum := "028ca6595a90f5ae6fb57d65acf50d45dc6ae9d5b8ef200649a8a884d5efb8a3", func := "loop.example/g01127/laws.FnExactRankProgram", spec := "fnExactRankProgram", unfollowed := true, recurses := true, apart := false }
def FnExactRankProgramSaid : Prop := fnExactRankProgramRow.holds Try.pinned (OpenSpec.ofChange fnExactRankProgramSpec)

/-- ITS FALSE NEIGHBOUR: 'it returns false'. Refute it at one input. -/
def fnExactRankProgramWrong : ChangeSpec := { name := "fnExactRankProgram", fn := fun _ => fun
  | [d1, d2] => { results := [.lit (.bool false)], args := [d1, d2] }
  | _ => none }
def FnExactRankProgramWrongFalsely : Prop := fnExactRankProgramRow.holds Try.pinned (OpenSpec.ofChange fnExactRankProgramWrong)

/-- 'laws.FnExactIsProgram': WHATEVER THE INPUT: true; the input reads as it did. -/
def fnExactIsProgramSpec : ChangeSpec := { name := "fnExactIsProgram", fn := fun _ => fun
  | [d1, d2] => { results := [.lit (.bool true)], args := [d1, d2] }
  | _ => none }
def fnExactIsProgramRow : OpenClaim := { program := "ytaaloepoegehkaa", sum := "028ca6595a90f5ae6fb57d65acf50d45dc6ae9d5b8ef200649a8a884d5efb8a3", func := "loop.example/g01127/laws.FnExactIsProgram", spec := "fnExactIsProgram", unfollowed := true, recurses := true, apart := false }
def FnExactIsProgramSaid : Prop := fnExactIsProgramRow.holds Try.pinned (OpenSpec.ofChange fnExactIsProgramSpec)

/-- ITS FALSE NEIGHBOUR: 'it returns false'. Refute it at one input. -/
def fnExactIsProgramWrong : ChangeSpec := { name := "fnExactIsProgram", fn := fun _ => fun
  | [d1, d2] => { results := [.lit (.bool false)], args := [d1, d2] }
  | _ => none }
def FnExactIsProgramWrongFalsely : Prop := fnExactIsProgramRow.holds Try.pinned (OpenSpec.ofChange fnExactIsProgramWrong)

/-- 'laws.FnExactProgramTable': WHATEVER THE INPUT: true; the input reads as it did. -/
def fnExactProgramTableSpec : ChangeSpec := { name := "fnExactProgramTable", fn := fun _ => fun
  | [d1, d2] => { results := [.lit (.bool true)], args := [d1, d2] }
  | _ => none }
def fnExactProgramTableRow : OpenClaim := { program := "ytaaloepoegehkaa", sum := "028ca6595a90f5ae6fb57d65acf50d45dc6ae9d5b8ef200649a8a884d5efb8a3", func := "loop.example/g01127/laws.FnExactProgramTable", spec := "fnExactProgramTable", unfollowed := true, recurses := true, apart := false }
def FnExactProgramTableSaid : Prop := fnExactProgramTableRow.holds Try.pinned (OpenSpec.ofChange fnExactProgramTableSpec)

/-- ITS FALSE NEIGHBOUR: 'it returns false'. Refute it at one input. -/
def fnExactProgramTableWrong : ChangeSpec := { name := "fnExactProgramTable", fn := fun _ => fun
  | [d1, d2] => { results := [.lit (.bool false)], args := [d1, d2] }
  | _ => none }
def FnExactProgramTableWrongFalsely : Prop := fnExactProgramTableRow.holds Try.pinned (OpenSpec.ofChange fnExactProgramTableWrong)

/- THE SECOND FORM. 'bulk': how many values and letters a reading holds, each counted each time it is reached (what is shared counts as often as it is met; a slice's spare places count too). A statement '..UptoSaid' is the law's where the arguments, and the package variables that the reading takes, are together of bulk at most 1048576: NARROWER than '..Said'. Prove '..Said' where nothing that the law and all that it calls make is longer than what came in: it says more and counts as full. Else prove '..UptoSaid'. A law counts once. -/
mutual
def uptoBulk {H : Type} : DataW H → Nat
  | .lit (.string bytes) => bytes.length + 1
  | .lit _ => 1
  | .nil => 1
  | .ptr d => uptoBulk d + 1
  | .slice elems spare => uptoBulkAll elems + uptoBulkAll spare + 1
  | .agg parts => uptoBulkAll parts + 1
  | .iface _ d => uptoBulk d + 1
  | .map entries => uptoBulkEntries entries + 1
  | .held _ => 1
def uptoBulkAll {H : Type} : List (DataW H) → Nat
  | [] => 0
  | d :: r => uptoBulk d + uptoBulkAll r
def uptoBulkEntries {H : Type} : List (Lit × DataW H) → Nat
  | [] => 0
  | x :: r => uptoBulkEntry x + uptoBulkEntries r
def uptoBulkEntry {H : Type} : Lit × DataW H → Nat
  | (.string bytes, d) => bytes.length + uptoBulk d + 1
  | (_, d) => uptoBulk d + 1
 end
def uptoSmall : (H : Type) → List (DataW H) → Bool := fun _ ds => decide (uptoBulkAll ds ≤ 1048576)
def OpenSpec.upto (s : _root_.Go.ChangeSpec) : _root_.Go.OpenSpec := { _root_.Go.OpenSpec.ofChange s with cond := some uptoSmall }

/-- 'laws.FnExactPassesTests', WHERE WHAT IT READS IS OF BULK AT MOST 1048576: true; the input reads as it did. -/
def fnExactPassesTestsUptoRow : OpenClaim := { program := "ytaaloepoegehkaa", sum := "028ca6595a90f5ae6fb57d65acf50d45dc6ae9d5b8ef200649a8a884d5efb8a3", func := "loop.example/g01127/laws.FnExactPassesTests", spec := "fnExactPassesTests", unfollowed := true, recurses := true, apart := false, narrowed := true }
def FnExactPassesTestsUptoSaid : Prop := fnExactPassesTestsUptoRow.holds Try.pinned (OpenSpec.upto fnExactPassesTestsSpec)

/-- 'laws.FnExactListSchedule', WHERE WHAT IT READS IS OF BULK AT MOST 1048576: true; the input reads as it did. -/
def fnExactListScheduleUptoRow : OpenClaim := { program := "ytaaloepoegehkaa", sum := "028ca6595a90f5ae6fb57d65acf50d45dc6ae9d5b8ef200649a8a884d5efb8a3", func := "loop.example/g01127/laws.FnExactListSchedule", spec := "fnExactListSchedule", unfollowed := true, recurses := true, apart := false, narrowed := true }
def FnExactListScheduleUptoSaid : Prop := fnExactListScheduleUptoRow.holds Try.pinned (OpenSpec.upto fnExactListScheduleSpec)

/-- 'laws.FnExactOrderOfSchedule', WHERE WHAT IT READS IS OF BULK AT MOST 1048576: true; the input reads as it did. -/
def fnExactOrderOfScheduleUptoRow : OpenClaim := { program := "ytaaloepoegehkaa", sum := "028ca6595a90f5ae6fb57d65acf50d45dc6ae9d5b8ef200649a8a884d5efb8a3", func := "loop.example/g01127/laws.FnExactOrderOfSchedule", spec := "fnExactOrderOfSchedule", unfollowed := true, recurses := true, apart := false, narrowed := true }
def FnExactOrderOfScheduleUptoSaid : Prop := fnExactOrderOfScheduleUptoRow.holds Try.pinned (OpenSpec.upto fnExactOrderOfScheduleSpec)

/-- 'laws.FnExactBestSchedule', WHERE WHAT IT READS IS OF BULK AT MOST 1048576: true; the input reads as it did. -/
def fnExactBestScheduleUptoRow : OpenClaim := { program := "ytaaloepoegehkaa", sum := "028ca6595a90f5ae6fb57d65acf50d45dc6ae9d5b8ef200649a8a884d5efb8a3", func := "loop.example/g01127/laws.FnExactBestSchedule", spec := "fnExactBestSchedule", unfollowed := true, recurses := true, apart := false, narrowed := true }
def FnExactBestScheduleUptoSaid : Prop := fnExactBestScheduleUptoRow.holds Try.pinned (OpenSpec.upto fnExactBestScheduleSpec)

/-- 'laws.FnExactLeastLength', WHERE WHAT IT READS IS OF BULK AT MOST 1048576: true; the input reads as it did. -/
def fnExactLeastLengthUptoRow : OpenClaim := { program := "ytaaloepoegehkaa", sum := "028ca6595a90f5ae6fb57d65acf50d45dc6ae9d5b8ef200649a8a884d5efb8a3", func := "loop.example/g01127/laws.FnExactLeastLength", spec := "fnExactLeastLength", unfollowed := true, recurses := true, apart := false, narrowed := true }
def FnExactLeastLengthUptoSaid : Prop := fnExactLeastLengthUptoRow.holds Try.pinned (OpenSpec.upto fnExactLeastLengthSpec)

/-- 'laws.FnExactFirstDesk', WHERE WHAT IT READS IS OF BULK AT MOST 1048576: true; the input reads as it did. -/
def fnExactFirstDeskUptoRow : OpenClaim := { program := "ytaaloepoegehkaa", sum := "028ca6595a90f5ae6fb57d65acf50d45dc6ae9d5b8ef200649a8a884d5efb8a3", func := "loop.example/g01127/laws.FnExactFirstDesk", spec := "fnExactFirstDesk", apart := false, narrowed := true }
def FnExactFirstDeskUptoSaid : Prop := fnExactFirstDeskUptoRow.holds Try.pinned (OpenSpec.upto fnExactFirstDeskSpec)

/-- 'laws.FnExactIsDesk', WHERE WHAT IT READS IS OF BULK AT MOST 1048576: true; the input reads as it did. -/
def fnExactIsDeskUptoRow : OpenClaim := { program := "ytaaloepoegehkaa", sum := "028ca6595a90f5ae6fb57d65acf50d45dc6ae9d5b8ef200649a8a884d5efb8a3", func := "loop.example/g01127/laws.FnExactIsDesk", spec := "fnExactIsDesk", apart := false, narrowed := true }
def FnExactIsDeskUptoSaid : Prop := fnExactIsDeskUptoRow.holds Try.pinned (OpenSpec.upto fnExactIsDeskSpec)

/-- 'laws.FnExactIsChoice', WHERE WHAT IT READS IS OF BULK AT MOST 1048576: true; the input reads as it did. -/
def fnExactIsChoiceUptoRow : OpenClaim := { program := "ytaaloepoegehkaa", sum := "028ca6595a90f5ae6fb57d65acf50d45dc6ae9d5b8ef200649a8a884d5efb8a3", func := "loop.example/g01127/laws.FnExactIsChoice", spec := "fnExactIsChoice", unfollowed := true, recurses := true, apart := false, narrowed := true }
def FnExactIsChoiceUptoSaid : Prop := fnExactIsChoiceUptoRow.holds Try.pinned (OpenSpec.upto fnExactIsChoiceSpec)

/-- 'laws.FnExactStepsOf', WHERE WHAT IT READS IS OF BULK AT MOST 1048576: true; the input reads as it did. -/
def fnExactStepsOfUptoRow : OpenClaim := { program := "ytaaloepoegehkaa", sum := "028ca6595a90f5ae6fb57d65acf50d45dc6ae9d5b8ef200649a8a884d5efb8a3", func := "loop.example/g01127/laws.FnExactStepsOf", spec := "fnExactStepsOf", unfollowed := true, recurses := true, apart := false, narrowed := true }
def FnExactStepsOfUptoSaid : Prop := fnExactStepsOfUptoRow.holds Try.pinned (OpenSpec.upto fnExactStepsOfSpec)

/-- 'laws.FnExactCountPrograms', WHERE WHAT IT READS IS OF BULK AT MOST 1048576: true; the input reads as it did. -/
def fnExactCountProgramsUptoRow : OpenClaim := { program := "ytaaloepoegehkaa", sum := "028ca6595a90f5ae6fb57d65acf50d45dc6ae9d5b8ef200649a8a884d5efb8a3", func := "loop.example/g01127/laws.FnExactCountPrograms", spec := "fnExactCountPrograms", unfollowed := true, recurses := true, apart := false, narrowed := true }
def FnExactCountProgramsUptoSaid : Prop := fnExactCountProgramsUptoRow.holds Try.pinned (OpenSpec.upto fnExactCountProgramsSpec)

/-- 'laws.FnExactProgramWith', WHERE WHAT IT READS IS OF BULK AT MOST 1048576: true; the input reads as it did. -/
def fnExactProgramWithUptoRow : OpenClaim := { program := "ytaaloepoegehkaa", sum := "028ca6595a90f5ae6fb57d65acf50d45dc6ae9d5b8ef200649a8a884d5efb8a3", func := "loop.example/g01127/laws.FnExactProgramWith", spec := "fnExactProgramWith", unfollowed := true, recurses := true, apart := false, narrowed := true }
def FnExactProgramWithUptoSaid : Prop := fnExactProgramWithUptoRow.holds Try.pinned (OpenSpec.upto fnExactProgramWithSpec)

/-- 'laws.FnExactRankProgram', WHERE WHAT IT READS IS OF BULK AT MOST 1048576: true; the input reads as it did. -/
def fnExactRankProgramUptoRow : OpenClaim := { program := "ytaaloepoegehkaa", sum := "028ca6595a90f5ae6fb57d65acf50d45dc6ae9d5b8ef200649a8a884d5efb8a3", func := "loop.example/g01127/laws.FnExactRankProgram", spec := "fnExactRankProgram", unfollowed := true, recurses := true, apart := false, narrowed := true }
def FnExactRankProgramUptoSaid : Prop := fnExactRankProgramUptoRow.holds Try.pinned (OpenSpec.upto fnExactRankProgramSpec)

/-- 'laws.FnExactIsProgram', WHERE WHAT IT READS IS OF BULK AT MOST 1048576: true; the input reads as it did. -/
def fnExactIsProgramUptoRow : OpenClaim := { program := "ytaaloepoegehkaa", sum := "028ca6595a90f5ae6fb57d65acf50d45dc6ae9d5b8ef200649a8a884d5efb8a3", func := "loop.example/g01127/laws.FnExactIsProgram", spec := "fnExactIsProgram", unfollowed := true, recurses := true, apart := false, narrowed := true }
def FnExactIsProgramUptoSaid : Prop := fnExactIsProgramUptoRow.holds Try.pinned (OpenSpec.upto fnExactIsProgramSpec)

/-- 'laws.FnExactProgramTable', WHERE WHAT IT READS IS OF BULK AT MOST 1048576: true; the input reads as it did. -/
def fnExactProgramTableUptoRow : OpenClaim := { program := "ytaaloepoegehkaa", sum := "028ca6595a90f5ae6fb57d65acf50d45dc6ae9d5b8ef200649a8a884d5efb8a3", func := "loop.example/g01127/laws.FnExactProgramTable", spec := "fnExactProgramTable", unfollowed := true, recurses := true, apart := false, narrowed := true }
def FnExactProgramTableUptoSaid : Prop := fnExactProgramTableUptoRow.holds Try.pinned (OpenSpec.upto fnExactProgramTableSpec)

end Rows
end Go.Proofs.Ytaaloepoegehkaa
