/-
  No cell of these rows narrows 'for every input' (looked for: loops, veiled, ifaces, maps, wideKeys, modest, calm, conditions, laid).
  DERIVED. THE GIVEN ROWS OF THIS SEAT. 17 by the template 'for every input the law returns true; each argument reads behind the call as it read before'; 0 by the template 'total and deterministic' (their statements: YtjnbgnnlpeoaoaaTotals.lean).
  GIVEN WITH THE SEED: the statements are not yours to turn. If you find one false, say at which input.
  Laid BY PROGRAM, IN A SANDBOX (cutbox-rows.mjs): the forced cells as the released guide's own fill.sh prints them over the translation 11bc022bcc71f7de… (all of the seat's roots in one cut). By AI agents, Wed Nov 11 2026. No macro, syntax, notation, axiom, sorry.
-/
import Derived.Test.YtjnbgnnlpeoaoaaChecked
import GoSem.Claim
import GoSem.ClaimJoined
import GoSem.ClaimMapViews
import Derived.JoinedTies
import Derived.KernelRfl
namespace Go.Proofs.Ytjnbgnnlpeoaoaa
/- THE CELL 'sum', in the pinned program and in every row, IS THE sha256 OF THE DUMP (.gsa) THAT YtjnbgnnlpeoaoaaProg.lean LOADS. Nothing in Lean hashes anything: it is a label: what it is worth is what the hold of that sum in a sandbox is worth. -/
noncomputable def Try.pinned : Pinned := { name := "ytjnbgnnlpeoaoaa", sum := "11bc022bcc71f7de541c94e636fc81b7672d16998645cf14869c2b654e5663b5", checked := Try.checked }
namespace Rows
def none {H : Type} : Left H := { results := [], args := [] }

/-- 'laws.FnExactIsInstr': WHATEVER THE INPUT: true; the input reads as it did. -/
def fnExactIsInstrSpec : ChangeSpec := { name := "fnExactIsInstr", fn := fun _ => fun
  | [d] => { results := [.lit (.bool true)], args := [d] }
  | _ => none }
def fnExactIsInstrRow : OpenClaim := { program := "ytjnbgnnlpeoaoaa", sum := "11bc022bcc71f7de541c94e636fc81b7672d16998645cf14869c2b654e5663b5", func := "loop.example/g01127/laws.FnExactIsInstr", spec := "fnExactIsInstr", apart := false }
def FnExactIsInstrSaid : Prop := fnExactIsInstrRow.holds Try.pinned (OpenSpec.ofChange fnExactIsInstrSpec)

/-- ITS FALSE NEIGHBOUR: 'it returns false'. Refute it at one input. -/
def fnExactIsInstrWrong : ChangeSpec := { name := "fnExactIsInstr", fn := fun _ => fun
  | [d] => { results := [.lit (.bool false)], args := [d] }
  | _ => none }
def FnExactIsInstrWrongFalsely : Prop := fnExactIsInstrRow.holds Try.pinned (OpenSpec.ofChange fnExactIsInstrWrong)

/-- 'laws.FnExactIsCode': WHATEVER THE INPUT: true; the input reads as it did. -/
def fnExactIsCodeSpec : ChangeSpec := { name := "fnExactIsCode", fn := fun _ => fun
  | [d] => { results := [.lit (.bool true)], args := [d] }
  | _ => none }
def fnExactIsCodeRow : OpenClaim := { program := "ytjnbgnnlpeoaoaa", sum := "11bc022bcc71f7de541c94e636fc81b7672d16998645cf14869c2b654e5663b5", func := "loop.example/g01127/laws.FnExactIsCode", spec := "fnExactIsCode", apart := false }
def FnExactIsCodeSaid : Prop := fnExactIsCodeRow.holds Try.pinned (OpenSpec.ofChange fnExactIsCodeSpec)

/-- ITS FALSE NEIGHBOUR: 'it returns false'. Refute it at one input. -/
def fnExactIsCodeWrong : ChangeSpec := { name := "fnExactIsCode", fn := fun _ => fun
  | [d] => { results := [.lit (.bool false)], args := [d] }
  | _ => none }
def FnExactIsCodeWrongFalsely : Prop := fnExactIsCodeRow.holds Try.pinned (OpenSpec.ofChange fnExactIsCodeWrong)

/-- 'laws.FnExactCostOfInstr': WHATEVER THE INPUT: true; the input reads as it did. -/
def fnExactCostOfInstrSpec : ChangeSpec := { name := "fnExactCostOfInstr", fn := fun _ => fun
  | [d] => { results := [.lit (.bool true)], args := [d] }
  | _ => none }
def fnExactCostOfInstrRow : OpenClaim := { program := "ytjnbgnnlpeoaoaa", sum := "11bc022bcc71f7de541c94e636fc81b7672d16998645cf14869c2b654e5663b5", func := "loop.example/g01127/laws.FnExactCostOfInstr", spec := "fnExactCostOfInstr", apart := false }
def FnExactCostOfInstrSaid : Prop := fnExactCostOfInstrRow.holds Try.pinned (OpenSpec.ofChange fnExactCostOfInstrSpec)

/-- ITS FALSE NEIGHBOUR: 'it returns false'. Refute it at one input. -/
def fnExactCostOfInstrWrong : ChangeSpec := { name := "fnExactCostOfInstr", fn := fun _ => fun
  | [d] => { results := [.lit (.bool false)], args := [d] }
  | _ => none }
def FnExactCostOfInstrWrongFalsely : Prop := fnExactCostOfInstrRow.holds Try.pinned (OpenSpec.ofChange fnExactCostOfInstrWrong)

/-- 'laws.FnExactCodeCost': WHATEVER THE INPUT: true; the input reads as it did. -/
def fnExactCodeCostSpec : ChangeSpec := { name := "fnExactCodeCost", fn := fun _ => fun
  | [d] => { results := [.lit (.bool true)], args := [d] }
  | _ => none }
def fnExactCodeCostRow : OpenClaim := { program := "ytjnbgnnlpeoaoaa", sum := "11bc022bcc71f7de541c94e636fc81b7672d16998645cf14869c2b654e5663b5", func := "loop.example/g01127/laws.FnExactCodeCost", spec := "fnExactCodeCost", apart := false }
def FnExactCodeCostSaid : Prop := fnExactCodeCostRow.holds Try.pinned (OpenSpec.ofChange fnExactCodeCostSpec)

/-- ITS FALSE NEIGHBOUR: 'it returns false'. Refute it at one input. -/
def fnExactCodeCostWrong : ChangeSpec := { name := "fnExactCodeCost", fn := fun _ => fun
  | [d] => { results := [.lit (.bool false)], args := [d] }
  | _ => none }
def FnExactCodeCostWrongFalsely : Prop := fnExactCodeCostRow.holds Try.pinned (OpenSpec.ofChange fnExactCodeCostWrong)

/-- 'laws.FnExactStepInstr': WHATEVER THE INPUT: true; the input reads as it did. -/
def fnExactStepInstrSpec : ChangeSpec := { name := "fnExactStepInstr", fn := fun _ => fun
  | [d1, d2] => { results := [.lit (.bool true)], args := [d1, d2] }
  | _ => none }
def fnExactStepInstrRow : OpenClaim := { program := "ytjnbgnnlpeoaoaa", sum := "11bc022bcc71f7de541c94e636fc81b7672d16998645cf14869c2b654e5663b5", func := "loop.example/g01127/laws.FnExactStepInstr", spec := "fnExactStepInstr", unfollowed := true, recurses := true, apart := false }
def FnExactStepInstrSaid : Prop := fnExactStepInstrRow.holds Try.pinned (OpenSpec.ofChange fnExactStepInstrSpec)

/-- ITS FALSE NEIGHBOUR: 'it returns false'. Refute it at one input. -/
def fnExactStepInstrWrong : ChangeSpec := { name := "fnExactStepInstr", fn := fun _ => fun
  | [d1, d2] => { results := [.lit (.bool false)], args := [d1, d2] }
  | _ => none }
def FnExactStepInstrWrongFalsely : Prop := fnExactStepInstrRow.holds Try.pinned (OpenSpec.ofChange fnExactStepInstrWrong)

/-- 'laws.FnExactRunCode': WHATEVER THE INPUT: true; the input reads as it did. -/
def fnExactRunCodeSpec : ChangeSpec := { name := "fnExactRunCode", fn := fun _ => fun
  | [d1, d2] => { results := [.lit (.bool true)], args := [d1, d2] }
  | _ => none }
def fnExactRunCodeRow : OpenClaim := { program := "ytjnbgnnlpeoaoaa", sum := "11bc022bcc71f7de541c94e636fc81b7672d16998645cf14869c2b654e5663b5", func := "loop.example/g01127/laws.FnExactRunCode", spec := "fnExactRunCode", unfollowed := true, recurses := true, apart := false }
def FnExactRunCodeSaid : Prop := fnExactRunCodeRow.holds Try.pinned (OpenSpec.ofChange fnExactRunCodeSpec)

/-- ITS FALSE NEIGHBOUR: 'it returns false'. Refute it at one input. -/
def fnExactRunCodeWrong : ChangeSpec := { name := "fnExactRunCode", fn := fun _ => fun
  | [d1, d2] => { results := [.lit (.bool false)], args := [d1, d2] }
  | _ => none }
def FnExactRunCodeWrongFalsely : Prop := fnExactRunCodeRow.holds Try.pinned (OpenSpec.ofChange fnExactRunCodeWrong)

/-- 'laws.FnExactTraceOf': WHATEVER THE INPUT: true; the input reads as it did. -/
def fnExactTraceOfSpec : ChangeSpec := { name := "fnExactTraceOf", fn := fun _ => fun
  | [d1, d2] => { results := [.lit (.bool true)], args := [d1, d2] }
  | _ => none }
def fnExactTraceOfRow : OpenClaim := { program := "ytjnbgnnlpeoaoaa", sum := "11bc022bcc71f7de541c94e636fc81b7672d16998645cf14869c2b654e5663b5", func := "loop.example/g01127/laws.FnExactTraceOf", spec := "fnExactTraceOf", unfollowed := true, recurses := true, apart := false }
def FnExactTraceOfSaid : Prop := fnExactTraceOfRow.holds Try.pinned (OpenSpec.ofChange fnExactTraceOfSpec)

/-- ITS FALSE NEIGHBOUR: 'it returns false'. Refute it at one input. -/
def fnExactTraceOfWrong : ChangeSpec := { name := "fnExactTraceOf", fn := fun _ => fun
  | [d1, d2] => { results := [.lit (.bool false)], args := [d1, d2] }
  | _ => none }
def FnExactTraceOfWrongFalsely : Prop := fnExactTraceOfRow.holds Try.pinned (OpenSpec.ofChange fnExactTraceOfWrong)

/-- 'laws.FnExactResultOf': WHATEVER THE INPUT: true; the input reads as it did. -/
def fnExactResultOfSpec : ChangeSpec := { name := "fnExactResultOf", fn := fun _ => fun
  | [d1, d2, d3, d4] => { results := [.lit (.bool true)], args := [d1, d2, d3, d4] }
  | _ => none }
def fnExactResultOfRow : OpenClaim := { program := "ytjnbgnnlpeoaoaa", sum := "11bc022bcc71f7de541c94e636fc81b7672d16998645cf14869c2b654e5663b5", func := "loop.example/g01127/laws.FnExactResultOf", spec := "fnExactResultOf", unfollowed := true, recurses := true, apart := false }
def FnExactResultOfSaid : Prop := fnExactResultOfRow.holds Try.pinned (OpenSpec.ofChange fnExactResultOfSpec)

/-- ITS FALSE NEIGHBOUR: 'it returns false'. Refute it at one input. -/
def fnExactResultOfWrong : ChangeSpec := { name := "fnExactResultOf", fn := fun _ => fun
  | [d1, d2, d3, d4] => { results := [.lit (.bool false)], args := [d1, d2, d3, d4] }
  | _ => none }
def FnExactResultOfWrongFalsely : Prop := fnExactResultOfRow.holds Try.pinned (OpenSpec.ofChange fnExactResultOfWrong)

/-- 'laws.FnExactReadsOf': WHATEVER THE INPUT: true; the input reads as it did. -/
def fnExactReadsOfSpec : ChangeSpec := { name := "fnExactReadsOf", fn := fun _ => fun
  | [d] => { results := [.lit (.bool true)], args := [d] }
  | _ => none }
def fnExactReadsOfRow : OpenClaim := { program := "ytjnbgnnlpeoaoaa", sum := "11bc022bcc71f7de541c94e636fc81b7672d16998645cf14869c2b654e5663b5", func := "loop.example/g01127/laws.FnExactReadsOf", spec := "fnExactReadsOf", recurses := true, apart := false }
def FnExactReadsOfSaid : Prop := fnExactReadsOfRow.holds Try.pinned (OpenSpec.ofChange fnExactReadsOfSpec)

/-- ITS FALSE NEIGHBOUR: 'it returns false'. Refute it at one input. -/
def fnExactReadsOfWrong : ChangeSpec := { name := "fnExactReadsOf", fn := fun _ => fun
  | [d] => { results := [.lit (.bool false)], args := [d] }
  | _ => none }
def FnExactReadsOfWrongFalsely : Prop := fnExactReadsOfRow.holds Try.pinned (OpenSpec.ofChange fnExactReadsOfWrong)

/-- 'laws.FnExactLiveBefore': WHATEVER THE INPUT: true; the input reads as it did. -/
def fnExactLiveBeforeSpec : ChangeSpec := { name := "fnExactLiveBefore", fn := fun _ => fun
  | [d1, d2] => { results := [.lit (.bool true)], args := [d1, d2] }
  | _ => none }
def fnExactLiveBeforeRow : OpenClaim := { program := "ytjnbgnnlpeoaoaa", sum := "11bc022bcc71f7de541c94e636fc81b7672d16998645cf14869c2b654e5663b5", func := "loop.example/g01127/laws.FnExactLiveBefore", spec := "fnExactLiveBefore", unfollowed := true, recurses := true, apart := false }
def FnExactLiveBeforeSaid : Prop := fnExactLiveBeforeRow.holds Try.pinned (OpenSpec.ofChange fnExactLiveBeforeSpec)

/-- ITS FALSE NEIGHBOUR: 'it returns false'. Refute it at one input. -/
def fnExactLiveBeforeWrong : ChangeSpec := { name := "fnExactLiveBefore", fn := fun _ => fun
  | [d1, d2] => { results := [.lit (.bool false)], args := [d1, d2] }
  | _ => none }
def FnExactLiveBeforeWrongFalsely : Prop := fnExactLiveBeforeRow.holds Try.pinned (OpenSpec.ofChange fnExactLiveBeforeWrong)

/-- 'laws.FnExactLiveSets': WHATEVER THE INPUT: true; the input reads as it did. -/
def fnExactLiveSetsSpec : ChangeSpec := { name := "fnExactLiveSets", fn := fun _ => fun
  | [d1, d2] => { results := [.lit (.bool true)], args := [d1, d2] }
  | _ => none }
def fnExactLiveSetsRow : OpenClaim := { program := "ytjnbgnnlpeoaoaa", sum := "11bc022bcc71f7de541c94e636fc81b7672d16998645cf14869c2b654e5663b5", func := "loop.example/g01127/laws.FnExactLiveSets", spec := "fnExactLiveSets", unfollowed := true, recurses := true, apart := false }
def FnExactLiveSetsSaid : Prop := fnExactLiveSetsRow.holds Try.pinned (OpenSpec.ofChange fnExactLiveSetsSpec)

/-- ITS FALSE NEIGHBOUR: 'it returns false'. Refute it at one input. -/
def fnExactLiveSetsWrong : ChangeSpec := { name := "fnExactLiveSets", fn := fun _ => fun
  | [d1, d2] => { results := [.lit (.bool false)], args := [d1, d2] }
  | _ => none }
def FnExactLiveSetsWrongFalsely : Prop := fnExactLiveSetsRow.holds Try.pinned (OpenSpec.ofChange fnExactLiveSetsWrong)

/-- 'laws.FnExactDropDead': WHATEVER THE INPUT: true; the input reads as it did. -/
def fnExactDropDeadSpec : ChangeSpec := { name := "fnExactDropDead", fn := fun _ => fun
  | [d1, d2] => { results := [.lit (.bool true)], args := [d1, d2] }
  | _ => none }
def fnExactDropDeadRow : OpenClaim := { program := "ytjnbgnnlpeoaoaa", sum := "11bc022bcc71f7de541c94e636fc81b7672d16998645cf14869c2b654e5663b5", func := "loop.example/g01127/laws.FnExactDropDead", spec := "fnExactDropDead", unfollowed := true, recurses := true, apart := false }
def FnExactDropDeadSaid : Prop := fnExactDropDeadRow.holds Try.pinned (OpenSpec.ofChange fnExactDropDeadSpec)

/-- ITS FALSE NEIGHBOUR: 'it returns false'. Refute it at one input. -/
def fnExactDropDeadWrong : ChangeSpec := { name := "fnExactDropDead", fn := fun _ => fun
  | [d1, d2] => { results := [.lit (.bool false)], args := [d1, d2] }
  | _ => none }
def FnExactDropDeadWrongFalsely : Prop := fnExactDropDeadRow.holds Try.pinned (OpenSpec.ofChange fnExactDropDeadWrong)

/-- 'laws.FnExactRenameCode': WHATEVER THE INPUT: true; the input reads as it did. -/
def fnExactRenameCodeSpec : ChangeSpec := { name := "fnExactRenameCode", fn := fun _ => fun
  | [d1, d2] => { results := [.lit (.bool true)], args := [d1, d2] }
  | _ => none }
def fnExactRenameCodeRow : OpenClaim := { program := "ytjnbgnnlpeoaoaa", sum := "11bc022bcc71f7de541c94e636fc81b7672d16998645cf14869c2b654e5663b5", func := "loop.example/g01127/laws.FnExactRenameCode", spec := "fnExactRenameCode", recurses := true, apart := false }
def FnExactRenameCodeSaid : Prop := fnExactRenameCodeRow.holds Try.pinned (OpenSpec.ofChange fnExactRenameCodeSpec)

/-- ITS FALSE NEIGHBOUR: 'it returns false'. Refute it at one input. -/
def fnExactRenameCodeWrong : ChangeSpec := { name := "fnExactRenameCode", fn := fun _ => fun
  | [d1, d2] => { results := [.lit (.bool false)], args := [d1, d2] }
  | _ => none }
def FnExactRenameCodeWrongFalsely : Prop := fnExactRenameCodeRow.holds Try.pinned (OpenSpec.ofChange fnExactRenameCodeWrong)

/-- 'laws.FnExactAreIndependent': WHATEVER THE INPUT: true; the input reads as it did. -/
def fnExactAreIndependentSpec : ChangeSpec := { name := "fnExactAreIndependent", fn := fun _ => fun
  | [d1, d2] => { results := [.lit (.bool true)], args := [d1, d2] }
  | _ => none }
def fnExactAreIndependentRow : OpenClaim := { program := "ytjnbgnnlpeoaoaa", sum := "11bc022bcc71f7de541c94e636fc81b7672d16998645cf14869c2b654e5663b5", func := "loop.example/g01127/laws.FnExactAreIndependent", spec := "fnExactAreIndependent", recurses := true, apart := false }
def FnExactAreIndependentSaid : Prop := fnExactAreIndependentRow.holds Try.pinned (OpenSpec.ofChange fnExactAreIndependentSpec)

/-- ITS FALSE NEIGHBOUR: 'it returns false'. Refute it at one input. -/
def fnExactAreIndependentWrong : ChangeSpec := { name := "fnExactAreIndependent", fn := fun _ => fun
  | [d1, d2] => { results := [.lit (.bool false)], args := [d1, d2] }
  | _ => none }
def FnExactAreIndependentWrongFalsely : Prop := fnExactAreIndependentRow.holds Try.pinned (OpenSpec.ofChange fnExactAreIndependentWrong)

/-- 'laws.FnExactSwapNeighbours': WHATEVER THE INPUT: true; the input reads as it did. -/
def fnExactSwapNeighboursSpec : ChangeSpec := { name := "fnExactSwapNeighbours", fn := fun _ => fun
  | [d1, d2] => { results := [.lit (.bool true)], args := [d1, d2] }
  | _ => none }
def fnExactSwapNeighboursRow : OpenClaim := { program := "ytjnbgnnlpeoaoaa", sum := "11bc022bcc71f7de541c94e636fc81b7672d16998645cf14869c2b654e5663b5", func := "loop.example/g01127/laws.FnExactSwapNeighbours", spec := "fnExactSwapNeighbours", recurses := true, apart := false }
def FnExactSwapNeighboursSaid : Prop := fnExactSwapNeighboursRow.holds Try.pinned (OpenSpec.ofChange fnExactSwapNeighboursSpec)

/-- ITS FALSE NEIGHBOUR: 'it returns false'. Refute it at one input. -/
def fnExactSwapNeighboursWrong : ChangeSpec := { name := "fnExactSwapNeighbours", fn := fun _ => fun
  | [d1, d2] => { results := [.lit (.bool false)], args := [d1, d2] }
  | _ => none }
def FnExactSwapNeighboursWrongFalsely : Prop := fnExactSwapNeighboursRow.holds Try.pinned (OpenSpec.ofChange fnExactSwapNeighboursWrong)

/-- 'laws.FnExactJoinCode': WHATEVER THE INPUT: true; the input reads as it did. -/
def fnExactJoinCodeSpec : ChangeSpec := { name := "fnExactJoinCode", fn := fun _ => fun
  | [d1, d2] => { results := [.lit (.bool true)], args := [d1, d2] }
  | _ => none }
def fnExactJoinCodeRow : OpenClaim := { program := "ytjnbgnnlpeoaoaa", sum := "11bc022bcc71f7de541c94e636fc81b7672d16998645cf14869c2b654e5663b5", func := "loop.example/g01127/laws.FnExactJoinCode", spec := "fnExactJoinCode", apart := false }
def FnExactJoinCodeSaid : Prop := fnExactJoinCodeRow.holds Try.pinned (OpenSpec.ofChange fnExactJoinCodeSpec)

/-- ITS FALSE NEIGHBOUR: 'it returns false'. Refute it at one input. -/
def fnExactJoinCodeWrong : ChangeSpec := { name := "fnExactJoinCode", fn := fun _ => fun
  | [d1, d2] => { results := [.lit (.bool false)], args := [d1, d2] }
  | _ => none }
def FnExactJoinCodeWrongFalsely : Prop := fnExactJoinCodeRow.holds Try.pinned (OpenSpec.ofChange fnExactJoinCodeWrong)

/-- 'laws.FnExactMostAlive': WHATEVER THE INPUT: true; the input reads as it did. -/
def fnExactMostAliveSpec : ChangeSpec := { name := "fnExactMostAlive", fn := fun _ => fun
  | [d1, d2] => { results := [.lit (.bool true)], args := [d1, d2] }
  | _ => none }
def fnExactMostAliveRow : OpenClaim := { program := "ytjnbgnnlpeoaoaa", sum := "11bc022bcc71f7de541c94e636fc81b7672d16998645cf14869c2b654e5663b5", func := "loop.example/g01127/laws.FnExactMostAlive", spec := "fnExactMostAlive", unfollowed := true, recurses := true, apart := false }
def FnExactMostAliveSaid : Prop := fnExactMostAliveRow.holds Try.pinned (OpenSpec.ofChange fnExactMostAliveSpec)

/-- ITS FALSE NEIGHBOUR: 'it returns false'. Refute it at one input. -/
def fnExactMostAliveWrong : ChangeSpec := { name := "fnExactMostAlive", fn := fun _ => fun
  | [d1, d2] => { results := [.lit (.bool false)], args := [d1, d2] }
  | _ => none }
def FnExactMostAliveWrongFalsely : Prop := fnExactMostAliveRow.holds Try.pinned (OpenSpec.ofChange fnExactMostAliveWrong)

/- THE SECOND FORM. 'bulk': how many values and letters a reading holds, each counted each time it is reached (what is shared counts as often as it is met; a slice's spare places count too). A statement '..UptoSaid' is the law's where the arguments, and the package variables that the reading takes, are together of bulk at most 1048576: NARROWER than '..Said'. Prove '..Said' where nothing that the law and all that it calls make is longer than what came in: it says more and counts as full. Else prove '..UptoSaid'. A law counts once. -/
mutual
def uptoBulk {H : Type} : DataW H → Nat
  | .lit (.string bytes) => bytes.length + 1
  | .lit _ => 1
  | .nil => 1
  | .ptr d => uptoBulk d + 1
  | .slice elems spare => uptoBulkAll elems + uptoBulkAll spare + 1
  | .agg parts => uptoBulkAll parts + 1
  | .iface _ d => uptoBulk d + 1
  | .map entries => uptoBulkEntries entries + 1
  | .held _ => 1
def uptoBulkAll {H : Type} : List (DataW H) → Nat
  | [] => 0
  | d :: r => uptoBulk d + uptoBulkAll r
def uptoBulkEntries {H : Type} : List (Lit × DataW H) → Nat
  | [] => 0
  | x :: r => uptoBulkEntry x + uptoBulkEntries r
def uptoBulkEntry {H : Type} : Lit × DataW H → Nat
  | (.string bytes, d) => bytes.length + uptoBulk d + 1
  | (_, d) => uptoBulk d + 1
 end
def uptoSmall : (H : Type) → List (DataW H) → Bool := fun _ ds => decide (uptoBulkAll ds ≤ 1048576)
def OpenSpec.upto (s : _root_.Go.ChangeSpec) : _root_.Go.OpenSpec := { _root_.Go.OpenSpec.ofChange s with cond := some uptoSmall }

/-- 'laws.FnExactIsInstr', WHERE WHAT IT READS IS OF BULK AT MOST 1048576: true; the input reads as it did. -/
def fnExactIsInstrUptoRow : OpenClaim := { program := "ytjnbgnnlpeoaoaa", sum := "11bc022bcc71f7de541c94e636fc81b7672d16998645cf14869c2b654e5663b5", func := "loop.example/g01127/laws.FnExactIsInstr", spec := "fnExactIsInstr", apart := false, narrowed := true }
def FnExactIsInstrUptoSaid : Prop := fnExactIsInstrUptoRow.holds Try.pinned (OpenSpec.upto fnExactIsInstrSpec)

/-- 'laws.FnExactIsCode', WHERE WHAT IT READS IS OF BULK AT MOST 1048576: true; the input reads as it did. -/
def fnExactIsCodeUptoRow : OpenClaim := { program := "ytjnbgnnlpeoaoaa", sum := "11bc022bcc71f7de541c94e636fc81b7672d16998645cf14869c2b654e5663b5", func := "loop.example/g01127/laws.FnExactIsCode", spec := "fnExactIsCode", apart := false, narrowed := true }
def FnExactIsCodeUptoSaid : Prop := fnExactIsCodeUptoRow.holds Try.pinned (OpenSpec.upto fnExactIsCodeSpec)

/-- 'laws.FnExactCostOfInstr', WHERE WHAT IT READS IS OF BULK AT MOST 1048576: true; the input reads as it did. -/
def fnExactCostOfInstrUptoRow : OpenClaim := { program := "ytjnbgnnlpeoaoaa", sum := "11bc022bcc71f7de541c94e636fc81b7672d16998645cf14869c2b654e5663b5", func := "loop.example/g01127/laws.FnExactCostOfInstr", spec := "fnExactCostOfInstr", apart := false, narrowed := true }
def FnExactCostOfInstrUptoSaid : Prop := fnExactCostOfInstrUptoRow.holds Try.pinned (OpenSpec.upto fnExactCostOfInstrSpec)

/-- 'laws.FnExactCodeCost', WHERE WHAT IT READS IS OF BULK AT MOST 1048576: true; the input reads as it did. -/
def fnExactCodeCostUptoRow : OpenClaim := { program := "ytjnbgnnlpeoaoaa", sum := "11bc022bcc71f7de541c94e636fc81b7672d16998645cf14869c2b654e5663b5", func := "loop.example/g01127/laws.FnExactCodeCost", spec := "fnExactCodeCost", apart := false, narrowed := true }
def FnExactCodeCostUptoSaid : Prop := fnExactCodeCostUptoRow.holds Try.pinned (OpenSpec.upto fnExactCodeCostSpec)

/-- 'laws.FnExactStepInstr', WHERE WHAT IT READS IS OF BULK AT MOST 1048576: true; the input reads as it did. -/
def fnExactStepInstrUptoRow : OpenClaim := { program := "ytjnbgnnlpeoaoaa", sum := "11bc022bcc71f7de541c94e636fc81b7672d16998645cf14869c2b654e5663b5", func := "loop.example/g01127/laws.FnExactStepInstr", spec := "fnExactStepInstr", unfollowed := true, recurses := true, apart := false, narrowed := true }
def FnExactStepInstrUptoSaid : Prop := fnExactStepInstrUptoRow.holds Try.pinned (OpenSpec.upto fnExactStepInstrSpec)

/-- 'laws.FnExactRunCode', WHERE WHAT IT READS IS OF BULK AT MOST 1048576: true; the input reads as it did. -/
def fnExactRunCodeUptoRow : OpenClaim := { program := "ytjnbgnnlpeoaoaa", sum := "11bc022bcc71f7de541c94e636fc81b7672d16998645cf14869c2b654e5663b5", func := "loop.example/g01127/laws.FnExactRunCode", spec := "fnExactRunCode", unfollowed := true, recurses := true, apart := false, narrowed := true }
def FnExactRunCodeUptoSaid : Prop := fnExactRunCodeUptoRow.holds Try.pinned (OpenSpec.upto fnExactRunCodeSpec)

/-- 'laws.FnExactTraceOf', WHERE WHAT IT READS IS OF BULK AT MOST 1048576: true; the input reads as it did. -/
def fnExactTraceOfUptoRow : OpenClaim := { program := "ytjnbgnnlpeoaoaa", sum := "11bc022bcc71f7de541c94e636fc81b7672d16998645cf14869c2b654e5663b5", func := "loop.example/g01127/laws.FnExactTraceOf", spec := "fnExactTraceOf", unfollowed := true, recurses := true, apart := false, narrowed := true }
def FnExactTraceOfUptoSaid : Prop := fnExactTraceOfUptoRow.holds Try.pinned (OpenSpec.upto fnExactTraceOfSpec)

/-- 'laws.FnExactResultOf', WHERE WHAT IT READS IS OF BULK AT MOST 1048576: true; the input reads as it did. -/
def fnExactResultOfUptoRow : OpenClaim := { program := "ytjnbgnnlpeoaoaa", sum := "11bc022bcc71f7de541c94e636fc81b7672d16998645cf14869c2b654e5663b5", func := "loop.example/g01127/laws.FnExactResultOf", spec := "fnExactResultOf", unfollowed := true, recurses := true, apart := false, narrowed := true }
def FnExactResultOfUptoSaid : Prop := fnExactResultOfUptoRow.holds Try.pinned (OpenSpec.upto fnExactResultOfSpec)

/-- 'laws.FnExactReadsOf', WHERE WHAT IT READS IS OF BULK AT MOST 1048576: true; the input reads as it did. -/
def fnExactReadsOfUptoRow : OpenClaim := { program := "ytjnbgnnlpeoaoaa", sum := "11bc022bcc71f7de541c94e636fc81b7672d16998645cf14869c2b654e5663b5", func := "loop.example/g01127/laws.FnExactReadsOf", spec := "fnExactReadsOf", recurses := true, apart := false, narrowed := true }
def FnExactReadsOfUptoSaid : Prop := fnExactReadsOfUptoRow.holds Try.pinned (OpenSpec.upto fnExactReadsOfSpec)

/-- 'laws.FnExactLiveBefore', WHERE WHAT IT READS IS OF BULK AT MOST 1048576: true; the input reads as it did. -/
def fnExactLiveBeforeUptoRow : OpenClaim := { program := "ytjnbgnnlpeoaoaa", sum := "11bc022bcc71f7de541c94e636fc81b7672d16998645cf14869c2b654e5663b5", func := "loop.example/g01127/laws.FnExactLiveBefore", spec := "fnExactLiveBefore", unfollowed := true, recurses := true, apart := false, narrowed := true }
def FnExactLiveBeforeUptoSaid : Prop := fnExactLiveBeforeUptoRow.holds Try.pinned (OpenSpec.upto fnExactLiveBeforeSpec)

/-- 'laws.FnExactLiveSets', WHERE WHAT IT READS IS OF BULK AT MOST 1048576: true; the input reads as it did. -/
def fnExactLiveSetsUptoRow : OpenClaim := { program := "ytjnbgnnlpeoaoaa", sum := "11bc022bcc71f7de541c94e636fc81b7672d16998645cf14869c2b654e5663b5", func := "loop.example/g01127/laws.FnExactLiveSets", spec := "fnExactLiveSets", unfollowed := true, recurses := true, apart := false, narrowed := true }
def FnExactLiveSetsUptoSaid : Prop := fnExactLiveSetsUptoRow.holds Try.pinned (OpenSpec.upto fnExactLiveSetsSpec)

/-- 'laws.FnExactDropDead', WHERE WHAT IT READS IS OF BULK AT MOST 1048576: true; the input reads as it did. -/
def fnExactDropDeadUptoRow : OpenClaim := { program := "ytjnbgnnlpeoaoaa", sum := "11bc022bcc71f7de541c94e636fc81b7672d16998645cf14869c2b654e5663b5", func := "loop.example/g01127/laws.FnExactDropDead", spec := "fnExactDropDead", unfollowed := true, recurses := true, apart := false, narrowed := true }
def FnExactDropDeadUptoSaid : Prop := fnExactDropDeadUptoRow.holds Try.pinned (OpenSpec.upto fnExactDropDeadSpec)

/-- 'laws.FnExactRenameCode', WHERE WHAT IT READS IS OF BULK AT MOST 1048576: true; the input reads as it did. -/
def fnExactRenameCodeUptoRow : OpenClaim := { program := "ytjnbgnnlpeoaoaa", sum := "11bc022bcc71f7de541c94e636fc81b7672d16998645cf14869c2b654e5663b5", func := "loop.example/g01127/laws.FnExactRenameCode", spec := "fnExactRenameCode", recurses := true, apart := false, narrowed := true }
def FnExactRenameCodeUptoSaid : Prop := fnExactRenameCodeUptoRow.holds Try.pinned (OpenSpec.upto fnExactRenameCodeSpec)

/-- 'laws.FnExactAreIndependent', WHERE WHAT IT READS IS OF BULK AT MOST 1048576: true; the input reads as it did. -/
def fnExactAreIndependentUptoRow : OpenClaim := { program := "ytjnbgnnlpeoaoaa", sum := "11bc022bcc71f7de541c94e636fc81b7672d16998645cf14869c2b654e5663b5", func := "loop.example/g01127/laws.FnExactAreIndependent", spec := "fnExactAreIndependent", recurses := true, apart := false, narrowed := true }
def FnExactAreIndependentUptoSaid : Prop := fnExactAreIndependentUptoRow.holds Try.pinned (OpenSpec.upto fnExactAreIndependentSpec)

/-- 'laws.FnExactSwapNeighbours', WHERE WHAT IT READS IS OF BULK AT MOST 1048576: true; the input reads as it did. -/
def fnExactSwapNeighboursUptoRow : OpenClaim := { program := "ytjnbgnnlpeoaoaa", sum := "11bc022bcc71f7de541c94e636fc81b7672d16998645cf14869c2b654e5663b5", func := "loop.example/g01127/laws.FnExactSwapNeighbours", spec := "fnExactSwapNeighbours", recurses := true, apart := false, narrowed := true }
def FnExactSwapNeighboursUptoSaid : Prop := fnExactSwapNeighboursUptoRow.holds Try.pinned (OpenSpec.upto fnExactSwapNeighboursSpec)

/-- 'laws.FnExactJoinCode', WHERE WHAT IT READS IS OF BULK AT MOST 1048576: true; the input reads as it did. -/
def fnExactJoinCodeUptoRow : OpenClaim := { program := "ytjnbgnnlpeoaoaa", sum := "11bc022bcc71f7de541c94e636fc81b7672d16998645cf14869c2b654e5663b5", func := "loop.example/g01127/laws.FnExactJoinCode", spec := "fnExactJoinCode", apart := false, narrowed := true }
def FnExactJoinCodeUptoSaid : Prop := fnExactJoinCodeUptoRow.holds Try.pinned (OpenSpec.upto fnExactJoinCodeSpec)

/-- 'laws.FnExactMostAlive', WHERE WHAT IT READS IS OF BULK AT MOST 1048576: true; the input reads as it did. -/
def fnExactMostAliveUptoRow : OpenClaim := { program := "ytjnbgnnlpeoaoaa", sum := "11bc022bcc71f7de541c94e636fc81b7672d16998645cf14869c2b654e5663b5", func := "loop.example/g01127/laws.FnExactMostAlive", spec := "fnExactMostAlive", unfollowed := true, recurses := true, apart := false, narrowed := true }
def FnExactMostAliveUptoSaid : Prop := fnExactMostAliveUptoRow.holds Try.pinned (OpenSpec.upto fnExactMostAliveSpec)

end Rows
end Go.Proofs.Ytjnbgnnlpeoaoaa
