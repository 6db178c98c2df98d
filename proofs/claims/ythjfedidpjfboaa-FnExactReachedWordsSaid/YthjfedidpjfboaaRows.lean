/-
  No cell of these rows narrows 'for every input' (looked for: loops, veiled, ifaces, maps, wideKeys, modest, calm, conditions, laid).
  DERIVED. THE GIVEN ROWS OF THIS SEAT. 15 by the template 'for every input the law returns true; each argument reads behind the call as it read before'; 0 by the template 'total and deterministic' (their statements: YthjfedidpjfboaaTotals.lean).
  GIVEN WITH THE SEED: the statements are not yours to turn. If you find one false, say at which input.
  Laid BY PROGRAM, IN A SANDBOX (cutbox-rows.mjs): the forced cells as the released guide's own fill.sh prints them over the translation ccfb5d4bc4ebe05c… (all of the seat's roots in one cut). By AI agents, Wed Nov 11 2026. No macro, syntax, notation, axiom, sorry.
-/
import Derived.Test.YthjfedidpjfboaaChecked
import GoSem.Claim
import GoSem.ClaimJoined
import GoSem.ClaimMapViews
import Derived.JoinedTies
import Derived.KernelRfl
namespace Go.Proofs.Ythjfedidpjfboaa
/- THE CELL 'sum', in the pinned program and in every row, IS THE sha256 OF THE DUMP (.gsa) THAT YthjfedidpjfboaaProg.lean LOADS. Nothing in Lean hashes anything: it is a label: what it is worth is what the hold of that sum in a sandbox is worth. -/
noncomputable def Try.pinned : Pinned := { name := "ythjfedidpjfboaa", sum := "ccfb5d4bc4ebe05cc432e45a8ca61a4f6abf149dc855765dcf987c7ae7ed6568", checked := Try.checked }
namespace Rows
def none {H : Type} : Left H := { results := [], args := [] }

/-- 'laws.FnExactShareExpr': WHATEVER THE INPUT: true; the input reads as it did. -/
def fnExactShareExprSpec : ChangeSpec := { name := "fnExactShareExpr", fn := fun _ => fun
  | [d] => { results := [.lit (.bool true)], args := [d] }
  | _ => none }
def fnExactShareExprRow : OpenClaim := { program := "ythjfedidpjfboaa", sum := "ccfb5d4bc4ebe05cc432e45a8ca61a4f6abf149dc855765dcf987c7ae7ed6568", func := "loop.example/g01127/laws.FnExactShareExpr", spec := "fnExactShareExpr", unfollowed := true, recurses := true, apart := false }
def FnExactShareExprSaid : Prop := fnExactShareExprRow.holds Try.pinned (OpenSpec.ofChange fnExactShareExprSpec)

/-- ITS FALSE NEIGHBOUR: 'it returns false'. Refute it at one input. -/
def fnExactShareExprWrong : ChangeSpec := { name := "fnExactShareExpr", fn := fun _ => fun
  | [d] => { results := [.lit (.bool false)], args := [d] }
  | _ => none }
def FnExactShareExprWrongFalsely : Prop := fnExactShareExprRow.holds Try.pinned (OpenSpec.ofChange fnExactShareExprWrong)

/-- 'laws.FnExactFollowPath': WHATEVER THE INPUT: true; the input reads as it did. -/
def fnExactFollowPathSpec : ChangeSpec := { name := "fnExactFollowPath", fn := fun _ => fun
  | [d1, d2] => { results := [.lit (.bool true)], args := [d1, d2] }
  | _ => none }
def fnExactFollowPathRow : OpenClaim := { program := "ythjfedidpjfboaa", sum := "ccfb5d4bc4ebe05cc432e45a8ca61a4f6abf149dc855765dcf987c7ae7ed6568", func := "loop.example/g01127/laws.FnExactFollowPath", spec := "fnExactFollowPath", recurses := true, apart := false }
def FnExactFollowPathSaid : Prop := fnExactFollowPathRow.holds Try.pinned (OpenSpec.ofChange fnExactFollowPathSpec)

/-- ITS FALSE NEIGHBOUR: 'it returns false'. Refute it at one input. -/
def fnExactFollowPathWrong : ChangeSpec := { name := "fnExactFollowPath", fn := fun _ => fun
  | [d1, d2] => { results := [.lit (.bool false)], args := [d1, d2] }
  | _ => none }
def FnExactFollowPathWrongFalsely : Prop := fnExactFollowPathRow.holds Try.pinned (OpenSpec.ofChange fnExactFollowPathWrong)

/-- 'laws.FnExactSwapPath': WHATEVER THE INPUT: true; the input reads as it did. -/
def fnExactSwapPathSpec : ChangeSpec := { name := "fnExactSwapPath", fn := fun _ => fun
  | [d1, d2] => { results := [.lit (.bool true)], args := [d1, d2] }
  | _ => none }
def fnExactSwapPathRow : OpenClaim := { program := "ythjfedidpjfboaa", sum := "ccfb5d4bc4ebe05cc432e45a8ca61a4f6abf149dc855765dcf987c7ae7ed6568", func := "loop.example/g01127/laws.FnExactSwapPath", spec := "fnExactSwapPath", recurses := true, apart := false }
def FnExactSwapPathSaid : Prop := fnExactSwapPathRow.holds Try.pinned (OpenSpec.ofChange fnExactSwapPathSpec)

/-- ITS FALSE NEIGHBOUR: 'it returns false'. Refute it at one input. -/
def fnExactSwapPathWrong : ChangeSpec := { name := "fnExactSwapPath", fn := fun _ => fun
  | [d1, d2] => { results := [.lit (.bool false)], args := [d1, d2] }
  | _ => none }
def FnExactSwapPathWrongFalsely : Prop := fnExactSwapPathRow.holds Try.pinned (OpenSpec.ofChange fnExactSwapPathWrong)

/-- 'laws.FnExactDropDead': WHATEVER THE INPUT: true; the input reads as it did. -/
def fnExactDropDeadSpec : ChangeSpec := { name := "fnExactDropDead", fn := fun _ => fun
  | [d1, d2] => { results := [.lit (.bool true)], args := [d1, d2] }
  | _ => none }
def fnExactDropDeadRow : OpenClaim := { program := "ythjfedidpjfboaa", sum := "ccfb5d4bc4ebe05cc432e45a8ca61a4f6abf149dc855765dcf987c7ae7ed6568", func := "loop.example/g01127/laws.FnExactDropDead", spec := "fnExactDropDead", unfollowed := true, recurses := true, apart := false }
def FnExactDropDeadSaid : Prop := fnExactDropDeadRow.holds Try.pinned (OpenSpec.ofChange fnExactDropDeadSpec)

/-- ITS FALSE NEIGHBOUR: 'it returns false'. Refute it at one input. -/
def fnExactDropDeadWrong : ChangeSpec := { name := "fnExactDropDead", fn := fun _ => fun
  | [d1, d2] => { results := [.lit (.bool false)], args := [d1, d2] }
  | _ => none }
def FnExactDropDeadWrongFalsely : Prop := fnExactDropDeadRow.holds Try.pinned (OpenSpec.ofChange fnExactDropDeadWrong)

/-- 'laws.FnExactLiveBefore': WHATEVER THE INPUT: true; the input reads as it did. -/
def fnExactLiveBeforeSpec : ChangeSpec := { name := "fnExactLiveBefore", fn := fun _ => fun
  | [d1, d2] => { results := [.lit (.bool true)], args := [d1, d2] }
  | _ => none }
def fnExactLiveBeforeRow : OpenClaim := { program := "ythjfedidpjfboaa", sum := "ccfb5d4bc4ebe05cc432e45a8ca61a4f6abf149dc855765dcf987c7ae7ed6568", func := "loop.example/g01127/laws.FnExactLiveBefore", spec := "fnExactLiveBefore", unfollowed := true, recurses := true, apart := false }
def FnExactLiveBeforeSaid : Prop := fnExactLiveBeforeRow.holds Try.pinned (OpenSpec.ofChange fnExactLiveBeforeSpec)

/-- ITS FALSE NEIGHBOUR: 'it returns false'. Refute it at one input. -/
def fnExactLiveBeforeWrong : ChangeSpec := { name := "fnExactLiveBefore", fn := fun _ => fun
  | [d1, d2] => { results := [.lit (.bool false)], args := [d1, d2] }
  | _ => none }
def FnExactLiveBeforeWrongFalsely : Prop := fnExactLiveBeforeRow.holds Try.pinned (OpenSpec.ofChange fnExactLiveBeforeWrong)

/-- 'laws.FnExactLiveSets': WHATEVER THE INPUT: true; the input reads as it did. -/
def fnExactLiveSetsSpec : ChangeSpec := { name := "fnExactLiveSets", fn := fun _ => fun
  | [d1, d2] => { results := [.lit (.bool true)], args := [d1, d2] }
  | _ => none }
def fnExactLiveSetsRow : OpenClaim := { program := "ythjfedidpjfboaa", sum := "ccfb5d4bc4ebe05cc432e45a8ca61a4f6abf149dc855765dcf987c7ae7ed6568", func := "loop.example/g01127/laws.FnExactLiveSets", spec := "fnExactLiveSets", unfollowed := true, recurses := true, apart := false }
def FnExactLiveSetsSaid : Prop := fnExactLiveSetsRow.holds Try.pinned (OpenSpec.ofChange fnExactLiveSetsSpec)

/-- ITS FALSE NEIGHBOUR: 'it returns false'. Refute it at one input. -/
def fnExactLiveSetsWrong : ChangeSpec := { name := "fnExactLiveSets", fn := fun _ => fun
  | [d1, d2] => { results := [.lit (.bool false)], args := [d1, d2] }
  | _ => none }
def FnExactLiveSetsWrongFalsely : Prop := fnExactLiveSetsRow.holds Try.pinned (OpenSpec.ofChange fnExactLiveSetsWrong)

/-- 'laws.FnExactMostAlive': WHATEVER THE INPUT: true; the input reads as it did. -/
def fnExactMostAliveSpec : ChangeSpec := { name := "fnExactMostAlive", fn := fun _ => fun
  | [d1, d2] => { results := [.lit (.bool true)], args := [d1, d2] }
  | _ => none }
def fnExactMostAliveRow : OpenClaim := { program := "ythjfedidpjfboaa", sum := "ccfb5d4bc4ebe05cc432e45a8ca61a4f6abf149dc855765dcf987c7ae7ed6568", func := "loop.example/g01127/laws.FnExactMostAlive", spec := "fnExactMostAlive", unfollowed := true, recurses := true, apart := false }
def FnExactMostAliveSaid : Prop := fnExactMostAliveRow.holds Try.pinned (OpenSpec.ofChange fnExactMostAliveSpec)

/-- ITS FALSE NEIGHBOUR: 'it returns false'. Refute it at one input. -/
def fnExactMostAliveWrong : ChangeSpec := { name := "fnExactMostAlive", fn := fun _ => fun
  | [d1, d2] => { results := [.lit (.bool false)], args := [d1, d2] }
  | _ => none }
def FnExactMostAliveWrongFalsely : Prop := fnExactMostAliveRow.holds Try.pinned (OpenSpec.ofChange fnExactMostAliveWrong)

/-- 'laws.FnExactTraceOf': WHATEVER THE INPUT: true; the input reads as it did. -/
def fnExactTraceOfSpec : ChangeSpec := { name := "fnExactTraceOf", fn := fun _ => fun
  | [d1, d2] => { results := [.lit (.bool true)], args := [d1, d2] }
  | _ => none }
def fnExactTraceOfRow : OpenClaim := { program := "ythjfedidpjfboaa", sum := "ccfb5d4bc4ebe05cc432e45a8ca61a4f6abf149dc855765dcf987c7ae7ed6568", func := "loop.example/g01127/laws.FnExactTraceOf", spec := "fnExactTraceOf", unfollowed := true, recurses := true, apart := false }
def FnExactTraceOfSaid : Prop := fnExactTraceOfRow.holds Try.pinned (OpenSpec.ofChange fnExactTraceOfSpec)

/-- ITS FALSE NEIGHBOUR: 'it returns false'. Refute it at one input. -/
def fnExactTraceOfWrong : ChangeSpec := { name := "fnExactTraceOf", fn := fun _ => fun
  | [d1, d2] => { results := [.lit (.bool false)], args := [d1, d2] }
  | _ => none }
def FnExactTraceOfWrongFalsely : Prop := fnExactTraceOfRow.holds Try.pinned (OpenSpec.ofChange fnExactTraceOfWrong)

/-- 'laws.FnExactPassesTests': WHATEVER THE INPUT: true; the input reads as it did. -/
def fnExactPassesTestsSpec : ChangeSpec := { name := "fnExactPassesTests", fn := fun _ => fun
  | [d1, d2, d3, d4] => { results := [.lit (.bool true)], args := [d1, d2, d3, d4] }
  | _ => none }
def fnExactPassesTestsRow : OpenClaim := { program := "ythjfedidpjfboaa", sum := "ccfb5d4bc4ebe05cc432e45a8ca61a4f6abf149dc855765dcf987c7ae7ed6568", func := "loop.example/g01127/laws.FnExactPassesTests", spec := "fnExactPassesTests", unfollowed := true, recurses := true, apart := false }
def FnExactPassesTestsSaid : Prop := fnExactPassesTestsRow.holds Try.pinned (OpenSpec.ofChange fnExactPassesTestsSpec)

/-- ITS FALSE NEIGHBOUR: 'it returns false'. Refute it at one input. -/
def fnExactPassesTestsWrong : ChangeSpec := { name := "fnExactPassesTests", fn := fun _ => fun
  | [d1, d2, d3, d4] => { results := [.lit (.bool false)], args := [d1, d2, d3, d4] }
  | _ => none }
def FnExactPassesTestsWrongFalsely : Prop := fnExactPassesTestsRow.holds Try.pinned (OpenSpec.ofChange fnExactPassesTestsWrong)

/-- 'laws.FnExactAreSameBlocks': WHATEVER THE INPUT: true; the input reads as it did. -/
def fnExactAreSameBlocksSpec : ChangeSpec := { name := "fnExactAreSameBlocks", fn := fun _ => fun
  | [d1, d2, d3] => { results := [.lit (.bool true)], args := [d1, d2, d3] }
  | _ => none }
def fnExactAreSameBlocksRow : OpenClaim := { program := "ythjfedidpjfboaa", sum := "ccfb5d4bc4ebe05cc432e45a8ca61a4f6abf149dc855765dcf987c7ae7ed6568", func := "loop.example/g01127/laws.FnExactAreSameBlocks", spec := "fnExactAreSameBlocks", unfollowed := true, recurses := true, apart := false }
def FnExactAreSameBlocksSaid : Prop := fnExactAreSameBlocksRow.holds Try.pinned (OpenSpec.ofChange fnExactAreSameBlocksSpec)

/-- ITS FALSE NEIGHBOUR: 'it returns false'. Refute it at one input. -/
def fnExactAreSameBlocksWrong : ChangeSpec := { name := "fnExactAreSameBlocks", fn := fun _ => fun
  | [d1, d2, d3] => { results := [.lit (.bool false)], args := [d1, d2, d3] }
  | _ => none }
def FnExactAreSameBlocksWrongFalsely : Prop := fnExactAreSameBlocksRow.holds Try.pinned (OpenSpec.ofChange fnExactAreSameBlocksWrong)

/-- 'laws.FnExactIsUntouched': WHATEVER THE INPUT: true; the input reads as it did. -/
def fnExactIsUntouchedSpec : ChangeSpec := { name := "fnExactIsUntouched", fn := fun _ => fun
  | [d1, d2] => { results := [.lit (.bool true)], args := [d1, d2] }
  | _ => none }
def fnExactIsUntouchedRow : OpenClaim := { program := "ythjfedidpjfboaa", sum := "ccfb5d4bc4ebe05cc432e45a8ca61a4f6abf149dc855765dcf987c7ae7ed6568", func := "loop.example/g01127/laws.FnExactIsUntouched", spec := "fnExactIsUntouched", unfollowed := true, recurses := true, apart := false }
def FnExactIsUntouchedSaid : Prop := fnExactIsUntouchedRow.holds Try.pinned (OpenSpec.ofChange fnExactIsUntouchedSpec)

/-- ITS FALSE NEIGHBOUR: 'it returns false'. Refute it at one input. -/
def fnExactIsUntouchedWrong : ChangeSpec := { name := "fnExactIsUntouched", fn := fun _ => fun
  | [d1, d2] => { results := [.lit (.bool false)], args := [d1, d2] }
  | _ => none }
def FnExactIsUntouchedWrongFalsely : Prop := fnExactIsUntouchedRow.holds Try.pinned (OpenSpec.ofChange fnExactIsUntouchedWrong)

/-- 'laws.FnExactSameRegisters': WHATEVER THE INPUT: true; the input reads as it did. -/
def fnExactSameRegistersSpec : ChangeSpec := { name := "fnExactSameRegisters", fn := fun _ => fun
  | [d1, d2] => { results := [.lit (.bool true)], args := [d1, d2] }
  | _ => none }
def fnExactSameRegistersRow : OpenClaim := { program := "ythjfedidpjfboaa", sum := "ccfb5d4bc4ebe05cc432e45a8ca61a4f6abf149dc855765dcf987c7ae7ed6568", func := "loop.example/g01127/laws.FnExactSameRegisters", spec := "fnExactSameRegisters", unfollowed := true, recurses := true, apart := false }
def FnExactSameRegistersSaid : Prop := fnExactSameRegistersRow.holds Try.pinned (OpenSpec.ofChange fnExactSameRegistersSpec)

/-- ITS FALSE NEIGHBOUR: 'it returns false'. Refute it at one input. -/
def fnExactSameRegistersWrong : ChangeSpec := { name := "fnExactSameRegisters", fn := fun _ => fun
  | [d1, d2] => { results := [.lit (.bool false)], args := [d1, d2] }
  | _ => none }
def FnExactSameRegistersWrongFalsely : Prop := fnExactSameRegistersRow.holds Try.pinned (OpenSpec.ofChange fnExactSameRegistersWrong)

/-- 'laws.FnExactBlockWitness': WHATEVER THE INPUT: true; the input reads as it did. -/
def fnExactBlockWitnessSpec : ChangeSpec := { name := "fnExactBlockWitness", fn := fun _ => fun
  | [d1, d2, d3] => { results := [.lit (.bool true)], args := [d1, d2, d3] }
  | _ => none }
def fnExactBlockWitnessRow : OpenClaim := { program := "ythjfedidpjfboaa", sum := "ccfb5d4bc4ebe05cc432e45a8ca61a4f6abf149dc855765dcf987c7ae7ed6568", func := "loop.example/g01127/laws.FnExactBlockWitness", spec := "fnExactBlockWitness", unfollowed := true, recurses := true, apart := false }
def FnExactBlockWitnessSaid : Prop := fnExactBlockWitnessRow.holds Try.pinned (OpenSpec.ofChange fnExactBlockWitnessSpec)

/-- ITS FALSE NEIGHBOUR: 'it returns false'. Refute it at one input. -/
def fnExactBlockWitnessWrong : ChangeSpec := { name := "fnExactBlockWitness", fn := fun _ => fun
  | [d1, d2, d3] => { results := [.lit (.bool false)], args := [d1, d2, d3] }
  | _ => none }
def FnExactBlockWitnessWrongFalsely : Prop := fnExactBlockWitnessRow.holds Try.pinned (OpenSpec.ofChange fnExactBlockWitnessWrong)

/-- 'laws.FnExactReachedWords': WHATEVER THE INPUT: true; the input reads as it did. -/
def fnExactReachedWordsSpec : ChangeSpec := { name := "fnExactReachedWords", fn := fun _ => fun
  | [d1, d2] => { results := [.lit (.bool true)], args := [d1, d2] }
  | _ => none }
def fnExactReachedWordsRow : OpenClaim := { program := "ythjfedidpjfboaa", sum := "ccfb5d4bc4ebe05cc432e45a8ca61a4f6abf149dc855765dcf987c7ae7ed6568", func := "loop.example/g01127/laws.FnExactReachedWords", spec := "fnExactReachedWords", unfollowed := true, recurses := true, apart := false }
def FnExactReachedWordsSaid : Prop := fnExactReachedWordsRow.holds Try.pinned (OpenSpec.ofChange fnExactReachedWordsSpec)

/-- ITS FALSE NEIGHBOUR: 'it returns false'. Refute it at one input. -/
def fnExactReachedWordsWrong : ChangeSpec := { name := "fnExactReachedWords", fn := fun _ => fun
  | [d1, d2] => { results := [.lit (.bool false)], args := [d1, d2] }
  | _ => none }
def FnExactReachedWordsWrongFalsely : Prop := fnExactReachedWordsRow.holds Try.pinned (OpenSpec.ofChange fnExactReachedWordsWrong)

/-- 'laws.FnExactIsChoice': WHATEVER THE INPUT: true; the input reads as it did. -/
def fnExactIsChoiceSpec : ChangeSpec := { name := "fnExactIsChoice", fn := fun _ => fun
  | [d] => { results := [.lit (.bool true)], args := [d] }
  | _ => none }
def fnExactIsChoiceRow : OpenClaim := { program := "ythjfedidpjfboaa", sum := "ccfb5d4bc4ebe05cc432e45a8ca61a4f6abf149dc855765dcf987c7ae7ed6568", func := "loop.example/g01127/laws.FnExactIsChoice", spec := "fnExactIsChoice", unfollowed := true, recurses := true, apart := false }
def FnExactIsChoiceSaid : Prop := fnExactIsChoiceRow.holds Try.pinned (OpenSpec.ofChange fnExactIsChoiceSpec)

/-- ITS FALSE NEIGHBOUR: 'it returns false'. Refute it at one input. -/
def fnExactIsChoiceWrong : ChangeSpec := { name := "fnExactIsChoice", fn := fun _ => fun
  | [d] => { results := [.lit (.bool false)], args := [d] }
  | _ => none }
def FnExactIsChoiceWrongFalsely : Prop := fnExactIsChoiceRow.holds Try.pinned (OpenSpec.ofChange fnExactIsChoiceWrong)

/- THE SECOND FORM. 'bulk': how many values and letters a reading holds, each counted each time it is reached (what is shared counts as often as it is met; a slice's spare places count too). A statement '..UptoSaid' is the law's where the arguments, and the package variables that the reading takes, are together of bulk at most 1048576: NARROWER than '..Said'. Prove '..Said' where nothing that the law and all that it calls make is longer than what came in: it says more and counts as full. Else prove '..UptoSaid'. A law counts once. -/
mutual
def uptoBulk {H : Type} : DataW H → Nat
  | .lit (.string bytes) => bytes.length + 1
  | .lit _ => 1
  | .nil => 1
  | .ptr d => uptoBulk d + 1
  | .slice elems spare => uptoBulkAll elems + uptoBulkAll spare + 1
  | .agg parts => uptoBulkAll parts + 1
  | .iface _ d => uptoBulk d + 1
  | .map entries => uptoBulkEntries entries + 1
  | .held _ => 1
def uptoBulkAll {H : Type} : List (DataW H) → Nat
  | [] => 0
  | d :: r => uptoBulk d + uptoBulkAll r
def uptoBulkEntries {H : Type} : List (Lit × DataW H) → Nat
  | [] => 0
  | x :: r => uptoBulkEntry x + uptoBulkEntries r
def uptoBulkEntry {H : Type} : Lit × DataW H → Nat
  | (.string bytes, d) => bytes.length + uptoBulk d + 1
  | (_, d) => uptoBulk d + 1
 end
def uptoSmall : (H : Type) → List (DataW H) → Bool := fun _ ds => decide (uptoBulkAll ds ≤ 1048576)
def OpenSpec.upto (s : _root_.Go.ChangeSpec) : _root_.Go.OpenSpec := { _root_.Go.OpenSpec.ofChange s with cond := some uptoSmall }

/-- 'laws.FnExactShareExpr', WHERE WHAT IT READS IS OF BULK AT MOST 1048576: true; the input reads as it did. -/
def fnExactShareExprUptoRow : OpenClaim := { program := "ythjfedidpjfboaa", sum := "ccfb5d4bc4ebe05cc432e45a8ca61a4f6abf149dc855765dcf987c7ae7ed6568", func := "loop.example/g01127/laws.FnExactShareExpr", spec := "fnExactShareExpr", unfollowed := true, recurses := true, apart := false, narrowed := true }
def FnExactShareExprUptoSaid : Prop := fnExactShareExprUptoRow.holds Try.pinned (OpenSpec.upto fnExactShareExprSpec)

/-- 'laws.FnExactFollowPath', WHERE WHAT IT READS IS OF BULK AT MOST 1048576: true; the input reads as it did. -/
def fnExactFollowPathUptoRow : OpenClaim := { program := "ythjfedidpjfboaa", sum := "ccfb5d4bc4ebe05cc432e45a8ca61a4f6abf149dc855765dcf987c7ae7ed6568", func := "loop.example/g01127/laws.FnExactFollowPath", spec := "fnExactFollowPath", recurses := true, apart := false, narrowed := true }
def FnExactFollowPathUptoSaid : Prop := fnExactFollowPathUptoRow.holds Try.pinned (OpenSpec.upto fnExactFollowPathSpec)

/-- 'laws.FnExactSwapPath', WHERE WHAT IT READS IS OF BULK AT MOST 1048576: true; the input reads as it did. -/
def fnExactSwapPathUptoRow : OpenClaim := { program := "ythjfedidpjfboaa", sum := "ccfb5d4bc4ebe05cc432e45a8ca61a4f6abf149dc855765dcf987c7ae7ed6568", func := "loop.example/g01127/laws.FnExactSwapPath", spec := "fnExactSwapPath", recurses := true, apart := false, narrowed := true }
def FnExactSwapPathUptoSaid : Prop := fnExactSwapPathUptoRow.holds Try.pinned (OpenSpec.upto fnExactSwapPathSpec)

/-- 'laws.FnExactDropDead', WHERE WHAT IT READS IS OF BULK AT MOST 1048576: true; the input reads as it did. -/
def fnExactDropDeadUptoRow : OpenClaim := { program := "ythjfedidpjfboaa", sum := "ccfb5d4bc4ebe05cc432e45a8ca61a4f6abf149dc855765dcf987c7ae7ed6568", func := "loop.example/g01127/laws.FnExactDropDead", spec := "fnExactDropDead", unfollowed := true, recurses := true, apart := false, narrowed := true }
def FnExactDropDeadUptoSaid : Prop := fnExactDropDeadUptoRow.holds Try.pinned (OpenSpec.upto fnExactDropDeadSpec)

/-- 'laws.FnExactLiveBefore', WHERE WHAT IT READS IS OF BULK AT MOST 1048576: true; the input reads as it did. -/
def fnExactLiveBeforeUptoRow : OpenClaim := { program := "ythjfedidpjfboaa", sum := "ccfb5d4bc4ebe05cc432e45a8ca61a4f6abf149dc855765dcf987c7ae7ed6568", func := "loop.example/g01127/laws.FnExactLiveBefore", spec := "fnExactLiveBefore", unfollowed := true, recurses := true, apart := false, narrowed := true }
def FnExactLiveBeforeUptoSaid : Prop := fnExactLiveBeforeUptoRow.holds Try.pinned (OpenSpec.upto fnExactLiveBeforeSpec)

/-- 'laws.FnExactLiveSets', WHERE WHAT IT READS IS OF BULK AT MOST 1048576: true; the input reads as it did. -/
def fnExactLiveSetsUptoRow : OpenClaim := { program := "ythjfedidpjfboaa", sum := "ccfb5d4bc4ebe05cc432e45a8ca61a4f6abf149dc855765dcf987c7ae7ed6568", func := "loop.example/g01127/laws.FnExactLiveSets", spec := "fnExactLiveSets", unfollowed := true, recurses := true, apart := false, narrowed := true }
def FnExactLiveSetsUptoSaid : Prop := fnExactLiveSetsUptoRow.holds Try.pinned (OpenSpec.upto fnExactLiveSetsSpec)

/-- 'laws.FnExactMostAlive', WHERE WHAT IT READS IS OF BULK AT MOST 1048576: true; the input reads as it did. -/
def fnExactMostAliveUptoRow : OpenClaim := { program := "ythjfedidpjfboaa", sum := "ccfb5d4bc4ebe05cc432e45a8ca61a4f6abf149dc855765dcf987c7ae7ed6568", func := "loop.example/g01127/laws.FnExactMostAlive", spec := "fnExactMostAlive", unfollowed := true, recurses := true, apart := false, narrowed := true }
def FnExactMostAliveUptoSaid : Prop := fnExactMostAliveUptoRow.holds Try.pinned (OpenSpec.upto fnExactMostAliveSpec)

/-- 'laws.FnExactTraceOf', WHERE WHAT IT READS IS OF BULK AT MOST 1048576: true; the input reads as it did. -/
def fnExactTraceOfUptoRow : OpenClaim := { program := "ythjfedidpjfboaa", sum := "ccfb5d4bc4ebe05cc432e45a8ca61a4f6abf149dc855765dcf987c7ae7ed6568", func := "loop.example/g01127/laws.FnExactTraceOf", spec := "fnExactTraceOf", unfollowed := true, recurses := true, apart := false, narrowed := true }
def FnExactTraceOfUptoSaid : Prop := fnExactTraceOfUptoRow.holds Try.pinned (OpenSpec.upto fnExactTraceOfSpec)

/-- 'laws.FnExactPassesTests', WHERE WHAT IT READS IS OF BULK AT MOST 1048576: true; the input reads as it did. -/
def fnExactPassesTestsUptoRow : OpenClaim := { program := "ythjfedidpjfboaa", sum := "ccfb5d4bc4ebe05cc432e45a8ca61a4f6abf149dc855765dcf987c7ae7ed6568", func := "loop.example/g01127/laws.FnExactPassesTests", spec := "fnExactPassesTests", unfollowed := true, recurses := true, apart := false, narrowed := true }
def FnExactPassesTestsUptoSaid : Prop := fnExactPassesTestsUptoRow.holds Try.pinned (OpenSpec.upto fnExactPassesTestsSpec)

/-- 'laws.FnExactAreSameBlocks', WHERE WHAT IT READS IS OF BULK AT MOST 1048576: true; the input reads as it did. -/
def fnExactAreSameBlocksUptoRow : OpenClaim := { program := "ythjfedidpjfboaa", sum := "ccfb5d4bc4ebe05cc432e45a8ca61a4f6abf149dc855765dcf987c7ae7ed6568", func := "loop.example/g01127/laws.FnExactAreSameBlocks", spec := "fnExactAreSameBlocks", unfollowed := true, recurses := true, apart := false, narrowed := true }
def FnExactAreSameBlocksUptoSaid : Prop := fnExactAreSameBlocksUptoRow.holds Try.pinned (OpenSpec.upto fnExactAreSameBlocksSpec)

/-- 'laws.FnExactIsUntouched', WHERE WHAT IT READS IS OF BULK AT MOST 1048576: true; the input reads as it did. -/
def fnExactIsUntouchedUptoRow : OpenClaim := { program := "ythjfedidpjfboaa", sum := "ccfb5d4bc4ebe05cc432e45a8ca61a4f6abf149dc855765dcf987c7ae7ed6568", func := "loop.example/g01127/laws.FnExactIsUntouched", spec := "fnExactIsUntouched", unfollowed := true, recurses := true, apart := false, narrowed := true }
def FnExactIsUntouchedUptoSaid : Prop := fnExactIsUntouchedUptoRow.holds Try.pinned (OpenSpec.upto fnExactIsUntouchedSpec)

/-- 'laws.FnExactSameRegisters', WHERE WHAT IT READS IS OF BULK AT MOST 1048576: true; the input reads as it did. -/
def fnExactSameRegistersUptoRow : OpenClaim := { program := "ythjfedidpjfboaa", sum := "ccfb5d4bc4ebe05cc432e45a8ca61a4f6abf149dc855765dcf987c7ae7ed6568", func := "loop.example/g01127/laws.FnExactSameRegisters", spec := "fnExactSameRegisters", unfollowed := true, recurses := true, apart := false, narrowed := true }
def FnExactSameRegistersUptoSaid : Prop := fnExactSameRegistersUptoRow.holds Try.pinned (OpenSpec.upto fnExactSameRegistersSpec)

/-- 'laws.FnExactBlockWitness', WHERE WHAT IT READS IS OF BULK AT MOST 1048576: true; the input reads as it did. -/
def fnExactBlockWitnessUptoRow : OpenClaim := { program := "ythjfedidpjfboaa", sum := "ccfb5d4bc4ebe05cc432e45a8ca61a4f6abf149dc855765dcf987c7ae7ed6568", func := "loop.example/g01127/laws.FnExactBlockWitness", spec := "fnExactBlockWitness", unfollowed := true, recurses := true, apart := false, narrowed := true }
def FnExactBlockWitnessUptoSaid : Prop := fnExactBlockWitnessUptoRow.holds Try.pinned (OpenSpec.upto fnExactBlockWitnessSpec)

/-- 'laws.FnExactReachedWords', WHERE WHAT IT READS IS OF BULK AT MOST 1048576: true; the input reads as it did. -/
def fnExactReachedWordsUptoRow : OpenClaim := { program := "ythjfedidpjfboaa", sum := "ccfb5d4bc4ebe05cc432e45a8ca61a4f6abf149dc855765dcf987c7ae7ed6568", func := "loop.example/g01127/laws.FnExactReachedWords", spec := "fnExactReachedWords", unfollowed := true, recurses := true, apart := false, narrowed := true }
def FnExactReachedWordsUptoSaid : Prop := fnExactReachedWordsUptoRow.holds Try.pinned (OpenSpec.upto fnExactReachedWordsSpec)

/-- 'laws.FnExactIsChoice', WHERE WHAT IT READS IS OF BULK AT MOST 1048576: true; the input reads as it did. -/
def fnExactIsChoiceUptoRow : OpenClaim := { program := "ythjfedidpjfboaa", sum := "ccfb5d4bc4ebe05cc432e45a8ca61a4f6abf149dc855765dcf987c7ae7ed6568", func := "loop.example/g01127/laws.FnExactIsChoice", spec := "fnExactIsChoice", unfollowed := true, recurses := true, apart := false, narrowed := true }
def FnExactIsChoiceUptoSaid : Prop := fnExactIsChoiceUptoRow.holds Try.pinned (OpenSpec.upto fnExactIsChoiceSpec)

end Rows
end Go.Proofs.Ythjfedidpjfboaa
