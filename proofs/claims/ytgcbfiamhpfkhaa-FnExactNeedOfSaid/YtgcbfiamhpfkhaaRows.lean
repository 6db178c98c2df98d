/-
  No cell of these rows narrows 'for every input' (looked for: loops, veiled, ifaces, maps, wideKeys, modest, calm, conditions, laid).
  DERIVED. THE GIVEN ROWS OF THIS SEAT. 11 by the template 'for every input the law returns true; each argument reads behind the call as it read before'; 0 by the template 'total and deterministic' (their statements: YtgcbfiamhpfkhaaTotals.lean).
  GIVEN WITH THE SEED: the statements are not yours to turn. If you find one false, say at which input.
  Laid BY PROGRAM, IN A SANDBOX (cutbox-rows.mjs): the forced cells as the released guide's own fill.sh prints them over the translation 691dff0e48102f1a… (all of the seat's roots in one cut). By AI agents, Wed Nov 11 2026. No macro, syntax, notation, axiom, sorry.
-/
import Derived.Test.YtgcbfiamhpfkhaaChecked
import GoSem.Claim
import GoSem.ClaimJoined
import GoSem.ClaimMapViews
import Derived.JoinedTies
import Derived.KernelRfl
namespace Go.Proofs.Ytgcbfiamhpfkhaa
/- THE CELL 'sum', in the pinned program and in every row, IS THE sha256 OF THE DUMP (.gsa) THAT YtgcbfiamhpfkhaaProg.lean LOADS. Nothing in Lean hashes anything: it is a label: what it is worth is what the hold of that sum in a sandbox is worth. -/
noncomputable def Try.pinned : Pinned := { name := "ytgcbfiamhpfkhaa", sum := "691dff0e48102f1aae9a265c225546068f94dc66620f5618db65e1156def75d7", checked := Try.checked }
namespace Rows
def none {H : Type} : Left H := { results := [], args := [] }

/-- 'laws.FnExactAreFair': WHATEVER THE INPUT: true; the input reads as it did. -/
def fnExactAreFairSpec : ChangeSpec := { name := "fnExactAreFair", fn := fun _ => fun
  | [d1, d2] => { results := [.lit (.bool true)], args := [d1, d2] }
  | _ => none }
def fnExactAreFairRow : OpenClaim := { program := "ytgcbfiamhpfkhaa", sum := "691dff0e48102f1aae9a265c225546068f94dc66620f5618db65e1156def75d7", func := "loop.example/g01127/laws.FnExactAreFair", spec := "fnExactAreFair", unfollowed := true, recurses := true, apart := false }
def FnExactAreFairSaid : Prop := fnExactAreFairRow.holds Try.pinned (OpenSpec.ofChange fnExactAreFairSpec)

/-- ITS FALSE NEIGHBOUR: 'it returns false'. Refute it at one input. -/
def fnExactAreFairWrong : ChangeSpec := { name := "fnExactAreFair", fn := fun _ => fun
  | [d1, d2] => { results := [.lit (.bool false)], args := [d1, d2] }
  | _ => none }
def FnExactAreFairWrongFalsely : Prop := fnExactAreFairRow.holds Try.pinned (OpenSpec.ofChange fnExactAreFairWrong)

/-- 'laws.FnExactUnfairAt': WHATEVER THE INPUT: true; the input reads as it did. -/
def fnExactUnfairAtSpec : ChangeSpec := { name := "fnExactUnfairAt", fn := fun _ => fun
  | [d1, d2] => { results := [.lit (.bool true)], args := [d1, d2] }
  | _ => none }
def fnExactUnfairAtRow : OpenClaim := { program := "ytgcbfiamhpfkhaa", sum := "691dff0e48102f1aae9a265c225546068f94dc66620f5618db65e1156def75d7", func := "loop.example/g01127/laws.FnExactUnfairAt", spec := "fnExactUnfairAt", unfollowed := true, recurses := true, apart := false }
def FnExactUnfairAtSaid : Prop := fnExactUnfairAtRow.holds Try.pinned (OpenSpec.ofChange fnExactUnfairAtSpec)

/-- ITS FALSE NEIGHBOUR: 'it returns false'. Refute it at one input. -/
def fnExactUnfairAtWrong : ChangeSpec := { name := "fnExactUnfairAt", fn := fun _ => fun
  | [d1, d2] => { results := [.lit (.bool false)], args := [d1, d2] }
  | _ => none }
def FnExactUnfairAtWrongFalsely : Prop := fnExactUnfairAtRow.holds Try.pinned (OpenSpec.ofChange fnExactUnfairAtWrong)

/-- 'laws.FnExactBestCover': WHATEVER THE INPUT: true; the input reads as it did. -/
def fnExactBestCoverSpec : ChangeSpec := { name := "fnExactBestCover", fn := fun _ => fun
  | [d] => { results := [.lit (.bool true)], args := [d] }
  | _ => none }
def fnExactBestCoverRow : OpenClaim := { program := "ytgcbfiamhpfkhaa", sum := "691dff0e48102f1aae9a265c225546068f94dc66620f5618db65e1156def75d7", func := "loop.example/g01127/laws.FnExactBestCover", spec := "fnExactBestCover", unfollowed := true, recurses := true, apart := false }
def FnExactBestCoverSaid : Prop := fnExactBestCoverRow.holds Try.pinned (OpenSpec.ofChange fnExactBestCoverSpec)

/-- ITS FALSE NEIGHBOUR: 'it returns false'. Refute it at one input. -/
def fnExactBestCoverWrong : ChangeSpec := { name := "fnExactBestCover", fn := fun _ => fun
  | [d] => { results := [.lit (.bool false)], args := [d] }
  | _ => none }
def FnExactBestCoverWrongFalsely : Prop := fnExactBestCoverRow.holds Try.pinned (OpenSpec.ofChange fnExactBestCoverWrong)

/-- 'laws.FnExactLargestCover': WHATEVER THE INPUT: true; the input reads as it did. -/
def fnExactLargestCoverSpec : ChangeSpec := { name := "fnExactLargestCover", fn := fun _ => fun
  | [d] => { results := [.lit (.bool true)], args := [d] }
  | _ => none }
def fnExactLargestCoverRow : OpenClaim := { program := "ytgcbfiamhpfkhaa", sum := "691dff0e48102f1aae9a265c225546068f94dc66620f5618db65e1156def75d7", func := "loop.example/g01127/laws.FnExactLargestCover", spec := "fnExactLargestCover", unfollowed := true, recurses := true, apart := false }
def FnExactLargestCoverSaid : Prop := fnExactLargestCoverRow.holds Try.pinned (OpenSpec.ofChange fnExactLargestCoverSpec)

/-- ITS FALSE NEIGHBOUR: 'it returns false'. Refute it at one input. -/
def fnExactLargestCoverWrong : ChangeSpec := { name := "fnExactLargestCover", fn := fun _ => fun
  | [d] => { results := [.lit (.bool false)], args := [d] }
  | _ => none }
def FnExactLargestCoverWrongFalsely : Prop := fnExactLargestCoverRow.holds Try.pinned (OpenSpec.ofChange fnExactLargestCoverWrong)

/-- 'laws.FnExactNeedsOf': WHATEVER THE INPUT: true; the input reads as it did. -/
def fnExactNeedsOfSpec : ChangeSpec := { name := "fnExactNeedsOf", fn := fun _ => fun
  | [d1, d2] => { results := [.lit (.bool true)], args := [d1, d2] }
  | _ => none }
def fnExactNeedsOfRow : OpenClaim := { program := "ytgcbfiamhpfkhaa", sum := "691dff0e48102f1aae9a265c225546068f94dc66620f5618db65e1156def75d7", func := "loop.example/g01127/laws.FnExactNeedsOf", spec := "fnExactNeedsOf", unfollowed := true, recurses := true, apart := false }
def FnExactNeedsOfSaid : Prop := fnExactNeedsOfRow.holds Try.pinned (OpenSpec.ofChange fnExactNeedsOfSpec)

/-- ITS FALSE NEIGHBOUR: 'it returns false'. Refute it at one input. -/
def fnExactNeedsOfWrong : ChangeSpec := { name := "fnExactNeedsOf", fn := fun _ => fun
  | [d1, d2] => { results := [.lit (.bool false)], args := [d1, d2] }
  | _ => none }
def FnExactNeedsOfWrongFalsely : Prop := fnExactNeedsOfRow.holds Try.pinned (OpenSpec.ofChange fnExactNeedsOfWrong)

/-- 'laws.FnExactNeedOf': WHATEVER THE INPUT: true; the input reads as it did. -/
def fnExactNeedOfSpec : ChangeSpec := { name := "fnExactNeedOf", fn := fun _ => fun
  | [d1, d2] => { results := [.lit (.bool true)], args := [d1, d2] }
  | _ => none }
def fnExactNeedOfRow : OpenClaim := { program := "ytgcbfiamhpfkhaa", sum := "691dff0e48102f1aae9a265c225546068f94dc66620f5618db65e1156def75d7", func := "loop.example/g01127/laws.FnExactNeedOf", spec := "fnExactNeedOf", unfollowed := true, recurses := true, apart := false }
def FnExactNeedOfSaid : Prop := fnExactNeedOfRow.holds Try.pinned (OpenSpec.ofChange fnExactNeedOfSpec)

/-- ITS FALSE NEIGHBOUR: 'it returns false'. Refute it at one input. -/
def fnExactNeedOfWrong : ChangeSpec := { name := "fnExactNeedOf", fn := fun _ => fun
  | [d1, d2] => { results := [.lit (.bool false)], args := [d1, d2] }
  | _ => none }
def FnExactNeedOfWrongFalsely : Prop := fnExactNeedOfRow.holds Try.pinned (OpenSpec.ofChange fnExactNeedOfWrong)

/-- 'laws.FnExactSavedBy': WHATEVER THE INPUT: true; the input reads as it did. -/
def fnExactSavedBySpec : ChangeSpec := { name := "fnExactSavedBy", fn := fun _ => fun
  | [d] => { results := [.lit (.bool true)], args := [d] }
  | _ => none }
def fnExactSavedByRow : OpenClaim := { program := "ytgcbfiamhpfkhaa", sum := "691dff0e48102f1aae9a265c225546068f94dc66620f5618db65e1156def75d7", func := "loop.example/g01127/laws.FnExactSavedBy", spec := "fnExactSavedBy", unfollowed := true, recurses := true, apart := false }
def FnExactSavedBySaid : Prop := fnExactSavedByRow.holds Try.pinned (OpenSpec.ofChange fnExactSavedBySpec)

/-- ITS FALSE NEIGHBOUR: 'it returns false'. Refute it at one input. -/
def fnExactSavedByWrong : ChangeSpec := { name := "fnExactSavedBy", fn := fun _ => fun
  | [d] => { results := [.lit (.bool false)], args := [d] }
  | _ => none }
def FnExactSavedByWrongFalsely : Prop := fnExactSavedByRow.holds Try.pinned (OpenSpec.ofChange fnExactSavedByWrong)

/-- 'laws.FnExactDropDead': WHATEVER THE INPUT: true; the input reads as it did. -/
def fnExactDropDeadSpec : ChangeSpec := { name := "fnExactDropDead", fn := fun _ => fun
  | [d1, d2] => { results := [.lit (.bool true)], args := [d1, d2] }
  | _ => none }
def fnExactDropDeadRow : OpenClaim := { program := "ytgcbfiamhpfkhaa", sum := "691dff0e48102f1aae9a265c225546068f94dc66620f5618db65e1156def75d7", func := "loop.example/g01127/laws.FnExactDropDead", spec := "fnExactDropDead", unfollowed := true, recurses := true, apart := false }
def FnExactDropDeadSaid : Prop := fnExactDropDeadRow.holds Try.pinned (OpenSpec.ofChange fnExactDropDeadSpec)

/-- ITS FALSE NEIGHBOUR: 'it returns false'. Refute it at one input. -/
def fnExactDropDeadWrong : ChangeSpec := { name := "fnExactDropDead", fn := fun _ => fun
  | [d1, d2] => { results := [.lit (.bool false)], args := [d1, d2] }
  | _ => none }
def FnExactDropDeadWrongFalsely : Prop := fnExactDropDeadRow.holds Try.pinned (OpenSpec.ofChange fnExactDropDeadWrong)

/-- 'laws.FnExactLiveBefore': WHATEVER THE INPUT: true; the input reads as it did. -/
def fnExactLiveBeforeSpec : ChangeSpec := { name := "fnExactLiveBefore", fn := fun _ => fun
  | [d1, d2] => { results := [.lit (.bool true)], args := [d1, d2] }
  | _ => none }
def fnExactLiveBeforeRow : OpenClaim := { program := "ytgcbfiamhpfkhaa", sum := "691dff0e48102f1aae9a265c225546068f94dc66620f5618db65e1156def75d7", func := "loop.example/g01127/laws.FnExactLiveBefore", spec := "fnExactLiveBefore", unfollowed := true, recurses := true, apart := false }
def FnExactLiveBeforeSaid : Prop := fnExactLiveBeforeRow.holds Try.pinned (OpenSpec.ofChange fnExactLiveBeforeSpec)

/-- ITS FALSE NEIGHBOUR: 'it returns false'. Refute it at one input. -/
def fnExactLiveBeforeWrong : ChangeSpec := { name := "fnExactLiveBefore", fn := fun _ => fun
  | [d1, d2] => { results := [.lit (.bool false)], args := [d1, d2] }
  | _ => none }
def FnExactLiveBeforeWrongFalsely : Prop := fnExactLiveBeforeRow.holds Try.pinned (OpenSpec.ofChange fnExactLiveBeforeWrong)

/-- 'laws.FnExactMostAlive': WHATEVER THE INPUT: true; the input reads as it did. -/
def fnExactMostAliveSpec : ChangeSpec := { name := "fnExactMostAlive", fn := fun _ => fun
  | [d1, d2] => { results := [.lit (.bool true)], args := [d1, d2] }
  | _ => none }
def fnExactMostAliveRow : OpenClaim := { program := "ytgcbfiamhpfkhaa", sum := "691dff0e48102f1aae9a265c225546068f94dc66620f5618db65e1156def75d7", func := "loop.example/g01127/laws.FnExactMostAlive", spec := "fnExactMostAlive", unfollowed := true, recurses := true, apart := false }
def FnExactMostAliveSaid : Prop := fnExactMostAliveRow.holds Try.pinned (OpenSpec.ofChange fnExactMostAliveSpec)

/-- ITS FALSE NEIGHBOUR: 'it returns false'. Refute it at one input. -/
def fnExactMostAliveWrong : ChangeSpec := { name := "fnExactMostAlive", fn := fun _ => fun
  | [d1, d2] => { results := [.lit (.bool false)], args := [d1, d2] }
  | _ => none }
def FnExactMostAliveWrongFalsely : Prop := fnExactMostAliveRow.holds Try.pinned (OpenSpec.ofChange fnExactMostAliveWrong)

/-- 'laws.FnExactTraceOf': WHATEVER THE INPUT: true; the input reads as it did. -/
def fnExactTraceOfSpec : ChangeSpec := { name := "fnExactTraceOf", fn := fun _ => fun
  | [d1, d2] => { results := [.lit (.bool true)], args := [d1, d2] }
  | _ => none }
def fnExactTraceOfRow : OpenClaim := { program := "ytgcbfiamhpfkhaa", sum := "691dff0e48102f1aae9a265c225546068f94dc66620f5618db65e1156def75d7", func := "loop.example/g01127/laws.FnExactTraceOf", spec := "fnExactTraceOf", unfollowed := true, recurses := true, apart := false }
def FnExactTraceOfSaid : Prop := fnExactTraceOfRow.holds Try.pinned (OpenSpec.ofChange fnExactTraceOfSpec)

/-- ITS FALSE NEIGHBOUR: 'it returns false'. Refute it at one input. -/
def fnExactTraceOfWrong : ChangeSpec := { name := "fnExactTraceOf", fn := fun _ => fun
  | [d1, d2] => { results := [.lit (.bool false)], args := [d1, d2] }
  | _ => none }
def FnExactTraceOfWrongFalsely : Prop := fnExactTraceOfRow.holds Try.pinned (OpenSpec.ofChange fnExactTraceOfWrong)

/- THE SECOND FORM. 'bulk': how many values and letters a reading holds, each counted each time it is reached (what is shared counts as often as it is met; a slice's spare places count too). A statement '..UptoSaid' is the law's where the arguments, and the package variables that the reading takes, are together of bulk at most 1048576: NARROWER than '..Said'. Prove '..Said' where nothing that the law and all that it calls make is longer than what came in: it says more and counts as full. Else prove '..UptoSaid'. A law counts once. -/
mutual
def uptoBulk {H : Type} : DataW H → Nat
  | .lit (.string bytes) => bytes.length + 1
  | .lit _ => 1
  | .nil => 1
  | .ptr d => uptoBulk d + 1
  | .slice elems spare => uptoBulkAll elems + uptoBulkAll spare + 1
  | .agg parts => uptoBulkAll parts + 1
  | .iface _ d => uptoBulk d + 1
  | .map entries => uptoBulkEntries entries + 1
  | .held _ => 1
def uptoBulkAll {H : Type} : List (DataW H) → Nat
  | [] => 0
  | d :: r => uptoBulk d + uptoBulkAll r
def uptoBulkEntries {H : Type} : List (Lit × DataW H) → Nat
  | [] => 0
  | x :: r => uptoBulkEntry x + uptoBulkEntries r
def uptoBulkEntry {H : Type} : Lit × DataW H → Nat
  | (.string bytes, d) => bytes.length + uptoBulk d + 1
  | (_, d) => uptoBulk d + 1
 end
def uptoSmall : (H : Type) → List (DataW H) → Bool := fun _ ds => decide (uptoBulkAll ds ≤ 1048576)
def OpenSpec.upto (s : _root_.Go.ChangeSpec) : _root_.Go.OpenSpec := { _root_.Go.OpenSpec.ofChange s with cond := some uptoSmall }

/-- 'laws.FnExactAreFair', WHERE WHAT IT READS IS OF BULK AT MOST 1048576: true; the input reads as it did. -/
def fnExactAreFairUptoRow : OpenClaim := { program := "ytgcbfiamhpfkhaa", sum := "691dff0e48102f1aae9a265c225546068f94dc66620f5618db65e1156def75d7", func := "loop.example/g01127/laws.FnExactAreFair", spec := "fnExactAreFair", unfollowed := true, recurses := true, apart := false, narrowed := true }
def FnExactAreFairUptoSaid : Prop := fnExactAreFairUptoRow.holds Try.pinned (OpenSpec.upto fnExactAreFairSpec)

/-- 'laws.FnExactUnfairAt', WHERE WHAT IT READS IS OF BULK AT MOST 1048576: true; the input reads as it did. -/
def fnExactUnfairAtUptoRow : OpenClaim := { program := "ytgcbfiamhpfkhaa", sum := "691dff0e48102f1aae9a265c225546068f94dc66620f5618db65e1156def75d7", func := "loop.example/g01127/laws.FnExactUnfairAt", spec := "fnExactUnfairAt", unfollowed := true, recurses := true, apart := false, narrowed := true }
def FnExactUnfairAtUptoSaid : Prop := fnExactUnfairAtUptoRow.holds Try.pinned (OpenSpec.upto fnExactUnfairAtSpec)

/-- 'laws.FnExactBestCover', WHERE WHAT IT READS IS OF BULK AT MOST 1048576: true; the input reads as it did. -/
def fnExactBestCoverUptoRow : OpenClaim := { program := "ytgcbfiamhpfkhaa", sum := "691dff0e48102f1aae9a265c225546068f94dc66620f5618db65e1156def75d7", func := "loop.example/g01127/laws.FnExactBestCover", spec := "fnExactBestCover", unfollowed := true, recurses := true, apart := false, narrowed := true }
def FnExactBestCoverUptoSaid : Prop := fnExactBestCoverUptoRow.holds Try.pinned (OpenSpec.upto fnExactBestCoverSpec)

/-- 'laws.FnExactLargestCover', WHERE WHAT IT READS IS OF BULK AT MOST 1048576: true; the input reads as it did. -/
def fnExactLargestCoverUptoRow : OpenClaim := { program := "ytgcbfiamhpfkhaa", sum := "691dff0e48102f1aae9a265c225546068f94dc66620f5618db65e1156def75d7", func := "loop.example/g01127/laws.FnExactLargestCover", spec := "fnExactLargestCover", unfollowed := true, recurses := true, apart := false, narrowed := true }
def FnExactLargestCoverUptoSaid : Prop := fnExactLargestCoverUptoRow.holds Try.pinned (OpenSpec.upto fnExactLargestCoverSpec)

/-- 'laws.FnExactNeedsOf', WHERE WHAT IT READS IS OF BULK AT MOST 1048576: true; the input reads as it did. -/
def fnExactNeedsOfUptoRow : OpenClaim := { program := "ytgcbfiamhpfkhaa", sum := "691dff0e48102f1aae9a265c225546068f94dc66620f5618db65e1156def75d7", func := "loop.example/g01127/laws.FnExactNeedsOf", spec := "fnExactNeedsOf", unfollowed := true, recurses := true, apart := false, narrowed := true }
def FnExactNeedsOfUptoSaid : Prop := fnExactNeedsOfUptoRow.holds Try.pinned (OpenSpec.upto fnExactNeedsOfSpec)

/-- 'laws.FnExactNeedOf', WHERE WHAT IT READS IS OF BULK AT MOST 1048576: true; the input reads as it did. -/
def fnExactNeedOfUptoRow : OpenClaim := { program := "ytgcbfiamhpfkhaa", sum := "691dff0e48102f1aae9a265c225546068f94dc66620f5618db65e1156def75d7", func := "loop.example/g01127/laws.FnExactNeedOf", spec := "fnExactNeedOf", unfollowed := true, recurses := true, apart := false, narrowed := true }
def FnExactNeedOfUptoSaid : Prop := fnExactNeedOfUptoRow.holds Try.pinned (OpenSpec.upto fnExactNeedOfSpec)

/-- 'laws.FnExactSavedBy', WHERE WHAT IT READS IS OF BULK AT MOST 1048576: true; the input reads as it did. -/
def fnExactSavedByUptoRow : OpenClaim := { program := "ytgcbfiamhpfkhaa", sum := "691dff0e48102f1aae9a265c225546068f94dc66620f5618db65e1156def75d7", func := "loop.example/g01127/laws.FnExactSavedBy", spec := "fnExactSavedBy", unfollowed := true, recurses := true, apart := false, narrowed := true }
def FnExactSavedByUptoSaid : Prop := fnExactSavedByUptoRow.holds Try.pinned (OpenSpec.upto fnExactSavedBySpec)

/-- 'laws.FnExactDropDead', WHERE WHAT IT READS IS OF BULK AT MOST 1048576: true; the input reads as it did. -/
def fnExactDropDeadUptoRow : OpenClaim := { program := "ytgcbfiamhpfkhaa", sum := "691dff0e48102f1aae9a265c225546068f94dc66620f5618db65e1156def75d7", func := "loop.example/g01127/laws.FnExactDropDead", spec := "fnExactDropDead", unfollowed := true, recurses := true, apart := false, narrowed := true }
def FnExactDropDeadUptoSaid : Prop := fnExactDropDeadUptoRow.holds Try.pinned (OpenSpec.upto fnExactDropDeadSpec)

/-- 'laws.FnExactLiveBefore', WHERE WHAT IT READS IS OF BULK AT MOST 1048576: true; the input reads as it did. -/
def fnExactLiveBeforeUptoRow : OpenClaim := { program := "ytgcbfiamhpfkhaa", sum := "691dff0e48102f1aae9a265c225546068f94dc66620f5618db65e1156def75d7", func := "loop.example/g01127/laws.FnExactLiveBefore", spec := "fnExactLiveBefore", unfollowed := true, recurses := true, apart := false, narrowed := true }
def FnExactLiveBeforeUptoSaid : Prop := fnExactLiveBeforeUptoRow.holds Try.pinned (OpenSpec.upto fnExactLiveBeforeSpec)

/-- 'laws.FnExactMostAlive', WHERE WHAT IT READS IS OF BULK AT MOST 1048576: true; the input reads as it did. -/
def fnExactMostAliveUptoRow : OpenClaim := { program := "ytgcbfiamhpfkhaa", sum := "691dff0e48102f1aae9a265c225546068f94dc66620f5618db65e1156def75d7", func := "loop.example/g01127/laws.FnExactMostAlive", spec := "fnExactMostAlive", unfollowed := true, recurses := true, apart := false, narrowed := true }
def FnExactMostAliveUptoSaid : Prop := fnExactMostAliveUptoRow.holds Try.pinned (OpenSpec.upto fnExactMostAliveSpec)

/-- 'laws.FnExactTraceOf', WHERE WHAT IT READS IS OF BULK AT MOST 1048576: true; the input reads as it did. -/
def fnExactTraceOfUptoRow : OpenClaim := { program := "ytgcbfiamhpfkhaa", sum := "691dff0e48102f1aae9a265c225546068f94dc66620f5618db65e1156def75d7", func := "loop.example/g01127/laws.FnExactTraceOf", spec := "fnExactTraceOf", unfollowed := true, recurses := true, apart := false, narrowed := true }
def FnExactTraceOfUptoSaid : Prop := fnExactTraceOfUptoRow.holds Try.pinned (OpenSpec.upto fnExactTraceOfSpec)

end Rows
end Go.Proofs.Ytgcbfiamhpfkhaa
