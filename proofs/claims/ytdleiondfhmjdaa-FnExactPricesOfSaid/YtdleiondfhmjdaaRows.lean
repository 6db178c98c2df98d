/-
  No cell of these rows narrows 'for every input' (looked for: loops, veiled, ifaces, maps, wideKeys, modest, calm, conditions, laid).
  DERIVED. THE GIVEN ROWS OF THIS SEAT. 13 by the template 'for every input the law returns true; each argument reads behind the call as it read before'; 0 by the template 'total and deterministic' (their statements: YtdleiondfhmjdaaTotals.lean).
  GIVEN WITH THE SEED: the statements are not yours to turn. If you find one false, say at which input.
  Laid BY PROGRAM, IN A SANDBOX (cutbox-rows.mjs): the forced cells as the released guide's own fill.sh prints them over the translation 32f9fe2da6e5c847… (all of the seat's roots in one cut). By AI agents, Wed Nov 11 2026. No macro, syntax, notation, axiom, sorry.
-/
import Derived.Test.YtdleiondfhmjdaaChecked
import GoSem.Claim
import GoSem.ClaimJoined
import GoSem.ClaimMapViews
import Derived.JoinedTies
import Derived.KernelRfl
namespace Go.Proofs.Ytdleiondfhmjdaa
/- THE CELL 'sum', in the pinned program and in every row, IS THE sha256 OF THE DUMP (.gsa) THAT YtdleiondfhmjdaaProg.lean LOADS. Nothing in Lean hashes anything: it is a label: what it is worth is what the hold of that sum in a sandbox is worth. -/
noncomputable def Try.pinned : Pinned := { name := "ytdleiondfhmjdaa", sum := "32f9fe2da6e5c8472b00882aa9e449445db5b75fb42884ea4b98a56e04cd4183", checked := Try.checked }
namespace Rows
def none {H : Type} : Left H := { results := [], args := [] }

/-- 'laws.FnExactTraceOf': WHATEVER THE INPUT: true; the input reads as it did. -/
def fnExactTraceOfSpec : ChangeSpec := { name := "fnExactTraceOf", fn := fun _ => fun
  | [d1, d2] => { results := [.lit (.bool true)], args := [d1, d2] }
  | _ => none }
def fnExactTraceOfRow : OpenClaim := { program := "ytdleiondfhmjdaa", sum := "32f9fe2da6e5c8472b00882aa9e449445db5b75fb42884ea4b98a56e04cd4183", func := "loop.example/g01127/laws.FnExactTraceOf", spec := "fnExactTraceOf", unfollowed := true, recurses := true, apart := false }
def FnExactTraceOfSaid : Prop := fnExactTraceOfRow.holds Try.pinned (OpenSpec.ofChange fnExactTraceOfSpec)

/-- ITS FALSE NEIGHBOUR: 'it returns false'. Refute it at one input. -/
def fnExactTraceOfWrong : ChangeSpec := { name := "fnExactTraceOf", fn := fun _ => fun
  | [d1, d2] => { results := [.lit (.bool false)], args := [d1, d2] }
  | _ => none }
def FnExactTraceOfWrongFalsely : Prop := fnExactTraceOfRow.holds Try.pinned (OpenSpec.ofChange fnExactTraceOfWrong)

/-- 'laws.FnExactTileParts': WHATEVER THE INPUT: true; the input reads as it did. -/
def fnExactTilePartsSpec : ChangeSpec := { name := "fnExactTileParts", fn := fun _ => fun
  | [d1, d2, d3] => { results := [.lit (.bool true)], args := [d1, d2, d3] }
  | _ => none }
def fnExactTilePartsRow : OpenClaim := { program := "ytdleiondfhmjdaa", sum := "32f9fe2da6e5c8472b00882aa9e449445db5b75fb42884ea4b98a56e04cd4183", func := "loop.example/g01127/laws.FnExactTileParts", spec := "fnExactTileParts", apart := false }
def FnExactTilePartsSaid : Prop := fnExactTilePartsRow.holds Try.pinned (OpenSpec.ofChange fnExactTilePartsSpec)

/-- ITS FALSE NEIGHBOUR: 'it returns false'. Refute it at one input. -/
def fnExactTilePartsWrong : ChangeSpec := { name := "fnExactTileParts", fn := fun _ => fun
  | [d1, d2, d3] => { results := [.lit (.bool false)], args := [d1, d2, d3] }
  | _ => none }
def FnExactTilePartsWrongFalsely : Prop := fnExactTilePartsRow.holds Try.pinned (OpenSpec.ofChange fnExactTilePartsWrong)

/-- 'laws.FnExactTileInner': WHATEVER THE INPUT: true; the input reads as it did. -/
def fnExactTileInnerSpec : ChangeSpec := { name := "fnExactTileInner", fn := fun _ => fun
  | [d1, d2, d3] => { results := [.lit (.bool true)], args := [d1, d2, d3] }
  | _ => none }
def fnExactTileInnerRow : OpenClaim := { program := "ytdleiondfhmjdaa", sum := "32f9fe2da6e5c8472b00882aa9e449445db5b75fb42884ea4b98a56e04cd4183", func := "loop.example/g01127/laws.FnExactTileInner", spec := "fnExactTileInner", apart := false }
def FnExactTileInnerSaid : Prop := fnExactTileInnerRow.holds Try.pinned (OpenSpec.ofChange fnExactTileInnerSpec)

/-- ITS FALSE NEIGHBOUR: 'it returns false'. Refute it at one input. -/
def fnExactTileInnerWrong : ChangeSpec := { name := "fnExactTileInner", fn := fun _ => fun
  | [d1, d2, d3] => { results := [.lit (.bool false)], args := [d1, d2, d3] }
  | _ => none }
def FnExactTileInnerWrongFalsely : Prop := fnExactTileInnerRow.holds Try.pinned (OpenSpec.ofChange fnExactTileInnerWrong)

/-- 'laws.FnExactTileCost': WHATEVER THE INPUT: true; the input reads as it did. -/
def fnExactTileCostSpec : ChangeSpec := { name := "fnExactTileCost", fn := fun _ => fun
  | [d1, d2, d3] => { results := [.lit (.bool true)], args := [d1, d2, d3] }
  | _ => none }
def fnExactTileCostRow : OpenClaim := { program := "ytdleiondfhmjdaa", sum := "32f9fe2da6e5c8472b00882aa9e449445db5b75fb42884ea4b98a56e04cd4183", func := "loop.example/g01127/laws.FnExactTileCost", spec := "fnExactTileCost", apart := false }
def FnExactTileCostSaid : Prop := fnExactTileCostRow.holds Try.pinned (OpenSpec.ofChange fnExactTileCostSpec)

/-- ITS FALSE NEIGHBOUR: 'it returns false'. Refute it at one input. -/
def fnExactTileCostWrong : ChangeSpec := { name := "fnExactTileCost", fn := fun _ => fun
  | [d1, d2, d3] => { results := [.lit (.bool false)], args := [d1, d2, d3] }
  | _ => none }
def FnExactTileCostWrongFalsely : Prop := fnExactTileCostRow.holds Try.pinned (OpenSpec.ofChange fnExactTileCostWrong)

/-- 'laws.FnExactTilesAt': WHATEVER THE INPUT: true; the input reads as it did. -/
def fnExactTilesAtSpec : ChangeSpec := { name := "fnExactTilesAt", fn := fun _ => fun
  | [d1, d2] => { results := [.lit (.bool true)], args := [d1, d2] }
  | _ => none }
def fnExactTilesAtRow : OpenClaim := { program := "ytdleiondfhmjdaa", sum := "32f9fe2da6e5c8472b00882aa9e449445db5b75fb42884ea4b98a56e04cd4183", func := "loop.example/g01127/laws.FnExactTilesAt", spec := "fnExactTilesAt", apart := false }
def FnExactTilesAtSaid : Prop := fnExactTilesAtRow.holds Try.pinned (OpenSpec.ofChange fnExactTilesAtSpec)

/-- ITS FALSE NEIGHBOUR: 'it returns false'. Refute it at one input. -/
def fnExactTilesAtWrong : ChangeSpec := { name := "fnExactTilesAt", fn := fun _ => fun
  | [d1, d2] => { results := [.lit (.bool false)], args := [d1, d2] }
  | _ => none }
def FnExactTilesAtWrongFalsely : Prop := fnExactTilesAtRow.holds Try.pinned (OpenSpec.ofChange fnExactTilesAtWrong)

/-- 'laws.FnExactIsCover': WHATEVER THE INPUT: true; the input reads as it did. -/
def fnExactIsCoverSpec : ChangeSpec := { name := "fnExactIsCover", fn := fun _ => fun
  | [d1, d2] => { results := [.lit (.bool true)], args := [d1, d2] }
  | _ => none }
def fnExactIsCoverRow : OpenClaim := { program := "ytdleiondfhmjdaa", sum := "32f9fe2da6e5c8472b00882aa9e449445db5b75fb42884ea4b98a56e04cd4183", func := "loop.example/g01127/laws.FnExactIsCover", spec := "fnExactIsCover", unfollowed := true, recurses := true, apart := false }
def FnExactIsCoverSaid : Prop := fnExactIsCoverRow.holds Try.pinned (OpenSpec.ofChange fnExactIsCoverSpec)

/-- ITS FALSE NEIGHBOUR: 'it returns false'. Refute it at one input. -/
def fnExactIsCoverWrong : ChangeSpec := { name := "fnExactIsCover", fn := fun _ => fun
  | [d1, d2] => { results := [.lit (.bool false)], args := [d1, d2] }
  | _ => none }
def FnExactIsCoverWrongFalsely : Prop := fnExactIsCoverRow.holds Try.pinned (OpenSpec.ofChange fnExactIsCoverWrong)

/-- 'laws.FnExactCoverCost': WHATEVER THE INPUT: true; the input reads as it did. -/
def fnExactCoverCostSpec : ChangeSpec := { name := "fnExactCoverCost", fn := fun _ => fun
  | [d1, d2] => { results := [.lit (.bool true)], args := [d1, d2] }
  | _ => none }
def fnExactCoverCostRow : OpenClaim := { program := "ytdleiondfhmjdaa", sum := "32f9fe2da6e5c8472b00882aa9e449445db5b75fb42884ea4b98a56e04cd4183", func := "loop.example/g01127/laws.FnExactCoverCost", spec := "fnExactCoverCost", unfollowed := true, recurses := true, apart := false }
def FnExactCoverCostSaid : Prop := fnExactCoverCostRow.holds Try.pinned (OpenSpec.ofChange fnExactCoverCostSpec)

/-- ITS FALSE NEIGHBOUR: 'it returns false'. Refute it at one input. -/
def fnExactCoverCostWrong : ChangeSpec := { name := "fnExactCoverCost", fn := fun _ => fun
  | [d1, d2] => { results := [.lit (.bool false)], args := [d1, d2] }
  | _ => none }
def FnExactCoverCostWrongFalsely : Prop := fnExactCoverCostRow.holds Try.pinned (OpenSpec.ofChange fnExactCoverCostWrong)

/-- 'laws.FnExactPricesOf': WHATEVER THE INPUT: true; the input reads as it did. -/
def fnExactPricesOfSpec : ChangeSpec := { name := "fnExactPricesOf", fn := fun _ => fun
  | [d] => { results := [.lit (.bool true)], args := [d] }
  | _ => none }
def fnExactPricesOfRow : OpenClaim := { program := "ytdleiondfhmjdaa", sum := "32f9fe2da6e5c8472b00882aa9e449445db5b75fb42884ea4b98a56e04cd4183", func := "loop.example/g01127/laws.FnExactPricesOf", spec := "fnExactPricesOf", apart := false }
def FnExactPricesOfSaid : Prop := fnExactPricesOfRow.holds Try.pinned (OpenSpec.ofChange fnExactPricesOfSpec)

/-- ITS FALSE NEIGHBOUR: 'it returns false'. Refute it at one input. -/
def fnExactPricesOfWrong : ChangeSpec := { name := "fnExactPricesOf", fn := fun _ => fun
  | [d] => { results := [.lit (.bool false)], args := [d] }
  | _ => none }
def FnExactPricesOfWrongFalsely : Prop := fnExactPricesOfRow.holds Try.pinned (OpenSpec.ofChange fnExactPricesOfWrong)

/-- 'laws.FnExactCountCovers': WHATEVER THE INPUT: true; the input reads as it did. -/
def fnExactCountCoversSpec : ChangeSpec := { name := "fnExactCountCovers", fn := fun _ => fun
  | [d] => { results := [.lit (.bool true)], args := [d] }
  | _ => none }
def fnExactCountCoversRow : OpenClaim := { program := "ytdleiondfhmjdaa", sum := "32f9fe2da6e5c8472b00882aa9e449445db5b75fb42884ea4b98a56e04cd4183", func := "loop.example/g01127/laws.FnExactCountCovers", spec := "fnExactCountCovers", apart := false }
def FnExactCountCoversSaid : Prop := fnExactCountCoversRow.holds Try.pinned (OpenSpec.ofChange fnExactCountCoversSpec)

/-- ITS FALSE NEIGHBOUR: 'it returns false'. Refute it at one input. -/
def fnExactCountCoversWrong : ChangeSpec := { name := "fnExactCountCovers", fn := fun _ => fun
  | [d] => { results := [.lit (.bool false)], args := [d] }
  | _ => none }
def FnExactCountCoversWrongFalsely : Prop := fnExactCountCoversRow.holds Try.pinned (OpenSpec.ofChange fnExactCountCoversWrong)

/-- 'laws.FnExactTileUses': WHATEVER THE INPUT: true; the input reads as it did. -/
def fnExactTileUsesSpec : ChangeSpec := { name := "fnExactTileUses", fn := fun _ => fun
  | [d1, d2] => { results := [.lit (.bool true)], args := [d1, d2] }
  | _ => none }
def fnExactTileUsesRow : OpenClaim := { program := "ytdleiondfhmjdaa", sum := "32f9fe2da6e5c8472b00882aa9e449445db5b75fb42884ea4b98a56e04cd4183", func := "loop.example/g01127/laws.FnExactTileUses", spec := "fnExactTileUses", unfollowed := true, recurses := true, apart := false }
def FnExactTileUsesSaid : Prop := fnExactTileUsesRow.holds Try.pinned (OpenSpec.ofChange fnExactTileUsesSpec)

/-- ITS FALSE NEIGHBOUR: 'it returns false'. Refute it at one input. -/
def fnExactTileUsesWrong : ChangeSpec := { name := "fnExactTileUses", fn := fun _ => fun
  | [d1, d2] => { results := [.lit (.bool false)], args := [d1, d2] }
  | _ => none }
def FnExactTileUsesWrongFalsely : Prop := fnExactTileUsesRow.holds Try.pinned (OpenSpec.ofChange fnExactTileUsesWrong)

/-- 'laws.FnExactDifferenceOf': WHATEVER THE INPUT: true; the input reads as it did. -/
def fnExactDifferenceOfSpec : ChangeSpec := { name := "fnExactDifferenceOf", fn := fun _ => fun
  | [d1, d2, d3] => { results := [.lit (.bool true)], args := [d1, d2, d3] }
  | _ => none }
def fnExactDifferenceOfRow : OpenClaim := { program := "ytdleiondfhmjdaa", sum := "32f9fe2da6e5c8472b00882aa9e449445db5b75fb42884ea4b98a56e04cd4183", func := "loop.example/g01127/laws.FnExactDifferenceOf", spec := "fnExactDifferenceOf", unfollowed := true, recurses := true, apart := false }
def FnExactDifferenceOfSaid : Prop := fnExactDifferenceOfRow.holds Try.pinned (OpenSpec.ofChange fnExactDifferenceOfSpec)

/-- ITS FALSE NEIGHBOUR: 'it returns false'. Refute it at one input. -/
def fnExactDifferenceOfWrong : ChangeSpec := { name := "fnExactDifferenceOf", fn := fun _ => fun
  | [d1, d2, d3] => { results := [.lit (.bool false)], args := [d1, d2, d3] }
  | _ => none }
def FnExactDifferenceOfWrongFalsely : Prop := fnExactDifferenceOfRow.holds Try.pinned (OpenSpec.ofChange fnExactDifferenceOfWrong)

/-- 'laws.FnExactComputesExpr': WHATEVER THE INPUT: true; the input reads as it did. -/
def fnExactComputesExprSpec : ChangeSpec := { name := "fnExactComputesExpr", fn := fun _ => fun
  | [d1, d2, d3] => { results := [.lit (.bool true)], args := [d1, d2, d3] }
  | _ => none }
def fnExactComputesExprRow : OpenClaim := { program := "ytdleiondfhmjdaa", sum := "32f9fe2da6e5c8472b00882aa9e449445db5b75fb42884ea4b98a56e04cd4183", func := "loop.example/g01127/laws.FnExactComputesExpr", spec := "fnExactComputesExpr", unfollowed := true, recurses := true, apart := false }
def FnExactComputesExprSaid : Prop := fnExactComputesExprRow.holds Try.pinned (OpenSpec.ofChange fnExactComputesExprSpec)

/-- ITS FALSE NEIGHBOUR: 'it returns false'. Refute it at one input. -/
def fnExactComputesExprWrong : ChangeSpec := { name := "fnExactComputesExpr", fn := fun _ => fun
  | [d1, d2, d3] => { results := [.lit (.bool false)], args := [d1, d2, d3] }
  | _ => none }
def FnExactComputesExprWrongFalsely : Prop := fnExactComputesExprRow.holds Try.pinned (OpenSpec.ofChange fnExactComputesExprWrong)

/-- 'laws.FnExactTemporariesOf': WHATEVER THE INPUT: true; the input reads as it did. -/
def fnExactTemporariesOfSpec : ChangeSpec := { name := "fnExactTemporariesOf", fn := fun _ => fun
  | [d] => { results := [.lit (.bool true)], args := [d] }
  | _ => none }
def fnExactTemporariesOfRow : OpenClaim := { program := "ytdleiondfhmjdaa", sum := "32f9fe2da6e5c8472b00882aa9e449445db5b75fb42884ea4b98a56e04cd4183", func := "loop.example/g01127/laws.FnExactTemporariesOf", spec := "fnExactTemporariesOf", apart := false }
def FnExactTemporariesOfSaid : Prop := fnExactTemporariesOfRow.holds Try.pinned (OpenSpec.ofChange fnExactTemporariesOfSpec)

/-- ITS FALSE NEIGHBOUR: 'it returns false'. Refute it at one input. -/
def fnExactTemporariesOfWrong : ChangeSpec := { name := "fnExactTemporariesOf", fn := fun _ => fun
  | [d] => { results := [.lit (.bool false)], args := [d] }
  | _ => none }
def FnExactTemporariesOfWrongFalsely : Prop := fnExactTemporariesOfRow.holds Try.pinned (OpenSpec.ofChange fnExactTemporariesOfWrong)

/- THE SECOND FORM. 'bulk': how many values and letters a reading holds, each counted each time it is reached (what is shared counts as often as it is met; a slice's spare places count too). A statement '..UptoSaid' is the law's where the arguments, and the package variables that the reading takes, are together of bulk at most 1048576: NARROWER than '..Said'. Prove '..Said' where nothing that the law and all that it calls make is longer than what came in: it says more and counts as full. Else prove '..UptoSaid'. A law counts once. -/
mutual
def uptoBulk {H : Type} : DataW H → Nat
  | .lit (.string bytes) => bytes.length + 1
  | .lit _ => 1
  | .nil => 1
  | .ptr d => uptoBulk d + 1
  | .slice elems spare => uptoBulkAll elems + uptoBulkAll spare + 1
  | .agg parts => uptoBulkAll parts + 1
  | .iface _ d => uptoBulk d + 1
  | .map entries => uptoBulkEntries entries + 1
  | .held _ => 1
def uptoBulkAll {H : Type} : List (DataW H) → Nat
  | [] => 0
  | d :: r => uptoBulk d + uptoBulkAll r
def uptoBulkEntries {H : Type} : List (Lit × DataW H) → Nat
  | [] => 0
  | x :: r => uptoBulkEntry x + uptoBulkEntries r
def uptoBulkEntry {H : Type} : Lit × DataW H → Nat
  | (.string bytes, d) => bytes.length + uptoBulk d + 1
  | (_, d) => uptoBulk d + 1
 end
def uptoSmall : (H : Type) → List (DataW H) → Bool := fun _ ds => decide (uptoBulkAll ds ≤ 1048576)
def OpenSpec.upto (s : _root_.Go.ChangeSpec) : _root_.Go.OpenSpec := { _root_.Go.OpenSpec.ofChange s with cond := some uptoSmall }

/-- 'laws.FnExactTraceOf', WHERE WHAT IT READS IS OF BULK AT MOST 1048576: true; the input reads as it did. -/
def fnExactTraceOfUptoRow : OpenClaim := { program := "ytdleiondfhmjdaa", sum := "32f9fe2da6e5c8472b00882aa9e449445db5b75fb42884ea4b98a56e04cd4183", func := "loop.example/g01127/laws.FnExactTraceOf", spec := "fnExactTraceOf", unfollowed := true, recurses := true, apart := false, narrowed := true }
def FnExactTraceOfUptoSaid : Prop := fnExactTraceOfUptoRow.holds Try.pinned (OpenSpec.upto fnExactTraceOfSpec)

/-- 'laws.FnExactTileParts', WHERE WHAT IT READS IS OF BULK AT MOST 1048576: true; the input reads as it did. -/
def fnExactTilePartsUptoRow : OpenClaim := { program := "ytdleiondfhmjdaa", sum := "32f9fe2da6e5c8472b00882aa9e449445db5b75fb42884ea4b98a56e04cd4183", func := "loop.example/g01127/laws.FnExactTileParts", spec := "fnExactTileParts", apart := false, narrowed := true }
def FnExactTilePartsUptoSaid : Prop := fnExactTilePartsUptoRow.holds Try.pinned (OpenSpec.upto fnExactTilePartsSpec)

/-- 'laws.FnExactTileInner', WHERE WHAT IT READS IS OF BULK AT MOST 1048576: true; the input reads as it did. -/
def fnExactTileInnerUptoRow : OpenClaim := { program := "ytdleiondfhmjdaa", sum := "32f9fe2da6e5c8472b00882aa9e449445db5b75fb42884ea4b98a56e04cd4183", func := "loop.example/g01127/laws.FnExactTileInner", spec := "fnExactTileInner", apart := false, narrowed := true }
def FnExactTileInnerUptoSaid : Prop := fnExactTileInnerUptoRow.holds Try.pinned (OpenSpec.upto fnExactTileInnerSpec)

/-- 'laws.FnExactTileCost', WHERE WHAT IT READS IS OF BULK AT MOST 1048576: true; the input reads as it did. -/
def fnExactTileCostUptoRow : OpenClaim := { program := "ytdleiondfhmjdaa", sum := "32f9fe2da6e5c8472b00882aa9e449445db5b75fb42884ea4b98a56e04cd4183", func := "loop.example/g01127/laws.FnExactTileCost", spec := "fnExactTileCost", apart := false, narrowed := true }
def FnExactTileCostUptoSaid : Prop := fnExactTileCostUptoRow.holds Try.pinned (OpenSpec.upto fnExactTileCostSpec)

/-- 'laws.FnExactTilesAt', WHERE WHAT IT READS IS OF BULK AT MOST 1048576: true; the input reads as it did. -/
def fnExactTilesAtUptoRow : OpenClaim := { program := "ytdleiondfhmjdaa", sum := "32f9fe2da6e5c8472b00882aa9e449445db5b75fb42884ea4b98a56e04cd4183", func := "loop.example/g01127/laws.FnExactTilesAt", spec := "fnExactTilesAt", apart := false, narrowed := true }
def FnExactTilesAtUptoSaid : Prop := fnExactTilesAtUptoRow.holds Try.pinned (OpenSpec.upto fnExactTilesAtSpec)

/-- 'laws.FnExactIsCover', WHERE WHAT IT READS IS OF BULK AT MOST 1048576: true; the input reads as it did. -/
def fnExactIsCoverUptoRow : OpenClaim := { program := "ytdleiondfhmjdaa", sum := "32f9fe2da6e5c8472b00882aa9e449445db5b75fb42884ea4b98a56e04cd4183", func := "loop.example/g01127/laws.FnExactIsCover", spec := "fnExactIsCover", unfollowed := true, recurses := true, apart := false, narrowed := true }
def FnExactIsCoverUptoSaid : Prop := fnExactIsCoverUptoRow.holds Try.pinned (OpenSpec.upto fnExactIsCoverSpec)

/-- 'laws.FnExactCoverCost', WHERE WHAT IT READS IS OF BULK AT MOST 1048576: true; the input reads as it did. -/
def fnExactCoverCostUptoRow : OpenClaim := { program := "ytdleiondfhmjdaa", sum := "32f9fe2da6e5c8472b00882aa9e449445db5b75fb42884ea4b98a56e04cd4183", func := "loop.example/g01127/laws.FnExactCoverCost", spec := "fnExactCoverCost", unfollowed := true, recurses := true, apart := false, narrowed := true }
def FnExactCoverCostUptoSaid : Prop := fnExactCoverCostUptoRow.holds Try.pinned (OpenSpec.upto fnExactCoverCostSpec)

/-- 'laws.FnExactPricesOf', WHERE WHAT IT READS IS OF BULK AT MOST 1048576: true; the input reads as it did. -/
def fnExactPricesOfUptoRow : OpenClaim := { program := "ytdleiondfhmjdaa", sum := "32f9fe2da6e5c8472b00882aa9e449445db5b75fb42884ea4b98a56e04cd4183", func := "loop.example/g01127/laws.FnExactPricesOf", spec := "fnExactPricesOf", apart := false, narrowed := true }
def FnExactPricesOfUptoSaid : Prop := fnExactPricesOfUptoRow.holds Try.pinned (OpenSpec.upto fnExactPricesOfSpec)

/-- 'laws.FnExactCountCovers', WHERE WHAT IT READS IS OF BULK AT MOST 1048576: true; the input reads as it did. -/
def fnExactCountCoversUptoRow : OpenClaim := { program := "ytdleiondfhmjdaa", sum := "32f9fe2da6e5c8472b00882aa9e449445db5b75fb42884ea4b98a56e04cd4183", func := "loop.example/g01127/laws.FnExactCountCovers", spec := "fnExactCountCovers", apart := false, narrowed := true }
def FnExactCountCoversUptoSaid : Prop := fnExactCountCoversUptoRow.holds Try.pinned (OpenSpec.upto fnExactCountCoversSpec)

/-- 'laws.FnExactTileUses', WHERE WHAT IT READS IS OF BULK AT MOST 1048576: true; the input reads as it did. -/
def fnExactTileUsesUptoRow : OpenClaim := { program := "ytdleiondfhmjdaa", sum := "32f9fe2da6e5c8472b00882aa9e449445db5b75fb42884ea4b98a56e04cd4183", func := "loop.example/g01127/laws.FnExactTileUses", spec := "fnExactTileUses", unfollowed := true, recurses := true, apart := false, narrowed := true }
def FnExactTileUsesUptoSaid : Prop := fnExactTileUsesUptoRow.holds Try.pinned (OpenSpec.upto fnExactTileUsesSpec)

/-- 'laws.FnExactDifferenceOf', WHERE WHAT IT READS IS OF BULK AT MOST 1048576: true; the input reads as it did. -/
def fnExactDifferenceOfUptoRow : OpenClaim := { program := "ytdleiondfhmjdaa", sum := "32f9fe2da6e5c8472b00882aa9e449445db5b75fb42884ea4b98a56e04cd4183", func := "loop.example/g01127/laws.FnExactDifferenceOf", spec := "fnExactDifferenceOf", unfollowed := true, recurses := true, apart := false, narrowed := true }
def FnExactDifferenceOfUptoSaid : Prop := fnExactDifferenceOfUptoRow.holds Try.pinned (OpenSpec.upto fnExactDifferenceOfSpec)

/-- 'laws.FnExactComputesExpr', WHERE WHAT IT READS IS OF BULK AT MOST 1048576: true; the input reads as it did. -/
def fnExactComputesExprUptoRow : OpenClaim := { program := "ytdleiondfhmjdaa", sum := "32f9fe2da6e5c8472b00882aa9e449445db5b75fb42884ea4b98a56e04cd4183", func := "loop.example/g01127/laws.FnExactComputesExpr", spec := "fnExactComputesExpr", unfollowed := true, recurses := true, apart := false, narrowed := true }
def FnExactComputesExprUptoSaid : Prop := fnExactComputesExprUptoRow.holds Try.pinned (OpenSpec.upto fnExactComputesExprSpec)

/-- 'laws.FnExactTemporariesOf', WHERE WHAT IT READS IS OF BULK AT MOST 1048576: true; the input reads as it did. -/
def fnExactTemporariesOfUptoRow : OpenClaim := { program := "ytdleiondfhmjdaa", sum := "32f9fe2da6e5c8472b00882aa9e449445db5b75fb42884ea4b98a56e04cd4183", func := "loop.example/g01127/laws.FnExactTemporariesOf", spec := "fnExactTemporariesOf", apart := false, narrowed := true }
def FnExactTemporariesOfUptoSaid : Prop := fnExactTemporariesOfUptoRow.holds Try.pinned (OpenSpec.upto fnExactTemporariesOfSpec)

end Rows
end Go.Proofs.Ytdleiondfhmjdaa
