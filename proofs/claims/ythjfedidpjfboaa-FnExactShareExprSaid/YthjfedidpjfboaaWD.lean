import Derived.Test.YthjfedidpjfboaaWC
import Derived.Test.YthjfedidpjfboaaE
import Derived.Test.YthjfedidpjfboaaMN
import Derived.Test.YthjfedidpjfboaaKNode
import Derived.WalkKit
import Derived.WalkSpells
import Derived.WalkLawsBesides
import Derived.Deep.RegionHeld3
import Derived.Lib.Hide
/- The model's kept nodes. -/
namespace Go.Proofs.Ythjfedidpjfboaa
open Go.RowKit
set_option linter.unusedVariables false
set_option maxRecDepth 100000

theorem parts_bd {n : Nd} {k : Nat} (h : isNode n k = true) : ∀ p ∈ parts n, 0 ≤ p ∧ p ≤ (k : Int) - 1 := by
  intro p hp
  rcases ar_cases_nd h with ⟨_, h2, h3, _⟩ | ⟨_, h2, h3, h4, h5, _⟩ | ⟨_, h2, h3, h4, h5, h6, h7⟩
  · simp [parts, h2, h3] at hp
  · simp [parts, h2] at hp; subst hp; omega
  · simp [parts, h2, h3] at hp
    rcases hp with hp | hp <;> subst hp <;> omega

theorem four_one (y : Nd) : ∀ u ∈ Nd.enc y, u.oneCell' = true := by intro u hu; simp [Nd.enc] at hu; rcases hu with rfl | rfl | rfl | rfl <;> rfl
theorem four_new {w : World} {g : Nat} (y : Nd) (hg : w.heap.size = g) {t : TypeId} : ∀ j u, (Nd.enc y)[j]? = some u → (w.alloc (.cells #[.string y.op, .int .i64 y.a, .int .i64 y.b, .int .i64 y.v] t)).cell? ((⟨g, 0, none⟩ : Addr).add j) = some u := by
  subst hg
  intro j u hu
  rw [addr_add]
  have : CB t (w.alloc (.cells #[.string y.op, .int .i64 y.a, .int .i64 y.b, .int .i64 y.v] t)) w.heap.size (Nd.enc y) := heap_alloc_new w _
  rw [this.cell]; exact hu
theorem nflat_snoc (l : List Nd) (y : Nd) : (l ++ [y]).flatMap Nd.enc = l.flatMap Nd.enc ++ Nd.enc y := by simp
theorem parts_le (n : Nd) : (parts n).length ≤ 2 := by
  unfold parts
  repeat' split
  all_goals simp only [List.length_cons, List.length_nil]
  all_goals decide
theorem boolCells_set (bs : List Bool) (i : Nat) (x : Bool) : (boolCells bs).setIfInBounds i (.bool x) = boolCells (bs.set i x) := by
  apply Array.ext'; simp [boolCells, List.map_set]

end Go.Proofs.Ythjfedidpjfboaa
