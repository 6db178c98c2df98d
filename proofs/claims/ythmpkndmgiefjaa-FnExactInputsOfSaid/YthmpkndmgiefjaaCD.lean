import Derived.Test.YthmpkndmgiefjaaCB
import Derived.Test.YthmpkndmgiefjaaCC
import Derived.Test.YthmpkndmgiefjaaKMInstr
import Derived.WalkKit
import Derived.WalkSpells
import Derived.WalkLawsBesides
import Derived.Lib.Hide
namespace Go.Proofs.Ythmpkndmgiefjaa
open Go.RowKit
set_option linter.unusedVariables false

theorem In.old {w w2 : World} {t : TypeId} {x : In} {g : Nat} (hg : w.heap.size = g) (h : Below (w.alloc (.cells #[.string x.op, .int .i64 x.d, .int .i64 x.a, .int .i64 x.b, .int .i64 x.m] t)).heap.size (w.alloc (.cells #[.string x.op, .int .i64 x.d, .int .i64 x.a, .int .i64 x.b, .int .i64 x.m] t)) w2) :
    w2.cell? ⟨g, 0, none⟩ = some (.string x.op) ∧ w2.cell? ⟨g, 1, none⟩ = some (.int .i64 x.d) ∧ w2.cell? ⟨g, 2, none⟩ = some (.int .i64 x.a) ∧ w2.cell? ⟨g, 3, none⟩ = some (.int .i64 x.b) ∧ w2.cell? ⟨g, 4, none⟩ = some (.int .i64 x.m) := by
  subst hg
  exact In.box (RS.below (In.boxed x) h (by simp))
end Go.Proofs.Ythmpkndmgiefjaa
