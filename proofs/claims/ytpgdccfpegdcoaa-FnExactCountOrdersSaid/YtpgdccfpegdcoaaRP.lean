import Derived.Test.YtpgdccfpegdcoaaRO
import Derived.Test.YtpgdccfpegdcoaaLawC
import Derived.WalkKit
import Derived.WalkSpells
import Derived.WalkLawsBesides
import Derived.Lib.Hide
namespace Go.Proofs.Ytpgdccfpegdcoaa
open Go.RowKit
set_option linter.unusedVariables false
set_option maxRecDepth 100000

/-- A block of one instruction, written whole. -/
def XB (w : World) (g : Nat) (x : In) : Prop := CB 65 w g (In.enc x)
theorem XB.cells {w : World} {g : Nat} {x : In} (h : XB w g x) : w.cell? ⟨g, 0, none⟩ = some (.string x.op) ∧ w.cell? ⟨g, 1, none⟩ = some (.int .i64 x.d) ∧ w.cell? ⟨g, 2, none⟩ = some (.int .i64 x.a) ∧ w.cell? ⟨g, 3, none⟩ = some (.int .i64 x.b) ∧ w.cell? ⟨g, 4, none⟩ = some (.int .i64 x.m) := by
  refine ⟨?_, ?_, ?_, ?_, ?_⟩ <;> (rw [CB.cell h]; rfl)

theorem XB.other {w : World} {g : Nat} {x : In} (h : XB w g x) (p : Addr) (v : Value) (hp : p.block ≠ g) : XB (w.setCell p v) g x := by
  unfold XB CB at *
  rw [← h]
  simp [World.setCell, Array.getElem?_modify, hp]
theorem XB.five {w : World} {g : Nat} {x : In} (y : In) (h : XB w g x) (o : Obj) :
    XB ((((((w.setCell ⟨g, 0, none⟩ (.string y.op)).setCell ⟨g, 1, none⟩ (.int .i64 y.d)).setCell ⟨g, 2, none⟩ (.int .i64 y.a)).setCell ⟨g, 3, none⟩ (.int .i64 y.b)).setCell ⟨g, 4, none⟩ (.int .i64 y.m)).alloc o) g y := by
  have h5 : XB (((((w.setCell ⟨g, 0, none⟩ (.string y.op)).setCell ⟨g, 1, none⟩ (.int .i64 y.d)).setCell ⟨g, 2, none⟩ (.int .i64 y.a)).setCell ⟨g, 3, none⟩ (.int .i64 y.b)).setCell ⟨g, 4, none⟩ (.int .i64 y.m)) g y :=
    ((((CB.set h 0 _).set 1 _).set 2 _).set 3 _).set 4 _
  exact CB.below h5 ((Below.refl _ _).alloc (Nat.le_refl _) _) (CB.lt h5)
end Go.Proofs.Ytpgdccfpegdcoaa
