import Derived.Test.YthmpkndmgiefjaaCV
import Derived.Test.YthmpkndmgiefjaaMV
import Derived.WalkKit
import Derived.WalkSpells
import Derived.WalkLawsBesides
import Derived.Lib.Hide
namespace Go.Proofs.Ythmpkndmgiefjaa
open Go.RowKit
set_option linter.unusedVariables false
set_option maxRecDepth 100000
theorem op_shr : isOp ⟨#[115,104,114]⟩ = true := by decide +kernel
theorem op_and : isOp ⟨#[97,110,100]⟩ = true := by decide +kernel
theorem op_add : isOp ⟨#[97,100,100]⟩ = true := by decide +kernel
theorem op_shl : isOp ⟨#[115,104,108]⟩ = true := by decide +kernel
theorem op_xor : isOp ⟨#[120,111,114]⟩ = true := by decide +kernel

theorem below_drewN {B : Nat} {a w : World} (h : Below B a w) (n : Nat) : Below B a (w.drewN n) := ⟨h.os, h.tape, h.output, h.size, h.block⟩
theorem same_flip {P : Program} {f : FuncId} {args : Array Value} {w : World} {v : Value} (h : Calls P f args w fun e w' => e = .returned v ∧ w = w') : Calls P f args w fun e w' => e = .returned v ∧ w' = w :=
  h.mono fun _ _ ⟨a, b⟩ => ⟨a, b.symm⟩
end Go.Proofs.Ythmpkndmgiefjaa

