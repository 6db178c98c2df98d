import Derived.Test.YtaaloepoegehkaaCV
import Derived.Test.YtaaloepoegehkaaMV
import Derived.WalkKit
import Derived.WalkSpells
import Derived.WalkLawsBesides
import Derived.Lib.Hide
namespace Go.Proofs.Ytaaloepoegehkaa
open Go.RowKit
set_option linter.unusedVariables false
set_option maxRecDepth 100000
theorem op_shr : isOp ⟨#[115,104,114]⟩ = true := by decide +kernel
theorem op_and : isOp ⟨#[97,110,100]⟩ = true := by decide +kernel
theorem op_add : isOp ⟨#[97,100,100]⟩ = true := by decide +kernel
theorem op_shl : isOp ⟨#[115,104,108]⟩ = true := by decide +kernel
theorem op_xor : isOp ⟨#[120,111,114]⟩ = true := by decide +kernel

theorem trim_addi (w : World) : Calls Try.prog 215 #[.string ⟨#[97,100,100,105]⟩, .string ⟨#[105]⟩] w fun e w' => e = .returned (.string ⟨#[97,100,100]⟩) ∧ w = w' := by
  have hq1 : ((⟨#[97,100,100,105]⟩ : ByteArray).extract 3 4).toList = [105] := by decide +kernel
  have hq2 : (⟨#[97,100,100,105]⟩ : ByteArray).extract 0 3 = ⟨#[97,100,100]⟩ := by decide +kernel
  go_enter Try.func215, Try.ntmps215
  go_wp2
  go_ret
  exact ⟨rfl, rfl⟩

theorem trim_andi (w : World) : Calls Try.prog 215 #[.string ⟨#[97,110,100,105]⟩, .string ⟨#[105]⟩] w fun e w' => e = .returned (.string ⟨#[97,110,100]⟩) ∧ w = w' := by
  have hq1 : ((⟨#[97,110,100,105]⟩ : ByteArray).extract 3 4).toList = [105] := by decide +kernel
  have hq2 : (⟨#[97,110,100,105]⟩ : ByteArray).extract 0 3 = ⟨#[97,110,100]⟩ := by decide +kernel
  go_enter Try.func215, Try.ntmps215
  go_wp2
  go_ret
  exact ⟨rfl, rfl⟩

theorem trim_xori (w : World) : Calls Try.prog 215 #[.string ⟨#[120,111,114,105]⟩, .string ⟨#[105]⟩] w fun e w' => e = .returned (.string ⟨#[120,111,114]⟩) ∧ w = w' := by
  have hq1 : ((⟨#[120,111,114,105]⟩ : ByteArray).extract 3 4).toList = [105] := by decide +kernel
  have hq2 : (⟨#[120,111,114,105]⟩ : ByteArray).extract 0 3 = ⟨#[120,111,114]⟩ := by decide +kernel
  go_enter Try.func215, Try.ntmps215
  go_wp2
  go_ret
  exact ⟨rfl, rfl⟩

theorem trim_shli (w : World) : Calls Try.prog 215 #[.string ⟨#[115,104,108,105]⟩, .string ⟨#[105]⟩] w fun e w' => e = .returned (.string ⟨#[115,104,108]⟩) ∧ w = w' := by
  have hq1 : ((⟨#[115,104,108,105]⟩ : ByteArray).extract 3 4).toList = [105] := by decide +kernel
  have hq2 : (⟨#[115,104,108,105]⟩ : ByteArray).extract 0 3 = ⟨#[115,104,108]⟩ := by decide +kernel
  go_enter Try.func215, Try.ntmps215
  go_wp2
  go_ret
  exact ⟨rfl, rfl⟩

theorem trim_shri (w : World) : Calls Try.prog 215 #[.string ⟨#[115,104,114,105]⟩, .string ⟨#[105]⟩] w fun e w' => e = .returned (.string ⟨#[115,104,114]⟩) ∧ w = w' := by
  have hq1 : ((⟨#[115,104,114,105]⟩ : ByteArray).extract 3 4).toList = [105] := by decide +kernel
  have hq2 : (⟨#[115,104,114,105]⟩ : ByteArray).extract 0 3 = ⟨#[115,104,114]⟩ := by decide +kernel
  go_enter Try.func215, Try.ntmps215
  go_wp2
  go_ret
  exact ⟨rfl, rfl⟩
theorem below_drewN {B : Nat} {a w : World} (h : Below B a w) (n : Nat) : Below B a (w.drewN n) := ⟨h.os, h.tape, h.output, h.size, h.block⟩
theorem same_flip {P : Program} {f : FuncId} {args : Array Value} {w : World} {v : Value} (h : Calls P f args w fun e w' => e = .returned v ∧ w = w') : Calls P f args w fun e w' => e = .returned v ∧ w' = w :=
  h.mono fun _ _ ⟨a, b⟩ => ⟨a, b.symm⟩
end Go.Proofs.Ytaaloepoegehkaa

