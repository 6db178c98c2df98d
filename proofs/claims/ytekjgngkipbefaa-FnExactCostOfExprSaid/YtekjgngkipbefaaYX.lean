import Derived.Test.YtekjgngkipbefaaYA
import Derived.Test.YtekjgngkipbefaaLawZ
/- The contracts as the laws take them. -/
namespace Go.Proofs.Ytekjgngkipbefaa
open Go.RowKit
set_option linter.unusedVariables false
theorem sCostOfExpr_k (L B : Nat) (A : Option Addr) (c : Nat) (es : List Nd) (w : World) (hl : es.length ≤ 1048576) (hes : RS Nd.enc 4 w L B A es) (hB : B ≤ w.heap.size) :
    Calls Try.prog 43 #[.slice A es.length c] w (ResCostOfExpr (costR es) (good es) w) := sCostOfExpr_any L B A c es w hl hes.ns hB
theorem iCostOfExpr_k (L B : Nat) (A : Option Addr) (c : Nat) (es : List Nd) (w : World) (hl : es.length ≤ 1048576) (hes : RS Nd.enc 4 w L B A es) (hB : B ≤ w.heap.size) :
    Calls Try.prog 44 #[.slice A es.length c] w (ResCostOfExpr (costR es) (good es) w) := iCostOfExpr_any L B A c es w hl hes.ns hB
end Go.Proofs.Ytekjgngkipbefaa
