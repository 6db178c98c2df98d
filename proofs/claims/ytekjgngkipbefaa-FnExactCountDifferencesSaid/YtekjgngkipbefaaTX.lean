import Derived.Test.YtekjgngkipbefaaTS
import Derived.Test.YtekjgngkipbefaaTL
import Derived.Test.YtekjgngkipbefaaLawX
/- The contracts as the laws take them. -/
namespace Go.Proofs.Ytekjgngkipbefaa
open Go.RowKit
set_option linter.unusedVariables false

theorem sFirstDifference_k (L B : Nat) (A : Option Addr) (c : Nat) (es : List Nd) (L' B' : Nat) (A' : Option Addr) (c' : Nat) (fs : List Nd) (w : World) (hl : es.length ≤ 1048576) (hes : RS Nd.enc 4 w L B A es) (hB : B ≤ w.heap.size) (hl' : fs.length ≤ 1048576) (hfs : RS Nd.enc 4 w L' B' A' fs) (hB' : B' ≤ w.heap.size) :
    Calls Try.prog 32 #[.slice A es.length c, .slice A' fs.length c'] w (ResFirstDifference (fd0 es fs) (fd1 es fs) (fdB es fs) w) := sFirstDifference_any L B L' B' A A' c c' es fs w hl hl' hes.ns hfs.ns hB hB'
theorem iFirstDifference_k (L B : Nat) (A : Option Addr) (c : Nat) (es : List Nd) (L' B' : Nat) (A' : Option Addr) (c' : Nat) (fs : List Nd) (w : World) (hl : es.length ≤ 1048576) (hes : RS Nd.enc 4 w L B A es) (hB : B ≤ w.heap.size) (hl' : fs.length ≤ 1048576) (hfs : RS Nd.enc 4 w L' B' A' fs) (hB' : B' ≤ w.heap.size) :
    Calls Try.prog 33 #[.slice A es.length c, .slice A' fs.length c'] w (ResFirstDifference (fd0 es fs) (fd1 es fs) (fdB es fs) w) := iFirstDifference_any L B L' B' A A' c c' es fs w hl hl' hes.ns hfs.ns hB hB'
theorem sCountDifferences_k (L B : Nat) (A : Option Addr) (c : Nat) (es : List Nd) (L' B' : Nat) (A' : Option Addr) (c' : Nat) (fs : List Nd) (w : World) (hl : es.length ≤ 1048576) (hes : RS Nd.enc 4 w L B A es) (hB : B ≤ w.heap.size) (hl' : fs.length ≤ 1048576) (hfs : RS Nd.enc 4 w L' B' A' fs) (hB' : B' ≤ w.heap.size) :
    Calls Try.prog 34 #[.slice A es.length c, .slice A' fs.length c'] w (ResCountDifferences (cdR es fs) (ok2 es fs) w) := sCountDifferences_any L B L' B' A A' c c' es fs w hl hl' hes.ns hfs.ns hB hB'
theorem iCountDifferences_k (L B : Nat) (A : Option Addr) (c : Nat) (es : List Nd) (L' B' : Nat) (A' : Option Addr) (c' : Nat) (fs : List Nd) (w : World) (hl : es.length ≤ 1048576) (hes : RS Nd.enc 4 w L B A es) (hB : B ≤ w.heap.size) (hl' : fs.length ≤ 1048576) (hfs : RS Nd.enc 4 w L' B' A' fs) (hB' : B' ≤ w.heap.size) :
    Calls Try.prog 35 #[.slice A es.length c, .slice A' fs.length c'] w (ResCountDifferences (cdR es fs) (ok2 es fs) w) := iCountDifferences_any L B L' B' A A' c c' es fs w hl hl' hes.ns hfs.ns hB hB'
end Go.Proofs.Ytekjgngkipbefaa
