import Derived.Test.YtcfmfbgnfpgpgaaTS
import Derived.Test.YtcfmfbgnfpgpgaaTL
import Derived.Test.YtcfmfbgnfpgpgaaLawX
/- The contracts as the laws take them. -/
namespace Go.Proofs.Ytcfmfbgnfpgpgaa
open Go.RowKit
set_option linter.unusedVariables false

theorem sAreEqual_k (L B : Nat) (A : Option Addr) (c : Nat) (es : List Nd) (L' B' : Nat) (A' : Option Addr) (c' : Nat) (fs : List Nd) (w : World) (hl : es.length ≤ 1048576) (hes : RS Nd.enc 4 w L B A es) (hB : B ≤ w.heap.size) (hl' : fs.length ≤ 1048576) (hfs : RS Nd.enc 4 w L' B' A' fs) (hB' : B' ≤ w.heap.size) :
    Calls Try.prog 20 #[.slice A es.length c, .slice A' fs.length c'] w (ResAreEqual (eqR es fs) (ok2 es fs) w) := sAreEqual_any L B L' B' A A' c c' es fs w hl hl' hes.ns hfs.ns hB hB'
theorem iAreEqual_k (L B : Nat) (A : Option Addr) (c : Nat) (es : List Nd) (L' B' : Nat) (A' : Option Addr) (c' : Nat) (fs : List Nd) (w : World) (hl : es.length ≤ 1048576) (hes : RS Nd.enc 4 w L B A es) (hB : B ≤ w.heap.size) (hl' : fs.length ≤ 1048576) (hfs : RS Nd.enc 4 w L' B' A' fs) (hB' : B' ≤ w.heap.size) :
    Calls Try.prog 22 #[.slice A es.length c, .slice A' fs.length c'] w (ResAreEqual (eqR es fs) (ok2 es fs) w) := iAreEqual_any L B L' B' A A' c c' es fs w hl hl' hes.ns hfs.ns hB hB'
theorem sFirstDifference_k (L B : Nat) (A : Option Addr) (c : Nat) (es : List Nd) (L' B' : Nat) (A' : Option Addr) (c' : Nat) (fs : List Nd) (w : World) (hl : es.length ≤ 1048576) (hes : RS Nd.enc 4 w L B A es) (hB : B ≤ w.heap.size) (hl' : fs.length ≤ 1048576) (hfs : RS Nd.enc 4 w L' B' A' fs) (hB' : B' ≤ w.heap.size) :
    Calls Try.prog 24 #[.slice A es.length c, .slice A' fs.length c'] w (ResFirstDifference (fd0 es fs) (fd1 es fs) (fdB es fs) w) := sFirstDifference_any L B L' B' A A' c c' es fs w hl hl' hes.ns hfs.ns hB hB'
theorem iFirstDifference_k (L B : Nat) (A : Option Addr) (c : Nat) (es : List Nd) (L' B' : Nat) (A' : Option Addr) (c' : Nat) (fs : List Nd) (w : World) (hl : es.length ≤ 1048576) (hes : RS Nd.enc 4 w L B A es) (hB : B ≤ w.heap.size) (hl' : fs.length ≤ 1048576) (hfs : RS Nd.enc 4 w L' B' A' fs) (hB' : B' ≤ w.heap.size) :
    Calls Try.prog 25 #[.slice A es.length c, .slice A' fs.length c'] w (ResFirstDifference (fd0 es fs) (fd1 es fs) (fdB es fs) w) := iFirstDifference_any L B L' B' A A' c c' es fs w hl hl' hes.ns hfs.ns hB hB'
theorem sCountDifferences_k (L B : Nat) (A : Option Addr) (c : Nat) (es : List Nd) (L' B' : Nat) (A' : Option Addr) (c' : Nat) (fs : List Nd) (w : World) (hl : es.length ≤ 1048576) (hes : RS Nd.enc 4 w L B A es) (hB : B ≤ w.heap.size) (hl' : fs.length ≤ 1048576) (hfs : RS Nd.enc 4 w L' B' A' fs) (hB' : B' ≤ w.heap.size) :
    Calls Try.prog 26 #[.slice A es.length c, .slice A' fs.length c'] w (ResCountDifferences (cdR es fs) (ok2 es fs) w) := sCountDifferences_any L B L' B' A A' c c' es fs w hl hl' hes.ns hfs.ns hB hB'
theorem iCountDifferences_k (L B : Nat) (A : Option Addr) (c : Nat) (es : List Nd) (L' B' : Nat) (A' : Option Addr) (c' : Nat) (fs : List Nd) (w : World) (hl : es.length ≤ 1048576) (hes : RS Nd.enc 4 w L B A es) (hB : B ≤ w.heap.size) (hl' : fs.length ≤ 1048576) (hfs : RS Nd.enc 4 w L' B' A' fs) (hB' : B' ≤ w.heap.size) :
    Calls Try.prog 27 #[.slice A es.length c, .slice A' fs.length c'] w (ResCountDifferences (cdR es fs) (ok2 es fs) w) := iCountDifferences_any L B L' B' A A' c c' es fs w hl hl' hes.ns hfs.ns hB hB'
theorem sDifferentBits_k (L B : Nat) (A : Option Addr) (c : Nat) (es : List Nd) (L' B' : Nat) (A' : Option Addr) (c' : Nat) (fs : List Nd) (w : World) (hl : es.length ≤ 1048576) (hes : RS Nd.enc 4 w L B A es) (hB : B ≤ w.heap.size) (hl' : fs.length ≤ 1048576) (hfs : RS Nd.enc 4 w L' B' A' fs) (hB' : B' ≤ w.heap.size) :
    Calls Try.prog 28 #[.slice A es.length c, .slice A' fs.length c'] w (ResDifferentBits (dbR es fs) (ok2 es fs) w) := sDifferentBits_any L B L' B' A A' c c' es fs w hl hl' hes.ns hfs.ns hB hB'
theorem iDifferentBits_k (L B : Nat) (A : Option Addr) (c : Nat) (es : List Nd) (L' B' : Nat) (A' : Option Addr) (c' : Nat) (fs : List Nd) (w : World) (hl : es.length ≤ 1048576) (hes : RS Nd.enc 4 w L B A es) (hB : B ≤ w.heap.size) (hl' : fs.length ≤ 1048576) (hfs : RS Nd.enc 4 w L' B' A' fs) (hB' : B' ≤ w.heap.size) :
    Calls Try.prog 29 #[.slice A es.length c, .slice A' fs.length c'] w (ResDifferentBits (dbR es fs) (ok2 es fs) w) := iDifferentBits_any L B L' B' A A' c c' es fs w hl hl' hes.ns hfs.ns hB hB'
theorem sEqualAt_k (L B : Nat) (A : Option Addr) (c : Nat) (es : List Nd) (L' B' : Nat) (A' : Option Addr) (c' : Nat) (fs : List Nd) (m : Int) (w : World) (hl : es.length ≤ 1048576) (hes : RS Nd.enc 4 w L B A es) (hB : B ≤ w.heap.size) (hl' : fs.length ≤ 1048576) (hfs : RS Nd.enc 4 w L' B' A' fs) (hB' : B' ≤ w.heap.size) :
    Calls Try.prog 30 #[.slice A es.length c, .slice A' fs.length c', .int .i64 m] w (ResEqualAt (eaR es fs m) (eaB es fs m) w) := sEqualAt_any L B L' B' A A' c c' es fs m w hl hl' hes.ns hfs.ns hB hB'
theorem iEqualAt_k (L B : Nat) (A : Option Addr) (c : Nat) (es : List Nd) (L' B' : Nat) (A' : Option Addr) (c' : Nat) (fs : List Nd) (m : Int) (w : World) (hl : es.length ≤ 1048576) (hes : RS Nd.enc 4 w L B A es) (hB : B ≤ w.heap.size) (hl' : fs.length ≤ 1048576) (hfs : RS Nd.enc 4 w L' B' A' fs) (hB' : B' ≤ w.heap.size) :
    Calls Try.prog 31 #[.slice A es.length c, .slice A' fs.length c', .int .i64 m] w (ResEqualAt (eaR es fs m) (eaB es fs m) w) := iEqualAt_any L B L' B' A A' c c' es fs m w hl hl' hes.ns hfs.ns hB hB'
end Go.Proofs.Ytcfmfbgnfpgpgaa
