import Derived.Test.YtcfmfbgnfpgpgaaQE
import Derived.Test.YtcfmfbgnfpgpgaaLawX
namespace Go.Proofs.Ytcfmfbgnfpgpgaa
open Go.RowKit
theorem sAskedBits_k (L B : Nat) (A : Option Addr) (c : Nat) (es : List Nd) (k : Int) (w : World) (hl : es.length ≤ 1048576) (hes : RS Nd.enc 4 w L B A es) (hB : B ≤ w.heap.size) :
    Calls Try.prog 56 #[.slice A es.length c, .int .i64 k] w (ResAskedBits (abR es k) (abB es k) w) := sAskedBits_any L B A c es k w hl hes.ns hB
theorem iAskedBits_k (L B : Nat) (A : Option Addr) (c : Nat) (es : List Nd) (k : Int) (w : World) (hl : es.length ≤ 1048576) (hes : RS Nd.enc 4 w L B A es) (hB : B ≤ w.heap.size) :
    Calls Try.prog 57 #[.slice A es.length c, .int .i64 k] w (ResAskedBits (abR es k) (abB es k) w) := iAskedBits_any L B A c es k w hl hes.ns hB
end Go.Proofs.Ytcfmfbgnfpgpgaa
