import Derived.Test.YtpcdmjlooeljkaaTC
import Derived.Test.YtpcdmjlooeljkaaLawT
namespace Go.Proofs.Ytpcdmjlooeljkaa
open Go.RowKit
theorem sTableOf_k (L B : Nat) (A : Option Addr) (c : Nat) (es : List Nd) (w : World) (hl : es.length ≤ 1048576) (hes : RS Nd.enc 4 w L B A es) (hB : B ≤ w.heap.size) :
    Calls Try.prog 22 #[.slice A es.length c] w (ResTableOf (tabR es) (good es) w) := sTableOf_any L B A c es w hl hes.ns hB
theorem iTableOf_k (L B : Nat) (A : Option Addr) (c : Nat) (es : List Nd) (w : World) (hl : es.length ≤ 1048576) (hes : RS Nd.enc 4 w L B A es) (hB : B ≤ w.heap.size) :
    Calls Try.prog 23 #[.slice A es.length c] w (ResTableOf (tabR es) (good es) w) := iTableOf_any L B A c es w hl hes.ns hB
end Go.Proofs.Ytpcdmjlooeljkaa
