import Derived.Test.YtpcdmjlooeljkaaK4
import Derived.Test.YtpcdmjlooeljkaaLawY
namespace Go.Proofs.Ytpcdmjlooeljkaa
open Go.RowKit
theorem sEvalExpr_k (L B : Nat) (A : Option Addr) (c : Nat) (es : List Nd) (x0 x1 : Int) (w : World) (hl : es.length ≤ 1048576) (hes : RS Nd.enc 4 w L B A es) (hB : B ≤ w.heap.size) :
    Calls Try.prog 12 #[.slice A es.length c, .int .i64 x0, .int .i64 x1] w (ResEvalExpr (evalR es x0 x1) (valsOk es x0 x1) w) := sEvalExpr_any L B A c es x0 x1 w hl hes.ns hB
theorem iEvalExpr_k (L B : Nat) (A : Option Addr) (c : Nat) (es : List Nd) (x0 x1 : Int) (w : World) (hl : es.length ≤ 1048576) (hes : RS Nd.enc 4 w L B A es) (hB : B ≤ w.heap.size) :
    Calls Try.prog 14 #[.slice A es.length c, .int .i64 x0, .int .i64 x1] w (ResEvalExpr (evalR es x0 x1) (valsOk es x0 x1) w) := iEvalExpr_any L B A c es x0 x1 w hl hes.ns hB
theorem sValuesOf_k (L B : Nat) (A : Option Addr) (c : Nat) (es : List Nd) (x0 x1 : Int) (w : World) (hl : es.length ≤ 1048576) (hes : RS Nd.enc 4 w L B A es) (hB : B ≤ w.heap.size) :
    Calls Try.prog 16 #[.slice A es.length c, .int .i64 x0, .int .i64 x1] w (ResValuesOf (valsR es x0 x1) (valsOk es x0 x1) w) := sValuesOf_any L B A c es x0 x1 w hl hes.ns hB
theorem iValuesOf_k (L B : Nat) (A : Option Addr) (c : Nat) (es : List Nd) (x0 x1 : Int) (w : World) (hl : es.length ≤ 1048576) (hes : RS Nd.enc 4 w L B A es) (hB : B ≤ w.heap.size) :
    Calls Try.prog 17 #[.slice A es.length c, .int .i64 x0, .int .i64 x1] w (ResValuesOf (valsR es x0 x1) (valsOk es x0 x1) w) := iValuesOf_any L B A c es x0 x1 w hl hes.ns hB
end Go.Proofs.Ytpcdmjlooeljkaa
