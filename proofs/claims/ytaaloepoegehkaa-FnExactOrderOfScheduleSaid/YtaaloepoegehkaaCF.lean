import Derived.Test.YtaaloepoegehkaaCE
import Derived.WalkKit
import Derived.WalkSpells
import Derived.WalkLawsBesides
import Derived.Lib.Hide
namespace Go.Proofs.Ytaaloepoegehkaa
open Go.RowKit
set_option linter.unusedVariables false

def costR (x : In) : Int := if goodIn x = true then (fm x.op).c else 0
def sumR (es : List In) : Int := if okCode es = true then sumC es else 0
theorem good_ok {x : In} (h : goodIn x = true) : (fm x.op).ok = true := (good_parts h).2.2.2.1

theorem iIsInstr_any (x : In) (w : World) :
    Calls Try.prog 175 #[.agg #[.string x.op, .int .i64 x.d, .int .i64 x.a, .int .i64 x.b, .int .i64 x.m]] w (ResIsInstr (goodIn x) w) := IsInstr_any _ _ _ _ _ _
theorem iIsCode_any (L B : Nat) (A : Option Addr) (c : Nat) (es : List In) (w : World) (hl : es.length ≤ 1048576) (hes : RS In.enc 5 w L B A es) (hB : B ≤ w.heap.size) :
    Calls Try.prog 105 #[.slice A es.length c] w (ResIsCode (okCode es) w) := IsCode_any L B A c es w hl hes hB
end Go.Proofs.Ytaaloepoegehkaa
