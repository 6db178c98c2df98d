import Derived.Test.YthjfedidpjfboaaLawC
/- The laws of DropDead, LiveBefore, MostAlive are walked in LawC. -/
namespace Go.Proofs.Ythjfedidpjfboaa
end Go.Proofs.Ythjfedidpjfboaa
