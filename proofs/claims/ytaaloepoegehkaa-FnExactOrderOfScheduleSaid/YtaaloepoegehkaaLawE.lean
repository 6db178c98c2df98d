import Derived.Test.YtaaloepoegehkaaKMInstr
import Derived.Test.YtaaloepoegehkaaLawC
import Derived.WalkKit
import Derived.WalkSpells
import Derived.WalkLawsBesides
import Derived.Lib.Hide
namespace Go.Proofs.Ytaaloepoegehkaa
open Go.RowKit
set_option linter.unusedVariables false

theorem OW.cap {w : World} {lo hi n c : Nat} {A : Option Addr} {xs : List Int} (h : OW w lo hi (.slice A n c) xs) : xs.length ≤ c := by
  rcases h.1.2 with ⟨h0, h1⟩ | ⟨g, cap, cur, e, _, _, h1, _⟩
  · omega
  · injection e with _ _ e3; omega
end Go.Proofs.Ytaaloepoegehkaa
