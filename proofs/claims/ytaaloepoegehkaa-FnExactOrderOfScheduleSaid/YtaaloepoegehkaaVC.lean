import Derived.Test.YtaaloepoegehkaaV
/- An own slice's length is within its capacity. -/
namespace Go.Proofs.Ytaaloepoegehkaa
open Go.RowKit
theorem OK.cap {α : Type} {enc : α → List Value} {k : Nat} {t : TypeId} {w : World} {lo hi n c : Nat} {A : Option Addr} {xs : List α} (h : OK enc k t w lo hi (.slice A n c) xs) : n ≤ c := by
  rcases h.1.2 with ⟨hv, _⟩ | ⟨g, cap, cur, hv, _, _, h1, _⟩
  · injection hv with _ h2 h3; omega
  · injection hv with _ h2 h3; omega
end Go.Proofs.Ytaaloepoegehkaa
