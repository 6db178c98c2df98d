import Derived.Test.YtpgdccfpegdcoaaCX
import Derived.Test.YtpgdccfpegdcoaaHI
import Derived.WalkKit
import Derived.WalkSpells
import Derived.WalkLawsBesides
import Derived.Deep.RegionHeld3
import Derived.Lib.Hide
namespace Go.Proofs.Ytpgdccfpegdcoaa
open Go.RowKit
set_option linter.unusedVariables false
set_option maxRecDepth 100000

theorem l1Has_lit (L B : Nat) (A : Option Addr) (m c : Nat) (xs : List Int) (n : Int) (r : Bool) (w : World) (hr : hasI xs n = r) (hm : m = xs.length) (hl : xs.length ≤ 1000000) (hx : IS w L B A xs) :
    Calls Try.prog 93 #[.slice A m c, .int .i64 n] w fun e w' => e = .returned (.bool r) ∧ w = w' := by
  subst hr; exact l1Has_eq L B A m c xs n w hm hl hx
def readsR (x : In) : List Int := if goodIn x = true then readsL x else []
theorem readsR_len (x : In) : (readsR x).length ≤ 1048576 := by
  unfold readsR; split
  · have := readsL_len x; omega
  · simp

/-- Whether two instructions are independent. -/
def freeB (x y : In) : Bool := !(x.d == y.d) && !hasI (readsL x) y.d && !hasI (readsL y) x.d
/-- Whether x writes what y reads or writes. -/
def touchB (x y : In) : Bool := x.d == y.d || hasI (readsL y) x.d
theorem free_touch (x y : In) : freeB x y = (!touchB x y && !touchB y x) := by
  unfold freeB touchB
  have : (y.d == x.d) = (x.d == y.d) := by rw [Bool.eq_iff_iff]; simp; exact eq_comm
  rw [this]
  cases x.d == y.d <;> cases hasI (readsL x) y.d <;> cases hasI (readsL y) x.d <;> rfl
end Go.Proofs.Ytpgdccfpegdcoaa
