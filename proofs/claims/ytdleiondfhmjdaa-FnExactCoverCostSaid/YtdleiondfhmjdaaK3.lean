import Derived.Test.YtdleiondfhmjdaaK2
import Derived.Test.YtdleiondfhmjdaaZ7
import Derived.WalkKit
import Derived.WalkSpells
import Derived.WalkLawsBesides
import Derived.Lib.Hide
namespace Go.Proofs.Ytdleiondfhmjdaa
open Go.RowKit
set_option linter.unusedVariables false

def valsOk (es : List Nd) (x0 x1 : Int) : Bool := good es && isW x0 && isW x1
def valsR (es : List Nd) (x0 x1 : Int) : List Int := if valsOk es x0 x1 = true then vals es x0 x1 else []
def evalR (es : List Nd) (x0 x1 : Int) : Int := if valsOk es x0 x1 = true then (vals es x0 x1).getD (es.length - 1) 0 else 0
theorem vals_len (es : List Nd) (x0 x1 : Int) : (vals es x0 x1).length = es.length := valsAt_len _ _ _ _
theorem valsR_len (es : List Nd) (x0 x1 : Int) : (valsR es x0 x1).length ≤ 1048576 := by
  unfold valsR
  cases h : valsOk es x0 x1
  · simp
  · have h1 : good es = true := by simp [valsOk] at h; exact h.1.1
    have := good_len h1; simp [vals_len]; omega
theorem valsOk_parts {es : List Nd} {x0 x1 : Int} (h : valsOk es x0 x1 = true) : good es = true ∧ isW x0 = true ∧ isW x1 = true := by
  simp [valsOk] at h; exact ⟨h.1.1, h.1.2, h.2⟩

theorem fillValues_eq (L B : Nat) (A : Option Addr) (c m cg : Nat) (es : List Nd) (g : Nat) (xs : List Int) (x0 x1 : Int) (w : World) (hm : m = xs.length) (hl : es.length ≤ 24) (hes : NS w L B A es) (hB : B ≤ g) (hxl : xs.length = es.length) (hib : IB w g 3 xs) (hW : AllW xs) (hok : okFrom es 0 = true) (h0 : 0 ≤ x0 ∧ x0 ≤ 63) (h1 : 0 ≤ x1 ∧ x1 ≤ 63) :
    Calls Try.prog 160 #[.slice (some ⟨g, 0, none⟩) m cg, .slice A es.length c, .int .i64 0, .int .i64 x0, .int .i64 x1] w (FilledIs w g (vals es x0 x1)) := by
  subst hm
  have := fillValues_any L B A c cg es g xs 0 x0 x1 w hl hes hB hxl hib hW (Nat.zero_le _) hok h0 h1
  rwa [Nat.sub_zero, fillG_vals hxl hok] at this

end Go.Proofs.Ytdleiondfhmjdaa
