import Derived.Test.YtpcdmjlooeljkaaV3
import Derived.Test.YtpcdmjlooeljkaaCA
import Derived.Test.YtpcdmjlooeljkaaLI
import Derived.WalkKit
import Derived.WalkSpells
import Derived.WalkLawsBesides
import Derived.Lib.Hide
namespace Go.Proofs.Ytpcdmjlooeljkaa
open Go.RowKit
set_option linter.unusedVariables false
set_option maxRecDepth 100000

theorem oneI (xs : List Int) : ∀ u ∈ xs.map (Value.int .i64), u.oneCell' = true := by
  intro u hu; rw [List.mem_map] at hu; obtain ⟨x, _, rfl⟩ := hu; rfl
theorem OW.ofRow {w : World} {lo : Nat} {v : Value} {n : Nat} {xs : List Int} (h : w.ownsRow lo 3 1 v n (xs.map (Value.int .i64))) (hn : n = xs.length) : OW w lo w.heap.size v xs := by
  subst hn; exact ⟨h, fun k hk => (h.lt k hk).2⟩
theorem Try.infoInt' : (Try.prog.info? 3).map (fun i => (i.zero, i.size, i.bytes)) = some (some (.int .i64 0), 1, 8) := Try.infoInt

def allIn (xs : List Int) (lo hi : Int) : Bool := xs.all fun x => inR x lo hi
theorem allIn_snoc {xs : List Int} {lo hi : Int} {k : Nat} (h : k < xs.length) : allIn (xs.take (k + 1)) lo hi = (allIn (xs.take k) lo hi && inR xs[k] lo hi) := by
  unfold allIn; rw [List.take_succ_eq_append_getElem h, List.all_append]; simp
theorem allIn_of {xs : List Int} {lo hi : Int} {k : Nat} (h : allIn (xs.take k) lo hi = false) : allIn xs lo hi = false := by
  cases hh : allIn xs lo hi
  · rfl
  · unfold allIn at *; rw [← List.take_append_drop k xs, List.all_append] at hh; simp [h] at hh
def regsOk (xs : List Int) : Bool := xs.length == 6 && allIn xs 0 63
end Go.Proofs.Ytpcdmjlooeljkaa
