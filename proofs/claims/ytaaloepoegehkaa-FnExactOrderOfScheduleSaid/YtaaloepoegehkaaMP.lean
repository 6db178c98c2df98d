import Derived.Test.YtaaloepoegehkaaV2
/- A number put into an increasing list. No program. -/
namespace Go.Proofs.Ytaaloepoegehkaa
open Go.RowKit
set_option linter.unusedVariables false
def put (l : List Int) (n : Int) : List Int :=
  if (l.dropWhile fun x => decide (x < n)).head? = some n then l else (l.takeWhile fun x => decide (x < n)) ++ n :: l.dropWhile fun x => decide (x < n)
theorem while_of (n : Int) : ∀ (xs : List Int) (k : Nat), k ≤ xs.length → (∀ x ∈ xs.take k, x < n) → (∀ (h : k < xs.length), ¬ xs[k] < n) →
    xs.takeWhile (fun x => decide (x < n)) = xs.take k ∧ xs.dropWhile (fun x => decide (x < n)) = xs.drop k := by
  intro xs
  induction xs with
  | nil => intro k _ _ _; simp
  | cons a l ih =>
    intro k hk ha he
    cases k with
    | zero =>
      have := he (by simp)
      simp only [List.getElem_cons_zero] at this
      simp [this]
    | succ k =>
      have h1 : a < n := ha a (by simp)
      have h2 := ih k (by simpa using hk) (fun x hx => ha x (by simp [hx])) (fun h => by have := he (by simpa using h); simpa using this)
      simp [h1, h2]
theorem put_at {n : Int} {xs : List Int} {k : Nat} (hk : k ≤ xs.length) (ha : ∀ x ∈ xs.take k, x < n) (he : ∀ (h : k < xs.length), ¬ xs[k] < n) :
    put xs n = if (xs.drop k).head? = some n then xs else xs.take k ++ n :: xs.drop k := by
  obtain ⟨h1, h2⟩ := while_of n xs k hk ha he
  unfold put; rw [h1, h2]
theorem put_nil (n : Int) : put [] n = [n] := by simp [put]
theorem put_len (l : List Int) (n : Int) : (put l n).length ≤ l.length + 1 := by
  unfold put; split
  · omega
  · have := congrArg List.length (List.takeWhile_append_dropWhile (p := fun x => decide (x < n)) (l := l))
    simp only [List.length_append, List.length_cons] at this ⊢; omega
end Go.Proofs.Ytaaloepoegehkaa
