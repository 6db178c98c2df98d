import Derived.Test.YtieljgfocgdngaaWM
import Derived.Test.YtieljgfocgdngaaTM
/- PutInput: what it answers. No program. -/
namespace Go.Proofs.Ytieljgfocgdngaa
open Go.RowKit
set_option linter.unusedVariables false

/-- The nodes so far, and where the nodes seen stand. -/
def pst (es f : List Nd) (k : Int) : Nat → List Nd × List Int
  | 0 => (f, zeros es.length)
  | i + 1 => if isInp (es.getD i zeroNd) k = true then ((pst es f k i).1, (pst es f k i).2.set i ((f.length : Int) - 1)) else ((pst es f k i).1 ++ [moved (es.getD i zeroNd) (pst es f k i).2], (pst es f k i).2.set i ((pst es f k i).1.length : Int))
def po (es f : List Nd) (k : Int) (i : Nat) : List Nd := (pst es f k i).1
def pq (es f : List Nd) (k : Int) (i : Nat) : List Int := (pst es f k i).2
theorem po_zero (es f : List Nd) (k : Int) : po es f k 0 = f := rfl
theorem pq_zero (es f : List Nd) (k : Int) : pq es f k 0 = zeros es.length := rfl
theorem pst_yes {es f : List Nd} {k : Int} {i : Nat} (hi : i < es.length) (h : isInp es[i] k = true) : po es f k (i + 1) = po es f k i ∧ pq es f k (i + 1) = (pq es f k i).set i ((f.length : Int) - 1) := by
  have e : es.getD i zeroNd = es[i] := by rw [List.getD_eq_getElem?_getD, List.getElem?_eq_getElem hi]; rfl
  unfold po pq; rw [pst, e, if_pos h]; exact ⟨rfl, rfl⟩
theorem pst_no {es f : List Nd} {k : Int} {i : Nat} (hi : i < es.length) (h : isInp es[i] k = false) : po es f k (i + 1) = po es f k i ++ [moved es[i] (pq es f k i)] ∧ pq es f k (i + 1) = (pq es f k i).set i ((po es f k i).length : Int) := by
  have e : es.getD i zeroNd = es[i] := by rw [List.getD_eq_getElem?_getD, List.getElem?_eq_getElem hi]; rfl
  unfold po pq; rw [pst, e, if_neg (by rw [h]; decide)]; exact ⟨rfl, rfl⟩
theorem pq_len (es f : List Nd) (k : Int) : ∀ i, (pq es f k i).length = es.length := by
  intro i
  induction i with
  | zero => simp [pq, pst, zeros]
  | succ i ih =>
    unfold pq at ih ⊢; rw [pst]; split
    · simp only [List.length_set]; exact ih
    · simp only [List.length_set]; exact ih
theorem po_len (es f : List Nd) (k : Int) : ∀ i, f.length ≤ (po es f k i).length ∧ (po es f k i).length ≤ f.length + i := by
  intro i
  induction i with
  | zero => simp [po, pst]
  | succ i ih =>
    unfold po at ih ⊢; rw [pst]; split
    · exact ⟨ih.1, Nat.le_trans ih.2 (by omega)⟩
    · simp only [List.length_append, List.length_cons, List.length_nil]; omega
theorem po_mono (es f : List Nd) (k : Int) (i d : Nat) : (po es f k i).length ≤ (po es f k (i + d)).length := by
  induction d with
  | zero => exact Nat.le_refl _
  | succ d ih =>
    refine Nat.le_trans ih ?_
    rw [← Nat.add_assoc]
    unfold po; rw [pst]; split
    · exact Nat.le_refl _
    · simp
theorem po_over {es f : List Nd} {k : Int} {i : Nat} (hi : i ≤ es.length) (h : 24 < (po es f k i).length) : 24 < (po es f k es.length).length := by
  have := po_mono es f k i (es.length - i)
  rw [Nat.add_sub_cancel' hi] at this; omega
def putOk (es : List Nd) (k : Int) (f : List Nd) : Bool := good es && good f && inR k 0 1 && (!hasIn es k || decide ((po es f k es.length).length ≤ 24))
def putR (es : List Nd) (k : Int) (f : List Nd) : List Nd := if putOk es k f = true then (if hasIn es k = true then po es f k es.length else es) else []
theorem putR_no {es f : List Nd} {k : Int} (h : putOk es k f = false) : putR es k f = [] := by unfold putR; rw [h]; rfl
end Go.Proofs.Ytieljgfocgdngaa
