import Derived.Test.YthjfedidpjfboaaMP
import Derived.Test.YthjfedidpjfboaaM
/- Tables and inputs. No program. -/
namespace Go.Proofs.Ythjfedidpjfboaa
open Go.RowKit
set_option linter.unusedVariables false

/-- A list of f's values at the first n inputs. -/
def tabTo (f : Int → Int → Int) (n : Nat) : List Int := (List.range n).map fun i => f ((i / 64 : Nat) : Int) ((i % 64 : Nat) : Int)
theorem tabTo_len (f : Int → Int → Int) (n : Nat) : (tabTo f n).length = n := by simp [tabTo]
theorem tabTo_succ (f : Int → Int → Int) (k j : Nat) (h : j < 64) : tabTo f (64 * k + (j + 1)) = tabTo f (64 * k + j) ++ [f k j] := by
  unfold tabTo
  rw [← Nat.add_assoc, List.range_succ, List.map_append]
  have h1 : (64 * k + j) / 64 = k := by omega
  have h2 : (64 * k + j) % 64 = j := by omega
  simp only [List.map_cons, List.map_nil, h1, h2]
theorem tabTo_next (f : Int → Int → Int) (k : Nat) : tabTo f (64 * k + 64) = tabTo f (64 * (k + 1) + 0) := by
  rw [Nat.mul_add]

def inStep (out : List Int) (n : Nd) : List Int := if isIn n.op = true then put out n.v else out
def inTo (es : List Nd) (k : Nat) : List Int := (es.take k).foldl inStep []
def isInp (n : Nd) (k : Int) : Bool := isIn n.op && n.v == k
def hasIn (es : List Nd) (k : Int) : Bool := es.any fun n => isInp n k
def twoOf (a b : Bool) : List Int := (if a = true then [0] else []) ++ (if b = true then [1] else [])
theorem inTo_succ {es : List Nd} {k : Nat} (h : k < es.length) : inTo es (k + 1) = inStep (inTo es k) es[k] := by
  unfold inTo; rw [List.take_succ_eq_append_getElem h, List.foldl_append]; rfl
theorem hasIn_snoc {es : List Nd} {k : Nat} (h : k < es.length) (q : Int) : hasIn (es.take (k + 1)) q = (hasIn (es.take k) q || isInp es[k] q) := by
  unfold hasIn; rw [List.take_succ_eq_append_getElem h, List.any_append]; simp
theorem inTo_eq {es : List Nd} (hok : ∀ k (h : k < es.length), isIn es[k].op = true → es[k].v = 0 ∨ es[k].v = 1) : ∀ k, k ≤ es.length → inTo es k = twoOf (hasIn (es.take k) 0) (hasIn (es.take k) 1) := by
  intro k
  induction k with
  | zero => intro _; rfl
  | succ k ih =>
    intro hk
    rw [inTo_succ (by omega), hasIn_snoc (by omega), hasIn_snoc (by omega), ih (by omega)]
    have hv := hok k (by omega)
    generalize es[k] = n at *
    generalize hasIn (es.take k) 0 = a
    generalize hasIn (es.take k) 1 = b
    unfold inStep isInp
    cases hn : isIn n.op
    · simp
    · rcases hv hn with h | h <;> rw [h] <;> cases a <;> cases b <;> decide
theorem twoOf_len (a b : Bool) : (twoOf a b).length ≤ 2 := by cases a <;> cases b <;> decide
end Go.Proofs.Ythjfedidpjfboaa
