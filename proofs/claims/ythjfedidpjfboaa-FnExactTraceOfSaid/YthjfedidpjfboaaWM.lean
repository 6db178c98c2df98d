import Derived.Test.YthjfedidpjfboaaF
import Derived.Test.YthjfedidpjfboaaJ
/- What a node needs, and nodes moved to new places. No program. -/
namespace Go.Proofs.Ythjfedidpjfboaa
open Go.RowKit
set_option linter.unusedVariables false

def setAll (ps : List Int) (b : List Bool) : List Bool := ps.foldl (fun b p => b.set p.toNat true) b
theorem setAll_len (ps : List Int) : ∀ b, (setAll ps b).length = b.length := by
  induction ps with
  | nil => intro b; rfl
  | cons a l ih => intro b; show (setAll l (b.set a.toNat true)).length = _; rw [ih, List.length_set]
theorem setAll_snoc (ps : List Int) (p : Int) (b : List Bool) : setAll (ps ++ [p]) b = (setAll ps b).set p.toNat true := by simp [setAll, List.foldl_append]
theorem getD_set_ne {b : List Bool} {i k : Nat} (x : Bool) (h : k ≠ i) : (b.set k x).getD i false = b.getD i false := by
  rw [List.getD_eq_getElem?_getD, List.getD_eq_getElem?_getD, List.getElem?_set_ne h]
theorem setAll_get {i : Nat} (ps : List Int) : ∀ b, (∀ p ∈ ps, p.toNat ≠ i) → (setAll ps b).getD i false = b.getD i false := by
  induction ps with
  | nil => intro b _; rfl
  | cons a l ih =>
    intro b h
    show (setAll l (b.set a.toNat true)).getD i false = _
    rw [ih _ (fun p hp => h p (by simp [hp])), getD_set_ne _ (h a (by simp))]
/-- Behind j parts of the node i. -/
def nstep (n : Nd) (i : Nat) (b : List Bool) (j : Nat) : List Bool := if b.getD i false = true then setAll ((parts n).take j) b else b
theorem nstep_len (n : Nd) (i : Nat) (b : List Bool) (j : Nat) : (nstep n i b j).length = b.length := by
  unfold nstep; split
  · exact setAll_len _ _
  · rfl
theorem nstep_zero (n : Nd) (i : Nat) (b : List Bool) : nstep n i b 0 = b := by unfold nstep; split <;> rfl
theorem nstep_self {n : Nd} {i : Nat} (b : List Bool) (j : Nat) (h : ∀ p ∈ parts n, 0 ≤ p ∧ p ≤ (i : Int) - 1) : (nstep n i b j).getD i false = b.getD i false := by
  unfold nstep; split
  · exact setAll_get _ _ (fun p hp => by have := h p (List.mem_of_mem_take hp); omega)
  · rfl
theorem nstep_succ {n : Nd} {i : Nat} {b : List Bool} {j : Nat} (hj : j < (parts n).length) (h : ∀ p ∈ parts n, 0 ≤ p ∧ p ≤ (i : Int) - 1) :
    (nstep n i b j).set ((parts n)[j]).toNat ((nstep n i b j).getD ((parts n)[j]).toNat false || b.getD i false) = nstep n i b (j + 1) := by
  unfold nstep
  by_cases hb : b.getD i false = true
  · rw [if_pos hb, if_pos hb, hb, Bool.or_true, List.take_succ_eq_append_getElem hj, setAll_snoc]
  · rw [if_neg hb, if_neg hb]
    have hb' : b.getD i false = false := by simpa using hb
    rw [hb', Bool.or_false]
    apply List.ext_getElem?
    intro q
    rw [List.getElem?_set]
    split
    · rename_i hq; subst hq
      split
      · rename_i hlt; rw [List.getD_eq_getElem?_getD, List.getElem?_eq_getElem hlt]; rfl
      · rename_i hge; rw [List.getElem?_eq_none (by omega)]
    · rfl
def nfull (n : Nd) (i : Nat) (b : List Bool) : List Bool := nstep n i b (parts n).length
def needFrom (es : List Nd) (root : Nat) : Nat → List Bool
  | 0 => (List.replicate (root + 1) false).set root true
  | k + 1 => nfull (es.getD (root - k) zeroNd) (root - k) (needFrom es root k)
theorem needFrom_len (es : List Nd) (root : Nat) : ∀ k, (needFrom es root k).length = root + 1 := by
  intro k
  induction k with
  | zero => simp [needFrom]
  | succ k ih => rw [needFrom, nfull, nstep_len, ih]
/-- What is needed when the nodes from q on have been seen. -/
def needTo (es : List Nd) (root q : Nat) : List Bool := needFrom es root (root + 1 - q)
def need (es : List Nd) (root : Nat) : List Bool := needTo es root 0
theorem needTo_len (es : List Nd) (root q : Nat) : (needTo es root q).length = root + 1 := needFrom_len _ _ _
theorem needTo_start (es : List Nd) (root : Nat) : needTo es root (root + 1) = (List.replicate (root + 1) false).set root true := by
  unfold needTo; rw [Nat.sub_self]; rfl
theorem needTo_step {es : List Nd} {root m : Nat} (hm : m ≤ root) (hr : root < es.length) : needTo es root m = nfull (es[m]'(by omega)) m (needTo es root (m + 1)) := by
  unfold needTo
  rw [show root + 1 - m = (root + 1 - (m + 1)) + 1 by omega, needFrom, show root - (root + 1 - (m + 1)) = m by omega, List.getD_eq_getElem?_getD, List.getElem?_eq_getElem (by omega)]
  rfl

/-- A node whose operands have new places. -/
def moved (n : Nd) (ps : List Int) : Nd := ⟨n.op, if 0 < ar n.op then ps.getD n.a.toNat 0 else 0, if 1 < ar n.op then ps.getD n.b.toNat 0 else 0, n.v⟩
def kp (es : List Nd) (nb : List Bool) (m : Nat) : Nat → List Int × List Nd
  | 0 => (zeros m, [])
  | k + 1 => if nb.getD k false = true then (((kp es nb m k).1).set k ((kp es nb m k).2.length : Int), (kp es nb m k).2 ++ [moved (es.getD k zeroNd) (kp es nb m k).1]) else kp es nb m k
def pl (es : List Nd) (nb : List Bool) (m k : Nat) : List Int := (kp es nb m k).1
def ke (es : List Nd) (nb : List Bool) (m k : Nat) : List Nd := (kp es nb m k).2
theorem pl_len (es : List Nd) (nb : List Bool) (m : Nat) : ∀ k, (pl es nb m k).length = m := by
  intro k
  induction k with
  | zero => simp [pl, kp, zeros]
  | succ k ih =>
    unfold pl kp; split
    · rw [List.length_set]; exact ih
    · exact ih
theorem ke_len (es : List Nd) (nb : List Bool) (m : Nat) : ∀ k, (ke es nb m k).length ≤ k := by
  intro k
  induction k with
  | zero => simp [ke, kp]
  | succ k ih =>
    unfold ke kp; split
    · rw [List.length_append]; simp only [List.length_cons, List.length_nil]; unfold ke at ih; omega
    · unfold ke at ih; omega
theorem kp_yes {es : List Nd} {nb : List Bool} {m k : Nat} (hk : k < es.length) (h : nb.getD k false = true) :
    pl es nb m (k + 1) = (pl es nb m k).set k ((ke es nb m k).length : Int) ∧ ke es nb m (k + 1) = ke es nb m k ++ [moved es[k] (pl es nb m k)] := by
  unfold pl ke
  rw [kp, if_pos h, List.getD_eq_getElem?_getD, List.getElem?_eq_getElem hk]
  exact ⟨rfl, rfl⟩
theorem kp_no {es : List Nd} {nb : List Bool} {m k : Nat} (h : nb.getD k false = false) : pl es nb m (k + 1) = pl es nb m k ∧ ke es nb m (k + 1) = ke es nb m k := by
  unfold pl ke
  rw [kp, if_neg (by rw [h]; decide)]
  exact ⟨rfl, rfl⟩
def keepL (es : List Nd) (root : Nat) : List Nd := ke es (need es root) (root + 1) (root + 1)
theorem getD_set_lt {ps : List Int} {i k : Nat} (x : Int) (h : i < k) : (ps.set k x).getD i 0 = ps.getD i 0 := by
  rw [List.getD_eq_getElem?_getD, List.getD_eq_getElem?_getD, List.getElem?_set_ne (by omega)]
theorem ar_cases_nd {n : Nd} {i : Int} (h : isNode n i = true) : (ar n.op = 0 ∧ isOne n.op = false ∧ isTwo n.op = false ∧ n.a = 0 ∧ n.b = 0) ∨ (ar n.op = 1 ∧ isOne n.op = true ∧ isTwo n.op = false ∧ 0 ≤ n.a ∧ n.a < i ∧ n.b = 0) ∨ (ar n.op = 2 ∧ isOne n.op = false ∧ isTwo n.op = true ∧ 0 ≤ n.a ∧ n.a < i ∧ 0 ≤ n.b ∧ n.b < i) := by
  unfold isNode at h
  unfold ar
  by_cases h1 : isIn n.op = true
  · rw [if_pos h1] at h
    simp only [Bool.and_eq_true, beq_iff_eq] at h
    have hx : n.op.toList = [105,110] := by simpa [isIn] using h1
    left; refine ⟨by simp [h1], ?_, ?_, h.1.1, h.1.2⟩ <;> simp [isOne, isTwo, twoOps, hx]
  · rw [if_neg h1] at h
    by_cases h2 : isConst n.op = true
    · rw [if_pos h2] at h
      simp only [Bool.and_eq_true, beq_iff_eq] at h
      have hx : n.op.toList = [99,111,110,115,116] := by simpa [isConst] using h2
      left; refine ⟨by simp [h2], ?_, ?_, h.1.1, h.1.2⟩ <;> simp [isOne, isTwo, twoOps, hx]
    · rw [if_neg h2] at h
      by_cases h3 : isOne n.op = true
      · rw [if_pos h3] at h
        simp only [Bool.and_eq_true, beq_iff_eq] at h
        have h4 := (inR_iff _ _ _).1 h.1.1
        have h5 : isTwo n.op = false := by
          cases h6 : isTwo n.op
          · rfl
          · have := two_not_one _ h6; rw [this] at h3; cases h3
        right; left; exact ⟨by simp [h1, h2, h3], h3, h5, h4.1, by omega, h.1.2⟩
      · rw [if_neg h3] at h
        simp only [Bool.and_eq_true, beq_iff_eq] at h
        have h4 := (inR_iff _ _ _).1 h.1.1.2
        have h5 := (inR_iff _ _ _).1 h.1.2
        right; right; exact ⟨by simp [h1, h2, h3, h.1.1.1], by simpa using h3, h.1.1.1, h4.1, by omega, h5.1, by omega⟩
theorem moved_set {n : Nd} {k : Nat} (h : isNode n k = true) (ps : List Int) (x : Int) : moved n (ps.set k x) = moved n ps := by
  unfold moved
  rcases ar_cases_nd h with ⟨h1, _, _, _, _⟩ | ⟨h1, _, _, h2, h3, _⟩ | ⟨h1, _, _, h2, h3, h4, h5⟩
  · simp [h1]
  · simp only [h1]; rw [getD_set_lt _ (by omega)]; simp
  · simp only [h1]; rw [getD_set_lt _ (by omega), getD_set_lt _ (by omega)]
end Go.Proofs.Ythjfedidpjfboaa
