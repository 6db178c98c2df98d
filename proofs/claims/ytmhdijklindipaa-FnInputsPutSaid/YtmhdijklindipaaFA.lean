import Derived.Test.YtmhdijklindipaaZ11
import Derived.Test.YtmhdijklindipaaK2
/- Constants folded. No program. -/
namespace Go.Proofs.Ytmhdijklindipaa
open Go.RowKit
set_option linter.unusedVariables false

def constB : ByteArray := ⟨#[99, 111, 110, 115, 116]⟩
def fall (fs : List Nd) (ps : List Int) : Bool := ps.all fun p => isConst (fs.getD p.toNat zeroNd).op
def fB (fs : List Nd) (n : Nd) : Int := if 1 < (parts n).length then (fs.getD n.b.toNat zeroNd).v else 0
def fval (fs : List Nd) (n : Nd) : Int := ap n.op (fs.getD n.a.toNat zeroNd).v (fB fs n)
def fnode (fs : List Nd) (n : Nd) : Nd := if (decide (0 < (parts n).length) && fall fs (parts n)) = true then ⟨constB, 0, 0, fval fs n⟩ else n
/-- The model: each node put in its own place. -/
def fo (es : List Nd) : Nat → List Nd
  | 0 => es
  | k + 1 => (fo es k).set k (fnode (fo es k) (es.getD k zeroNd))
/-- The program: a list of its own. -/
def fp (es : List Nd) : Nat → List Nd
  | 0 => List.replicate es.length zeroNd
  | k + 1 => (fp es k).set k (fnode (fp es k) (es.getD k zeroNd))
theorem fo_len (es : List Nd) (k : Nat) : (fo es k).length = es.length := by
  induction k with
  | zero => rfl
  | succ k ih => rw [fo, List.length_set, ih]
theorem fp_len (es : List Nd) (k : Nat) : (fp es k).length = es.length := by
  induction k with
  | zero => simp [fp]
  | succ k ih => rw [fp, List.length_set, ih]
theorem fo_rest (es : List Nd) {k i : Nat} (h : k ≤ i) : (fo es k)[i]? = es[i]? := by
  induction k with
  | zero => rfl
  | succ k ih => rw [fo, List.getElem?_set_ne (by omega), ih (by omega)]
theorem fp_rest (es : List Nd) {k i : Nat} (h : k ≤ i) : (fp es k)[i]? = (List.replicate es.length zeroNd)[i]? := by
  induction k with
  | zero => rfl
  | succ k ih => rw [fp, List.getElem?_set_ne (by omega), ih (by omega)]
theorem parts_in {n : Nd} {k : Nat} (h : isNode n k = true) : ∀ p ∈ parts n, 0 ≤ p ∧ p.toNat < k := by
  intro p hp
  have := isNode_parts h p hp
  omega
theorem nd_v {n : Nd} {i : Int} (h : isNode n i = true) : 0 ≤ n.v ∧ n.v ≤ 63 := by
  unfold isNode at h
  split at h
  · simp only [Bool.and_eq_true] at h; have := (inR_iff _ _ _).1 h.2; omega
  · split at h
    · simp only [Bool.and_eq_true] at h; have := h.2; unfold isW at this; have := (inR_iff _ _ _).1 this; omega
    · split at h
      · simp only [Bool.and_eq_true, beq_iff_eq] at h; omega
      · simp only [Bool.and_eq_true, beq_iff_eq] at h; omega
theorem parts_two {n : Nd} {k : Nat} (h : isNode n k = true) : ((parts n) = [] ∧ ar n.op = 0) ∨ (parts n = [n.a] ∧ isOne n.op = true ∧ 0 ≤ n.a ∧ n.a.toNat < k ∧ n.b = 0) ∨ (parts n = [n.a, n.b] ∧ isOne n.op = false ∧ isTwo n.op = true ∧ 0 ≤ n.a ∧ n.a.toNat < k ∧ 0 ≤ n.b ∧ n.b.toNat < k) := by
  rcases ar_cases_nd h with ⟨h1, h2, h3, _⟩ | ⟨_, h2, h3, h4, h5, h6⟩ | ⟨_, h2, h3, h4, h5, h6, h7⟩
  · left; exact ⟨by simp [parts, h2, h3], h1⟩
  · right; left; exact ⟨by simp [parts, h2], h2, h4, by omega, h6⟩
  · right; right; exact ⟨by simp [parts, h2, h3], h2, h3, h4, by omega, h6, by omega⟩
theorem fnode_ext {n : Nd} {k : Nat} {fs gs : List Nd} (h : isNode n k = true) (he : ∀ i, i < k → fs[i]? = gs[i]?) : fnode fs n = fnode gs n := by
  have hd : ∀ i, i < k → fs.getD i zeroNd = gs.getD i zeroNd := fun i hi => by rw [List.getD_eq_getElem?_getD, List.getD_eq_getElem?_getD, he i hi]
  unfold fnode fall fval fB
  rcases parts_two h with ⟨h1, _⟩ | ⟨h1, _, h2, h3, _⟩ | ⟨h1, _, _, h2, h3, h4, h5⟩
  · simp [h1]
  · simp only [h1, List.all_cons, List.all_nil, List.length_cons, List.length_nil]
    rw [hd _ h3]; simp
  · simp only [h1, List.all_cons, List.all_nil, List.length_cons, List.length_nil]
    rw [hd _ h3, hd _ h5]
theorem fp_fo {es : List Nd} (hok : okFrom es 0 = true) {k : Nat} (hk : k ≤ es.length) : ∀ i, i < k → (fp es k)[i]? = (fo es k)[i]? := by
  induction k with
  | zero => intro i hi; omega
  | succ k ih =>
    intro i hi
    have ih := ih (by omega)
    have hg : es.getD k zeroNd = es[k]'(by omega) := by rw [List.getD_eq_getElem?_getD, List.getElem?_eq_getElem (by omega)]; rfl
    rw [fp, fo]
    rw [fnode_ext (k := k) (fs := fp es k) (gs := fo es k) (by rw [hg]; exact ok_get hok (by omega)) ih]
    rw [List.getElem?_set, List.getElem?_set, fp_len, fo_len]
    split
    · rfl
    · exact ih i (by omega)
theorem fp_all {es : List Nd} (hok : okFrom es 0 = true) : fp es es.length = fo es es.length := by
  apply List.ext_getElem?
  intro i
  rcases Nat.lt_or_ge i es.length with h | h
  · exact fp_fo hok (Nat.le_refl _) i h
  · rw [List.getElem?_eq_none (by rw [fp_len]; exact h), List.getElem?_eq_none (by rw [fo_len]; exact h)]
theorem okFrom_all : ∀ (es : List Nd) (i : Int), (∀ k (h : k < es.length), isNode es[k] (i + k) = true) → okFrom es i = true
  | [], _, _ => rfl
  | n :: t, i, h => by
    rw [okFrom, Bool.and_eq_true]
    refine ⟨by have := h 0 (by simp); simpa using this, okFrom_all t (i + 1) fun k hk => ?_⟩
    have := h (k + 1) (by simp; omega)
    simp only [List.getElem_cons_succ] at this
    rw [show i + 1 + (k : Int) = i + ((k + 1 : Nat) : Int) by omega]; exact this
theorem isNode_const {x : Int} (i : Int) (h0 : 0 ≤ x) (h1 : x ≤ 63) : isNode ⟨constB, 0, 0, x⟩ i = true := by
  unfold isNode
  rw [if_neg (show ¬ isIn constB = true by decide +kernel), if_pos (show isConst constB = true by decide +kernel)]
  simp [isW, h0, h1]
theorem getD_v {fs : List Nd} (h : ∀ n ∈ fs, 0 ≤ n.v ∧ n.v ≤ 63) (i : Nat) : 0 ≤ (fs.getD i zeroNd).v ∧ (fs.getD i zeroNd).v ≤ 63 := by
  rw [List.getD_eq_getElem?_getD]
  rcases Nat.lt_or_ge i fs.length with hl | hl
  · rw [List.getElem?_eq_getElem hl]; exact h _ (List.getElem_mem hl)
  · rw [List.getElem?_eq_none hl]; decide
theorem fval_bd {fs : List Nd} {n : Nd} (h : ∀ n ∈ fs, 0 ≤ n.v ∧ n.v ≤ 63) : 0 ≤ fval fs n ∧ fval fs n ≤ 63 := by
  have ha := getD_v h n.a.toNat
  have hb := getD_v h n.b.toNat
  unfold fval
  have : 0 ≤ fB fs n ∧ fB fs n ≤ 63 := by unfold fB; split <;> omega
  exact ap_bd _ _ _ ha.1 ha.2 this.1 this.2
theorem fnode_isNode {fs : List Nd} {n : Nd} {i : Int} (hn : isNode n i = true) (h : ∀ n ∈ fs, 0 ≤ n.v ∧ n.v ≤ 63) : isNode (fnode fs n) i = true := by
  unfold fnode; split
  · exact isNode_const i (fval_bd h).1 (fval_bd h).2
  · exact hn
theorem fo_ok {es : List Nd} (hok : okFrom es 0 = true) {k : Nat} (hk : k ≤ es.length) : okFrom (fo es k) 0 = true := by
  induction k with
  | zero => exact hok
  | succ k ih =>
    have ih := ih (by omega)
    have hv : ∀ n ∈ fo es k, 0 ≤ n.v ∧ n.v ≤ 63 := by
      intro n hn
      obtain ⟨j, hj, rfl⟩ := List.getElem_of_mem hn
      exact nd_v (ok_get ih hj)
    apply okFrom_all
    intro j hj
    rw [Int.zero_add]
    simp only [fo] at hj ⊢
    rw [List.getElem_set]
    split
    · rename_i e; subst e
      have hg : es.getD k zeroNd = es[k]'(by omega) := by rw [List.getD_eq_getElem?_getD, List.getElem?_eq_getElem (by omega)]; rfl
      rw [hg]; exact fnode_isNode (ok_get hok (by omega)) hv
    · exact ok_get ih (by simpa using hj)
theorem fo_v {es : List Nd} (hok : okFrom es 0 = true) {k : Nat} (hk : k ≤ es.length) : ∀ n ∈ fo es k, 0 ≤ n.v ∧ n.v ≤ 63 := by
  intro n hn
  obtain ⟨j, hj, rfl⟩ := List.getElem_of_mem hn
  exact nd_v (ok_get (fo_ok hok hk) hj)
theorem fp_v {es : List Nd} (hok : okFrom es 0 = true) {k : Nat} (hk : k ≤ es.length) : ∀ n ∈ fp es k, 0 ≤ n.v ∧ n.v ≤ 63 := by
  intro n hn
  obtain ⟨j, hj, rfl⟩ := List.getElem_of_mem hn
  rw [fp_len] at hj
  rcases Nat.lt_or_ge j k with h | h
  · have h1 := fp_fo hok hk j h
    rw [List.getElem?_eq_getElem (by rw [fp_len]; exact hj), List.getElem?_eq_getElem (by rw [fo_len]; exact hj)] at h1
    injection h1 with h1
    rw [h1]; exact fo_v hok hk _ (List.getElem_mem _)
  · have h1 := fp_rest es (i := j) h
    rw [List.getElem?_eq_getElem (by rw [fp_len]; exact hj), List.getElem?_eq_getElem (by simp; exact hj)] at h1
    injection h1 with h1
    rw [h1]; simp [zeroNd]
def foldOf (es : List Nd) : List Nd := fo es es.length
def foldR (es : List Nd) : List Nd := if good es = true then keepL (foldOf es) (es.length - 1) else []
theorem foldR_len (es : List Nd) : (foldR es).length ≤ 1048576 := by
  unfold foldR; split
  · rename_i h
    have := (good_len h).2.1
    have := ke_len (foldOf es) (need (foldOf es) (es.length - 1)) (es.length - 1 + 1) (es.length - 1 + 1)
    unfold keepL; omega
  · simp
theorem fnode_no {fs : List Nd} {n : Nd} (h : (decide (0 < (parts n).length) && fall fs (parts n)) = false) : fnode fs n = n := by unfold fnode; rw [h]; rfl
theorem fnode_yes {fs : List Nd} {n : Nd} (h : (decide (0 < (parts n).length) && fall fs (parts n)) = true) : fnode fs n = ⟨constB, 0, 0, fval fs n⟩ := by unfold fnode; rw [h]; rfl
theorem fall_take {fs : List Nd} {ps : List Int} {j : Nat} (hj : j < ps.length) : fall fs (ps.take (j + 1)) = (fall fs (ps.take j) && isConst (fs.getD (ps[j]).toNat zeroNd).op) := by
  unfold fall; rw [List.take_succ_eq_append_getElem hj, List.all_append]; simp
theorem fall_pre {fs : List Nd} {ps : List Int} {j : Nat} (h : fall fs (ps.take j) = false) : fall fs ps = false := by
  cases hx : fall fs ps
  · rfl
  · exfalso
    unfold fall at h hx
    rw [List.all_eq_true] at hx
    have : (ps.take j).all (fun p => isConst (fs.getD p.toNat zeroNd).op) = true := List.all_eq_true.2 fun p hp => hx p (List.mem_of_mem_take hp)
    rw [this] at h; cases h
end Go.Proofs.Ytmhdijklindipaa
