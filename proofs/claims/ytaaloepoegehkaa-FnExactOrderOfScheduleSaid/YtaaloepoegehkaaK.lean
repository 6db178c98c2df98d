import Derived.Test.YtaaloepoegehkaaZ4
import Derived.Test.YtaaloepoegehkaaLI
import Derived.WalkKit
import Derived.WalkSpells
import Derived.WalkLawsBesides
import Derived.StillTailTactics
import Derived.Deep.QuietTactic
import Derived.BigQuiet
import Derived.Deep.RegionHeld3
import Derived.Deep.RegionLaw
import Derived.Lib.Hide
namespace Go.Proofs.Ytaaloepoegehkaa
open Go.RowKit
set_option linter.unusedVariables false

/-! ### The values of the nodes -/
def nodeVal (n : Nd) (vs : List Int) (x0 x1 : Int) : Int :=
  if isConst n.op = true then n.v else if isIn n.op = true then (if n.v = 0 then x0 else x1)
  else ap n.op (vs.getD n.a.toNat 0) (if isOne n.op = true then 0 else vs.getD n.b.toNat 0)
def valsAt (es : List Nd) (x0 x1 : Int) : Nat → List Int
  | 0 => []
  | k + 1 => valsAt es x0 x1 k ++ [nodeVal (es.getD k zeroNd) (valsAt es x0 x1 k) x0 x1]
def vals (es : List Nd) (x0 x1 : Int) : List Int := valsAt es x0 x1 es.length
theorem valsAt_len (es : List Nd) (x0 x1 : Int) (k : Nat) : (valsAt es x0 x1 k).length = k := by
  induction k with
  | zero => rfl
  | succ k ih => simp [valsAt, ih]
theorem valsAt_succ {es : List Nd} {k : Nat} (x0 x1 : Int) (h : k < es.length) : valsAt es x0 x1 (k + 1) = valsAt es x0 x1 k ++ [nodeVal es[k] (valsAt es x0 x1 k) x0 x1] := by
  rw [valsAt, List.getD_eq_getElem?_getD, List.getElem?_eq_getElem h]; rfl
theorem okFrom_get : ∀ (es : List Nd) (i : Int), okFrom es i = true → ∀ k (h : k < es.length), isNode es[k] (i + k) = true := by
  intro es
  induction es with
  | nil => intro i _ k h; simp at h
  | cons a l ih =>
    intro i h k hk
    simp only [okFrom, Bool.and_eq_true] at h
    cases k with
    | zero => simpa using h.1
    | succ k =>
      have := ih (i + 1) h.2 k (by simpa using hk)
      simp only [List.getElem_cons_succ]
      rw [show i + ((k + 1 : Nat) : Int) = i + 1 + (k : Int) by omega]; exact this
theorem ok_get {es : List Nd} (h : okFrom es 0 = true) {k : Nat} (hk : k < es.length) : isNode es[k] k = true := by
  have := okFrom_get es 0 h k hk; rwa [Int.zero_add] at this

/-- What a node at k is: five kinds. -/
theorem node_kinds {n : Nd} {i : Int} (h : isNode n i = true) :
    (n.op.toList = [99,111,110,115,116] ∧ 0 ≤ n.v ∧ n.v ≤ 63) ∨ (n.op.toList = [105,110] ∧ (n.op.toList == [99,111,110,115,116]) = false ∧ (n.v = 0 ∨ n.v = 1)) ∨
    ((n.op.toList == [99,111,110,115,116]) = false ∧ (n.op.toList == [105,110]) = false ∧ isOne n.op = true ∧ isTwo n.op = false ∧ 0 ≤ n.a ∧ n.a < i ∧ n.b = 0) ∨
    ((n.op.toList == [99,111,110,115,116]) = false ∧ (n.op.toList == [105,110]) = false ∧ isOne n.op = false ∧ isTwo n.op = true ∧ 0 ≤ n.a ∧ n.a < i ∧ 0 ≤ n.b ∧ n.b < i) := by
  unfold isNode at h
  by_cases h1 : isIn n.op = true
  · rw [if_pos h1] at h
    simp only [Bool.and_eq_true] at h
    have h3 := (inR_iff _ _ _).1 h.2
    have h1' : n.op.toList = [105,110] := by simpa [isIn] using h1
    right; left; exact ⟨h1', by rw [h1']; rfl, by omega⟩
  · rw [if_neg h1] at h
    have h1' : (n.op.toList == [105,110]) = false := by simpa [isIn] using h1
    by_cases h2 : isConst n.op = true
    · rw [if_pos h2] at h
      simp only [Bool.and_eq_true] at h
      have h3 := (isW_iff _).1 h.2
      left; exact ⟨by simpa [isConst] using h2, h3⟩
    · rw [if_neg h2] at h
      have h2' : (n.op.toList == [99,111,110,115,116]) = false := by simpa [isConst] using h2
      by_cases h3 : isOne n.op = true
      · rw [if_pos h3] at h
        simp only [Bool.and_eq_true, beq_iff_eq] at h
        have h4 := (inR_iff _ _ _).1 h.1.1
        have h5 : isTwo n.op = false := by
          cases h6 : isTwo n.op
          · rfl
          · have := two_not_one _ h6; rw [this] at h3; cases h3
        right; right; left; exact ⟨h2', h1', h3, h5, h4.1, by omega, h.1.2⟩
      · rw [if_neg h3] at h
        simp only [Bool.and_eq_true, beq_iff_eq] at h
        have h4 := (inR_iff _ _ _).1 h.1.1.2
        have h5 := (inR_iff _ _ _).1 h.1.2
        right; right; right; exact ⟨h2', h1', by simpa using h3, h.1.1.1, h4.1, by omega, h5.1, by omega⟩

def AllW (xs : List Int) : Prop := ∀ i, 0 ≤ xs.getD i 0 ∧ xs.getD i 0 ≤ 63
theorem nodeVal_bd {n : Nd} {i : Int} {vs : List Int} {x0 x1 : Int} (h : isNode n i = true) (hw : AllW vs) (h0 : 0 ≤ x0 ∧ x0 ≤ 63) (h1 : 0 ≤ x1 ∧ x1 ≤ 63) : 0 ≤ nodeVal n vs x0 x1 ∧ nodeVal n vs x0 x1 ≤ 63 := by
  have ha := hw n.a.toNat
  have hb := hw n.b.toNat
  unfold nodeVal
  rcases node_kinds h with ⟨e, k⟩ | ⟨e, e', k⟩ | ⟨e, e', k1, _⟩ | ⟨e, e', k1, _⟩
  · rw [if_pos (by simp [isConst, e])]; exact k
  · rw [if_neg (by simpa [isConst] using e'), if_pos (by simp [isIn, e])]; split <;> assumption
  · rw [if_neg (by simpa [isConst] using e), if_neg (by simpa [isIn] using e'), if_pos k1]; exact ap_bd _ _ _ ha.1 ha.2 (by omega) (by omega)
  · rw [if_neg (by simpa [isConst] using e), if_neg (by simpa [isIn] using e'), if_neg (by simp [k1])]; exact ap_bd _ _ _ ha.1 ha.2 hb.1 hb.2
theorem valsAt_W {es : List Nd} {x0 x1 : Int} (hok : okFrom es 0 = true) (h0 : 0 ≤ x0 ∧ x0 ≤ 63) (h1 : 0 ≤ x1 ∧ x1 ≤ 63) {k : Nat} (hk : k ≤ es.length) : AllW (valsAt es x0 x1 k) := by
  induction k with
  | zero => intro i; simp [valsAt]
  | succ k ih =>
    have ih' := ih (by omega)
    intro i
    rw [valsAt_succ x0 x1 (by omega), List.getD_eq_getElem?_getD]
    by_cases hi : i < k
    · rw [List.getElem?_append_left (by rw [valsAt_len]; exact hi)]
      have := ih' i; rwa [List.getD_eq_getElem?_getD] at this
    · rw [List.getElem?_append_right (by rw [valsAt_len]; omega), valsAt_len]
      by_cases hi2 : i = k
      · subst hi2; simp only [Nat.sub_self, List.getElem?_cons_zero, Option.getD_some]
        exact nodeVal_bd (ok_get hok (by omega)) ih' h0 h1
      · have : ([nodeVal es[k] (valsAt es x0 x1 k) x0 x1] : List Int)[i - k]? = none := by apply List.getElem?_eq_none; simp; omega
        rw [this]; simp
theorem IS.getD {w : World} {L B : Nat} {A : Option Addr} {xs : List Int} (h : IS w L B A xs) {q : Nat} (hq : q < xs.length) : ∃ b o, A = some ⟨b, o, none⟩ ∧ (L ≤ b ∧ b < B) ∧ w.cell? ⟨b, o + q, none⟩ = some (.int .i64 (xs.getD q 0)) := by
  obtain ⟨b, o, e, hb, hc⟩ := h (by omega)
  exact ⟨b, o, e, hb, by rw [hc q hq, List.getD_eq_getElem?_getD, List.getElem?_eq_getElem hq]; rfl⟩

def OwnIs (w : World) (xs : List Int) (e : Ending) (w' : World) : Prop := ∃ A c, e = .returned (.slice A xs.length c) ∧ OW w' w.heap.size w'.heap.size (.slice A xs.length c) xs ∧ Below w.heap.size w w'

end Go.Proofs.Ytaaloepoegehkaa
