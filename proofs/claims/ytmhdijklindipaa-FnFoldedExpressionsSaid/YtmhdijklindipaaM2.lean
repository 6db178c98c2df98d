import Derived.Test.YtmhdijklindipaaM
namespace Go.Proofs.Ytmhdijklindipaa
open Go.RowKit
/-! ### uses -/
def bump (u : List Int) (k : Int) : List Int := u.set k.toNat (u.getD k.toNat 0 + 1)
def usesAt (es : List Nd) (k : Nat) : List Int := (es.take k).foldl (fun u n => (parts n).foldl bump u) (List.replicate es.length 0)
def uses (es : List Nd) : List Int := usesAt es es.length
def Bd (c : Int) (u : List Int) : Prop := ∀ i, 0 ≤ u.getD i 0 ∧ u.getD i 0 ≤ c
theorem length_bump (u : List Int) (k : Int) : (bump u k).length = u.length := by simp [bump]
theorem Bd.mono {c d : Int} {u : List Int} (h : Bd c u) (hd : c ≤ d) : Bd d u := fun i => by have := h i; omega
theorem Bd.bump {c : Int} {u : List Int} (h : Bd c u) (k : Int) : Bd (c + 1) (bump u k) := by
  intro i
  have h1 := h i
  have h2 := h k.toNat
  unfold Proofs.Ytmhdijklindipaa.bump
  rw [List.getD_eq_getElem?_getD, List.getElem?_set]
  rw [List.getD_eq_getElem?_getD] at h1 h2
  split
  · split
    · simp; omega
    · simp; omega
  · omega
theorem parts_len (n : Nd) : (parts n).length ≤ 2 := by unfold parts; split; · simp
                                                        split <;> simp
theorem foldl_bump_len (ps : List Int) (u : List Int) : (ps.foldl bump u).length = u.length := by
  induction ps generalizing u with
  | nil => rfl
  | cons p ps ih => rw [List.foldl_cons, ih, length_bump]
theorem foldl_bump_Bd (ps : List Int) : ∀ {c : Int} {u : List Int}, Bd c u → Bd (c + ps.length) (ps.foldl bump u) := by
  induction ps with
  | nil => intro c u h; simpa using h
  | cons p ps ih => intro c u h; rw [List.foldl_cons]; exact (ih (h.bump p)).mono (by simp; omega)
theorem usesAt_zero (es : List Nd) : usesAt es 0 = List.replicate es.length 0 := rfl
theorem usesAt_succ {es : List Nd} {k : Nat} (h : k < es.length) : usesAt es (k + 1) = (parts es[k]).foldl bump (usesAt es k) := by
  unfold usesAt; rw [List.take_succ_eq_append_getElem h, List.foldl_append]; rfl
theorem usesAt_len (es : List Nd) (k : Nat) : (usesAt es k).length = es.length := by
  induction k with
  | zero => simp [usesAt]
  | succ k ih =>
    by_cases h : k < es.length
    · rw [usesAt_succ h, foldl_bump_len, ih]
    · have : es.take (k+1) = es.take k := by rw [List.take_of_length_le (by omega), List.take_of_length_le (by omega)]
      unfold usesAt at *; rw [this]; exact ih
theorem usesAt_Bd {es : List Nd} {k : Nat} (h : k ≤ es.length) : Bd (2 * k) (usesAt es k) := by
  induction k with
  | zero => intro i; rw [usesAt_zero, List.getD_eq_getElem?_getD, List.getElem?_replicate]; split <;> simp
  | succ k ih =>
    rw [usesAt_succ (by omega)]
    have := parts_len es[k]
    exact (foldl_bump_Bd _ (ih (by omega))).mono (by omega)
end Go.Proofs.Ytmhdijklindipaa
