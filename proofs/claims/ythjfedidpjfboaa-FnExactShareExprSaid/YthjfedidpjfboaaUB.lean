import Derived.Test.YthjfedidpjfboaaUA
import Derived.Test.YthjfedidpjfboaaTE
import Derived.Test.YthjfedidpjfboaaRE
/- ShareExpr: what it answers. No program. -/
namespace Go.Proofs.Ythjfedidpjfboaa
open Go.RowKit
set_option linter.unusedVariables false

theorem sameN_comm (x y : Nd) : sameN x y = sameN y x := by
  unfold sameN
  rw [Bool.beq_comm (a := x.op.toList), Bool.beq_comm (a := x.a), Bool.beq_comm (a := x.b), Bool.beq_comm (a := x.v)]
def nidx (xs : List Nd) (y : Nd) : Int := firstI (fun k => sameN (xs.getD k zeroNd) y) xs.length
def po1 (xs : List Nd) (y : Nd) : List Nd × Int := if 0 ≤ nidx xs y then (xs, nidx xs y) else (xs ++ [y], (xs.length : Int))
theorem po1_yes {xs : List Nd} {y : Nd} (h : 0 ≤ nidx xs y) : po1 xs y = (xs, nidx xs y) := by unfold po1; rw [if_pos h]
theorem po1_no {xs : List Nd} {y : Nd} (h : ¬ 0 ≤ nidx xs y) : po1 xs y = (xs ++ [y], (xs.length : Int)) := by unfold po1; rw [if_neg h]
theorem po1_idx (xs : List Nd) (y : Nd) : 0 ≤ (po1 xs y).2 ∧ (po1 xs y).1.length ≤ xs.length + 1 := by
  unfold po1; split
  · rename_i h; exact ⟨h, by simp⟩
  · exact ⟨by simp, by simp⟩
/-- Each node once: the nodes so far, and where each node stands, -1 for one that has not been walked. -/
def on (es : List Nd) : Nat → Nat → List Nd × List Int → (List Nd × List Int) × Int
  | 0, _, s => (s, 0)
  | F + 1, i, s => if 0 ≤ s.2.getD i 0 then (s, s.2.getD i 0) else
    (((po1 (woG (on es F) (es.getD i zeroNd) s).1.1 (woG (on es F) (es.getD i zeroNd) s).2).1, (woG (on es F) (es.getD i zeroNd) s).1.2.set i (po1 (woG (on es F) (es.getD i zeroNd) s).1.1 (woG (on es F) (es.getD i zeroNd) s).2).2), (po1 (woG (on es F) (es.getD i zeroNd) s).1.1 (woG (on es F) (es.getD i zeroNd) s).2).2)
def cntD (ds : List Int) : Nat := ds.countP fun d => decide (0 ≤ d)
theorem cntD_set {ds : List Int} {i : Nat} {x : Int} (hi : i < ds.length) (h : ds.getD i 0 < 0) (hx : 0 ≤ x) : cntD (ds.set i x) = cntD ds + 1 := by
  unfold cntD
  have h1 : ds[i] < 0 := by rw [List.getD_eq_getElem?_getD, List.getElem?_eq_getElem hi] at h; exact h
  rw [List.countP_set hi, decide_eq_false (by omega : ¬ 0 ≤ ds[i]), decide_eq_true hx]; simp
theorem cntD_lt {ds : List Int} {i : Nat} (hi : i < ds.length) (h : ds.getD i 0 < 0) : cntD ds < ds.length := by
  have h1 := cntD_set (x := 0) hi h (Int.le_refl _)
  have h2 : cntD (ds.set i 0) ≤ (ds.set i 0).length := List.countP_le_length
  rw [List.length_set] at h2; omega
def InvO (n : Nat) (s : List Nd × List Int) : Prop := s.2.length = n ∧ s.1.length ≤ cntD s.2
theorem getD_set_int {ds : List Int} {i j : Nat} (x : Int) (h : i ≠ j) : (ds.set i x).getD j 0 = ds.getD j 0 := by
  rw [List.getD_eq_getElem?_getD, List.getD_eq_getElem?_getD, List.getElem?_set_ne h]
theorem on_inv {es : List Nd} (hok : okFrom es 0 = true) : ∀ (F i : Nat) (s : List Nd × List Int), i < F → i < es.length → InvO es.length s →
    InvO es.length (on es F i s).1 ∧ (∀ j, i < j → (on es F i s).1.2.getD j 0 = s.2.getD j 0) ∧ 0 ≤ (on es F i s).2 ∧ (s.2.getD i 0 < 0 → ∀ G, F = G + 1 → InvO es.length (woG (on es G) (es.getD i zeroNd) s).1 ∧ (woG (on es G) (es.getD i zeroNd) s).1.2.getD i 0 < 0) := by
  intro F
  induction F with
  | zero => intro i s h; omega
  | succ F ih =>
    intro i s hi hie hI
    by_cases h0 : 0 ≤ s.2.getD i 0
    · have e : on es (F + 1) i s = (s, s.2.getD i 0) := by rw [on, if_pos h0]
      rw [e]
      exact ⟨hI, fun j hj => rfl, h0, fun h => absurd h0 (by omega)⟩
    · have hnd := ok_get hok hie
      have hg := getD_nd hie
      -- what the operands leave
      have key : InvO es.length (woG (on es F) (es.getD i zeroNd) s).1 ∧ ∀ j, i ≤ j → (woG (on es F) (es.getD i zeroNd) s).1.2.getD j 0 = s.2.getD j 0 := by
        rw [hg]
        generalize es[i] = n at *
        unfold woG
        rcases ar_cases_nd hnd with ⟨h1, -, -, -, -⟩ | ⟨h1, -, -, ha, ha', -⟩ | ⟨h1, -, -, ha, ha', hb, hb'⟩
        · rw [if_neg (by omega), if_neg (by omega)]; exact ⟨hI, fun j _ => rfl⟩
        · rw [if_pos h1]
          obtain ⟨a1, a2, -, -⟩ := ih n.a.toNat s (by omega) (by omega) hI
          exact ⟨a1, fun j hj => a2 j (by omega)⟩
        · rw [if_neg (by omega), if_pos h1]
          obtain ⟨a1, a2, -, -⟩ := ih n.a.toNat s (by omega) (by omega) hI
          obtain ⟨b1, b2, -, -⟩ := ih n.b.toNat _ (by omega) (by omega) a1
          exact ⟨b1, fun j hj => (b2 j (by omega)).trans (a2 j (by omega))⟩
      obtain ⟨k1, k2⟩ := key
      have hneg : (woG (on es F) (es.getD i zeroNd) s).1.2.getD i 0 < 0 := by rw [k2 i (Nat.le_refl _)]; omega
      have e : on es (F + 1) i s = (((po1 (woG (on es F) (es.getD i zeroNd) s).1.1 (woG (on es F) (es.getD i zeroNd) s).2).1, (woG (on es F) (es.getD i zeroNd) s).1.2.set i (po1 (woG (on es F) (es.getD i zeroNd) s).1.1 (woG (on es F) (es.getD i zeroNd) s).2).2), (po1 (woG (on es F) (es.getD i zeroNd) s).1.1 (woG (on es F) (es.getD i zeroNd) s).2).2) := by rw [on, if_neg h0]
      rw [e]
      have hp := po1_idx (woG (on es F) (es.getD i zeroNd) s).1.1 (woG (on es F) (es.getD i zeroNd) s).2
      refine ⟨⟨?_, ?_⟩, fun j hj => ?_, hp.1, fun _ G hG => ?_⟩
      · simp only [List.length_set]; exact k1.1
      · have h9 := cntD_set (x := (po1 (woG (on es F) (es.getD i zeroNd) s).1.1 (woG (on es F) (es.getD i zeroNd) s).2).2) (by rw [k1.1]; exact hie) hneg hp.1
        have h8 := k1.2
        have h7 := hp.2
        show (po1 _ _).1.length ≤ cntD (List.set _ _ _)
        omega
      · show (List.set _ _ _).getD j 0 = _
        rw [getD_set_int _ (by omega)]; exact k2 j (by omega)
      · have : G = F := by omega
        subst this
        exact ⟨k1, hneg⟩
def plOf (ds : List Int) : List Int := ds.map fun d => if d < 0 then 0 else d
def seenOf (ds : List Int) : List Bool := ds.map fun d => decide (0 ≤ d)
theorem plOf_set (ds : List Int) (i : Nat) {x : Int} (hx : 0 ≤ x) : (plOf ds).set i x = plOf (ds.set i x) := by
  unfold plOf; rw [List.map_set, if_neg (by omega)]
theorem seenOf_set (ds : List Int) (i : Nat) {x : Int} (hx : 0 ≤ x) : (seenOf ds).set i true = seenOf (ds.set i x) := by
  unfold seenOf; rw [List.map_set, decide_eq_true hx]
theorem plOf_get {ds : List Int} {i : Nat} (h : 0 ≤ ds.getD i 0) (hi : i < ds.length) : (plOf ds).getD i 0 = ds.getD i 0 := by
  have e : ds.getD i 0 = ds[i] := by rw [List.getD_eq_getElem?_getD, List.getElem?_eq_getElem hi]; rfl
  rw [e] at h ⊢
  unfold plOf; rw [List.getD_eq_getElem?_getD, List.getElem?_map, List.getElem?_eq_getElem hi]
  show (if ds[i] < 0 then 0 else ds[i]) = _
  rw [if_neg (by omega)]
theorem seenOf_get {ds : List Int} {i : Nat} (hi : i < ds.length) : (seenOf ds).getD i false = decide (0 ≤ ds.getD i 0) := by
  have e : ds.getD i 0 = ds[i] := by rw [List.getD_eq_getElem?_getD, List.getElem?_eq_getElem hi]; rfl
  rw [e]
  unfold seenOf; rw [List.getD_eq_getElem?_getD, List.getElem?_map, List.getElem?_eq_getElem hi]; rfl
def shareL (es : List Nd) : List Nd := (on es es.length (es.length - 1) ([], List.replicate es.length (-1))).1.1
def shareR (es : List Nd) : List Nd := if good es = true then shareL es else []
theorem inv_start (n : Nat) : InvO n ([], List.replicate n (-1)) := ⟨by simp, by simp⟩
theorem shareR_len (es : List Nd) : (shareR es).length ≤ 1048576 := by
  unfold shareR; split
  · rename_i h
    obtain ⟨h1, h24, hok⟩ := good_len h
    have h9 := (on_inv hok es.length (es.length - 1) ([], List.replicate es.length (-1)) (by omega) (by omega) (inv_start _)).1
    have h8 : cntD _ ≤ _ := List.countP_le_length (l := (on es es.length (es.length - 1) ([], List.replicate es.length (-1))).1.2)
    have := h9.1; have := h9.2
    unfold shareL; omega
  · simp
end Go.Proofs.Ythjfedidpjfboaa
