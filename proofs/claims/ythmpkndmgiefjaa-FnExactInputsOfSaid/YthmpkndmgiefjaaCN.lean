import Derived.Test.YthmpkndmgiefjaaCL
import Derived.WalkKit
import Derived.WalkSpells
import Derived.WalkLawsBesides
import Derived.Deep.RegionHeld3
import Derived.Lib.Hide
namespace Go.Proofs.Ythmpkndmgiefjaa
open Go.RowKit
set_option linter.unusedVariables false
set_option maxRecDepth 100000

/-- A new slice of six ints. -/
def Own6 (w : World) (rs : List Int) (e : Ending) (w' : World) : Prop :=
  ∃ g c, e = .returned (.slice (some ⟨g, 0, none⟩) 6 c) ∧ w.heap.size ≤ g ∧ OW w' g (g + 1) (.slice (some ⟨g, 0, none⟩) 6 c) rs ∧ Below w.heap.size w w'
theorem OW.narrow {w : World} {lo hi g n c : Nat} {xs : List Int} (h : OW w lo hi (.slice (some ⟨g, 0, none⟩) n c) xs) : OW w g (g + 1) (.slice (some ⟨g, 0, none⟩) n c) xs := by
  refine ⟨⟨h.1.1, ?_⟩, fun k hk => by cases hk; exact Nat.lt_succ_self _⟩
  rcases h.1.2 with ⟨h0, _⟩ | ⟨g', cap, cur, e, hg, hr⟩
  · cases h0
  · injection e with e1 e2 e3; injection e1 with e1; injection e1 with e1 _ _
    subst e1; subst e2; subst e3; exact .inr ⟨_, _, cur, rfl, Nat.le_refl _, hr⟩
theorem OW.lenEq {w : World} {lo hi g n c : Nat} {xs : List Int} (h : OW w lo hi (.slice (some ⟨g, 0, none⟩) n c) xs) : n = xs.length := by
  rcases h.1.2 with ⟨h0, _⟩ | ⟨g', cap, cur, e, _⟩
  · cases h0
  · injection e with _ e2 _
theorem own6_of {w w' : World} {rs : List Int} {e : Ending} (h6 : rs.length = 6) (h : FreshI w rs e w') : Own6 w rs e w' := by
  obtain ⟨A, c, he, ho, hb⟩ := h
  rcases ho.1.2 with ⟨_, h0⟩ | ⟨g, cap, cur, hv, hg, _⟩
  · omega
  · injection hv with h1 h2 h3; subst h1; subst h3
    rw [h6] at he ho
    exact ⟨g, c, he, hg, ho.narrow, hb⟩
theorem OW.at6 {w : World} {lo hi g n c : Nat} {xs : List Int} (h : OW w lo hi (.slice (some ⟨g, 0, none⟩) n c) xs) (i : Nat) (hi' : i < xs.length) : w.cell? ⟨g, i, none⟩ = some (.int .i64 (xs.getD i 0)) := by
  have := h.1.cells (g := g) rfl i (.int .i64 (xs.getD i 0)) (by rw [List.getElem?_map, List.getElem?_eq_getElem hi', List.getD_eq_getElem?_getD, List.getElem?_eq_getElem hi']; rfl)
  rwa [addr_add] at this
theorem OW.frozen6 {w : World} {lo hi g n c : Nat} {xs : List Int} (h : OW w lo hi (.slice (some ⟨g, 0, none⟩) n c) xs) (i : Nat) : w.frozen? ⟨g, i, none⟩ = false := by
  have e := h.lenEq; subst e; exact h.1.frozenAt i
theorem OW.set6 {w : World} {lo hi g n c : Nat} {xs : List Int} (h : OW w lo hi (.slice (some ⟨g, 0, none⟩) n c) xs) (i : Nat) (y : Int) : OW (w.setCell ⟨g, i, none⟩ (.int .i64 y)) lo hi (.slice (some ⟨g, 0, none⟩) n c) (xs.set i y) := by
  have e := h.lenEq; subst e
  have h1 := (h.1.stored i (.int .i64 y)).1
  refine ⟨?_, h.2⟩
  rw [List.map_set, List.length_set]; exact h1
theorem Own6.six {w : World} {lo hi g n c : Nat} {xs : List Int} (h : OW w lo hi (.slice (some ⟨g, 0, none⟩) n c) xs) (h6 : xs.length = 6) : Six w g 0 xs := fun i hi => by rw [Nat.zero_add]; exact h.at6 i (by omega)

end Go.Proofs.Ythmpkndmgiefjaa
