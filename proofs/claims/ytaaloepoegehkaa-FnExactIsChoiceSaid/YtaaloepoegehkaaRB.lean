import Derived.Test.YtaaloepoegehkaaKNode
import Derived.Test.YtaaloepoegehkaaVC
import Derived.WalkKit
import Derived.WalkSpells
import Derived.WalkLawsBesides
import Derived.Lib.Hide
/- Rules: a box of two slices and a string; what the laws do with rules. -/
namespace Go.Proofs.Ytaaloepoegehkaa
open Go.RowKit
set_option linter.unusedVariables false
set_option maxRecDepth 100000

def RX (t : TypeId) (w : World) (g : Nat) (v1 v2 : Value) (s : ByteArray) : Prop := w.heap[g]? = some (.cells #[v1, v2, .string s] t (0, 0))
theorem RX.lt {t : TypeId} {w : World} {g : Nat} {v1 v2 : Value} {s : ByteArray} (h : RX t w g v1 v2 s) : g < w.heap.size := by
  rcases Nat.lt_or_ge g w.heap.size with hlt | hge
  · exact hlt
  · unfold RX at h; rw [Array.getElem?_eq_none hge] at h; cases h
theorem RX.next {t : TypeId} {w w' : World} {g : Nat} {v1 v2 : Value} {s : ByteArray} (h : RX t w g v1 v2 s) (hb : Below w.heap.size w w') : RX t w' g v1 v2 s := (hb.block g h.lt).trans h
theorem RX.cells {t : TypeId} {w : World} {g : Nat} {v1 v2 : Value} {s : ByteArray} (h : RX t w g v1 v2 s) : w.cell? ⟨g, 0, none⟩ = some v1 ∧ w.cell? ⟨g, 1, none⟩ = some v2 ∧ w.cell? ⟨g, 2, none⟩ = some (.string s) := by
  unfold RX at h; simp [World.cell?, h]
theorem RX.fz {t : TypeId} {w : World} {g : Nat} {v1 v2 : Value} {s : ByteArray} (h : RX t w g v1 v2 s) (i : Nat) : w.frozen? ⟨g, i, none⟩ = false := by
  unfold RX at h; simp [World.frozen?, h]
theorem RX.set0 {t : TypeId} {w : World} {g : Nat} {v1 v2 : Value} {s : ByteArray} (h : RX t w g v1 v2 s) (x : Value) : RX t (w.setCell ⟨g, 0, none⟩ x) g x v2 s := by
  unfold RX at h ⊢; simp [World.setCell, Array.getElem?_modify, h]
theorem RX.set1 {t : TypeId} {w : World} {g : Nat} {v1 v2 : Value} {s : ByteArray} (h : RX t w g v1 v2 s) (x : Value) : RX t (w.setCell ⟨g, 1, none⟩ x) g v1 x s := by
  unfold RX at h ⊢; simp [World.setCell, Array.getElem?_modify, h]
theorem RX.set2 {t : TypeId} {w : World} {g : Nat} {v1 v2 : Value} {s : ByteArray} (h : RX t w g v1 v2 s) (x : ByteArray) : RX t (w.setCell ⟨g, 2, none⟩ (.string x)) g v1 v2 x := by
  unfold RX at h ⊢; simp [World.setCell, Array.getElem?_modify, h]
theorem RX.other {t : TypeId} {w : World} {g q : Nat} {v1 v2 : Value} {s : ByteArray} (h : RX t w g v1 v2 s) (j : Nat) (x : Value) (hne : q ≠ g) : RX t (w.setCell ⟨q, j, none⟩ x) g v1 v2 s :=
  (Below.heap_setCell w ⟨q, j, none⟩ x g (by simpa using fun e => hne e.symm)).trans h
theorem rx_new (t : TypeId) (w : World) (v1 v2 : Value) (s : ByteArray) : RX t (w.alloc (.cells #[v1, v2, .string s] t)) w.heap.size v1 v2 s := heap_alloc_new w _
theorem OK.far {t : TypeId} {w : World} {lo hi : Nat} {v : Value} {xs : List Nd} (h : OK Nd.enc 4 t w lo hi v xs) {p : Addr} (hp : p.block < lo ∨ hi ≤ p.block) (u : Value) : OK Nd.enc 4 t (w.setCell p u) lo hi v xs := by
  refine ⟨⟨h.1.1, ?_⟩, h.2⟩
  rcases h.1.2 with hn | ⟨g, cap, cur, rfl, hg, hh, hr⟩
  · exact .inl hn
  · have hB : g < hi := h.2 g rfl
    exact .inr ⟨g, cap, cur, rfl, hg, (Below.heap_setCell w p u g (by omega)).trans hh, hr⟩
def FreshRule (w : World) (fr to : List Nd) (s : ByteArray) (e : Ending) (w' : World) : Prop :=
  ∃ A1 c1 A2 c2, e = .returned (.agg #[.slice A1 fr.length c1, .slice A2 to.length c2, .string s]) ∧ OK Nd.enc 4 108 w' w.heap.size w'.heap.size (.slice A1 fr.length c1) fr ∧ OK Nd.enc 4 108 w' w.heap.size w'.heap.size (.slice A2 to.length c2) to ∧ Below w.heap.size w w'

end Go.Proofs.Ytaaloepoegehkaa
