import Derived.Test.YthjfedidpjfboaaMI
import Derived.Test.YthjfedidpjfboaaMP
import Derived.Test.YthjfedidpjfboaaM2
import Derived.Test.YthjfedidpjfboaaWB
/- Sets of registers, and the temporaries that code writes. -/
namespace Go.Proofs.Ythjfedidpjfboaa
open Go.RowKit
set_option linter.unusedVariables false

def mkT (bs : List Bool) : List Int := ((List.range 6).filter (fun r => bs.getD r false)).map (fun n : Nat => (n : Int))
def mkTo (bs : List Bool) (k : Nat) : List Int := ((List.range k).filter (fun r => bs.getD r false)).map (fun n : Nat => (n : Int))
theorem mkTo_all (bs : List Bool) : mkTo bs 6 = mkT bs := rfl
theorem mkTo_yes {bs : List Bool} {k : Nat} (h : bs.getD k false = true) : mkTo bs (k + 1) = mkTo bs k ++ [(k : Int)] := by
  unfold mkTo; rw [List.range_succ, List.filter_append, List.map_append, List.filter_cons_of_pos (p := fun r => bs.getD r false) h]; rfl
theorem mkTo_no {bs : List Bool} {k : Nat} (h : bs.getD k false = false) : mkTo bs (k + 1) = mkTo bs k := by
  unfold mkTo; rw [List.range_succ, List.filter_append, List.map_append, List.filter_cons_of_neg (p := fun r => bs.getD r false) (by simp only [h]; decide)]; simp
theorem mkTo_len (bs : List Bool) (k : Nat) : (mkTo bs k).length ≤ k := by
  unfold mkTo; rw [List.length_map]; exact Nat.le_trans (List.length_filter_le _ _) (by simp)
def stT (bs : List Bool) (d : Int) : List Bool := bs.set d.toNat (decide (2 ≤ d))
def foT (cs : List In) : List Bool := cs.foldl (fun b x => stT b x.d) (List.replicate 6 false)
def tmR (cs : List In) : Int := if okCode cs = true then ((mkT (foT cs)).length : Int) else 0
def IsT (bs : List Bool) : Prop := ∃ b2 b3 b4 b5, bs = [false, false, b2, b3, b4, b5]
theorem step_all : ∀ (b2 b3 b4 b5 : Bool) (d : Fin 6), mkT (stT [false, false, b2, b3, b4, b5] (d.val : Int)) = (if 1 < d.val then put (mkT [false, false, b2, b3, b4, b5]) (d.val : Int) else mkT [false, false, b2, b3, b4, b5]) ∧ ((stT [false, false, b2, b3, b4, b5] (d.val : Int)).getD 0 false = false ∧ (stT [false, false, b2, b3, b4, b5] (d.val : Int)).getD 1 false = false) := by decide +kernel
theorem isT_of {bs : List Bool} (hl : bs.length = 6) (h0 : bs.getD 0 false = false) (h1 : bs.getD 1 false = false) : IsT bs := by
  match bs, hl with
  | [a, b, c, d, e, f], _ =>
    simp at h0 h1
    subst h0; subst h1
    exact ⟨c, d, e, f, rfl⟩
theorem step_T {bs : List Bool} (h : IsT bs) {d : Int} (h0 : 0 ≤ d) (h5 : d ≤ 5) : mkT (stT bs d) = (if 1 < d then put (mkT bs) d else mkT bs) ∧ IsT (stT bs d) := by
  obtain ⟨b2, b3, b4, b5, rfl⟩ := h
  obtain ⟨k, rfl⟩ := Int.eq_ofNat_of_zero_le h0
  have hk : k < 6 := by omega
  have := step_all b2 b3 b4 b5 ⟨k, hk⟩
  refine ⟨?_, isT_of (by simp [stT]) this.2.1 this.2.2⟩
  have e := this.1
  simp only at e
  rw [e]
  by_cases h1 : 1 < k
  · rw [if_pos h1, if_pos (by omega)]
  · rw [if_neg h1, if_neg (by omega)]
theorem foT_snoc {cs : List In} {k : Nat} (h : k < cs.length) : foT (cs.take (k + 1)) = stT (foT (cs.take k)) cs[k].d := by
  unfold foT; rw [List.take_succ_eq_append_getElem h, List.foldl_append]; rfl
theorem foT_is {cs : List In} (hc : ∀ x ∈ cs, goodIn x = true) (k : Nat) (hk : k ≤ cs.length) : IsT (foT (cs.take k)) := by
  induction k with
  | zero => exact ⟨false, false, false, false, rfl⟩
  | succ k ih =>
    have hl : k < cs.length := hk
    rw [foT_snoc hl]
    have hd := (good_parts (hc _ (List.getElem_mem hl))).1
    exact (step_T (ih (by omega)) hd.1 hd.2).2
theorem IsT.len {bs : List Bool} (h : IsT bs) : bs.length = 6 := by obtain ⟨_, _, _, _, rfl⟩ := h; rfl

/-- A set of registers in a box. -/
def BT (w : World) (g : Nat) (bs : List Bool) : Prop := w.heap[g]? = some (.cells (boolCells bs) 103 (0, 0))
theorem BT.lt {w : World} {g : Nat} {bs : List Bool} (h : BT w g bs) : g < w.heap.size := by
  rcases Nat.lt_or_ge g w.heap.size with hlt | hge
  · exact hlt
  · unfold BT at h; rw [Array.getElem?_eq_none hge] at h; cases h
theorem BT.cell {w : World} {g : Nat} {bs : List Bool} (h : BT w g bs) (i : Nat) (hi : i < bs.length) : w.cell? ⟨g, i, none⟩ = some (.bool (bs.getD i false)) := by
  rw [cell_of_row w g i _ 103 (0, 0) h, List.getD_eq_getElem?_getD, List.getElem?_eq_getElem hi]; simp [boolCells, hi]
theorem BT.frozen {w : World} {g : Nat} {bs : List Bool} (h : BT w g bs) (i : Nat) : w.frozen? ⟨g, i, none⟩ = false := by
  unfold BT at h; simp [World.frozen?, h]
theorem BT.set {w : World} {g : Nat} {bs : List Bool} (h : BT w g bs) (i : Nat) (x : Bool) : BT (w.setCell ⟨g, i, none⟩ (.bool x)) g (bs.set i x) := by
  unfold BT at h ⊢
  simp [World.setCell, Array.getElem?_modify, h, boolCells, List.map_set]
theorem BT.next {w w' : World} {B g : Nat} {bs : List Bool} (h : BT w g bs) (hb : Below B w w') (hB : g < B) : BT w' g bs := (hb.block g hB).trans h
end Go.Proofs.Ythjfedidpjfboaa
