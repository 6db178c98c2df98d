import Derived.Test.YthjfedidpjfboaaWM
import Derived.Test.YthjfedidpjfboaaD2
import Derived.Test.YthjfedidpjfboaaLI
import Derived.WalkKit
import Derived.WalkSpells
import Derived.WalkLawsBesides
import Derived.Lib.Hide
/- Blocks of bools, boxes of a node; a node moved. -/
namespace Go.Proofs.Ythjfedidpjfboaa
open Go.RowKit
set_option linter.unusedVariables false
set_option maxRecDepth 100000

def boolCells (bs : List Bool) : Array Value := (bs.map Value.bool).toArray
/-- A block of bools known whole. -/
def BB (w : World) (g : Nat) (bs : List Bool) : Prop := w.heap[g]? = some (.cells (boolCells bs) 4 (0, 0))
theorem BB.lt {w : World} {g : Nat} {bs : List Bool} (h : BB w g bs) : g < w.heap.size := by
  rcases Nat.lt_or_ge g w.heap.size with hlt | hge
  · exact hlt
  · unfold BB at h; rw [Array.getElem?_eq_none hge] at h; cases h
theorem BB.cell {w : World} {g : Nat} {bs : List Bool} (h : BB w g bs) (i : Nat) (hi : i < bs.length) : w.cell? ⟨g, i, none⟩ = some (.bool (bs.getD i false)) := by
  rw [cell_of_row w g i _ 4 (0, 0) h, List.getD_eq_getElem?_getD, List.getElem?_eq_getElem hi]; simp [boolCells, hi]
theorem BB.frozen {w : World} {g : Nat} {bs : List Bool} (h : BB w g bs) (i : Nat) : w.frozen? ⟨g, i, none⟩ = false := by
  unfold BB at h; simp [World.frozen?, h]
theorem BB.set {w : World} {g : Nat} {bs : List Bool} (h : BB w g bs) (i : Nat) (x : Bool) : BB (w.setCell ⟨g, i, none⟩ (.bool x)) g (bs.set i x) := by
  unfold BB at h ⊢
  simp [World.setCell, Array.getElem?_modify, h, boolCells, List.map_set]
theorem BB.next {w w' : World} {g : Nat} {bs : List Bool} (h : BB w g bs) (hb : Below w.heap.size w w') : BB w' g bs := (hb.block g h.lt).trans h
theorem BB.other {w : World} {g q : Nat} {bs : List Bool} (h : BB w g bs) (j : Nat) (x : Value) (hne : q ≠ g) : BB (w.setCell ⟨q, j, none⟩ x) g bs :=
  (Below.heap_setCell w ⟨q, j, none⟩ x g (by simpa using fun e => hne e.symm)).trans h
theorem Try.infoBool : (Try.prog.info? 4).map (fun i => (i.zero, i.size, i.bytes)) = some (some (.bool false), 1, 1) := by kernel_rfl
theorem run_make_bools (n : Nat) (hn : n ≤ 1048576) (W : World) : (Instr.makeSlice 130 (.int .i64 (n : Int)) (.int .i64 (n : Int))).run Try.prog W = .ok (.slice (some ⟨W.heap.size, 0, none⟩) n n) (W.alloc (.cells (boolCells (List.replicate n false)) 4)) := by
  obtain ⟨i0, hi, hz0, hz1, hz2⟩ := info_parts Try.infoBool
  have h := run_make (P := Try.prog) W 130 4 i0 _ Try.underlying130 hi hz0 .i64 .i64 n n (by omega) (by omega) (by rw [hz2]; omega) (by omega)
  rw [h]
  simp only [Int.toNat_natCast, hz1, Nat.mul_one]
  refine congrArg (fun c => Result.ok (Value.slice (some ⟨W.heap.size, 0, none⟩) n n) (W.alloc (.cells c 4))) ?_
  apply Array.ext'
  rw [boolCells, List.map_replicate]
  exact toList_madeCells_one _ _

/-- One node in a box. -/
def XN (w : World) (g : Nat) (n : Nd) : Prop := w.heap[g]? = some (.cells #[.string n.op, .int .i64 n.a, .int .i64 n.b, .int .i64 n.v] 79 (0, 0))
theorem XN.lt {w : World} {g : Nat} {n : Nd} (h : XN w g n) : g < w.heap.size := by
  rcases Nat.lt_or_ge g w.heap.size with hlt | hge
  · exact hlt
  · unfold XN at h; rw [Array.getElem?_eq_none hge] at h; cases h
theorem XN.next {w w' : World} {g : Nat} {n : Nd} (h : XN w g n) (hb : Below w.heap.size w w') : XN w' g n := (hb.block g h.lt).trans h
theorem XN.cells {w : World} {g : Nat} {n : Nd} (h : XN w g n) : w.cell? ⟨g, 0, none⟩ = some (.string n.op) ∧ w.cell? ⟨g, 1, none⟩ = some (.int .i64 n.a) ∧ w.cell? ⟨g, 2, none⟩ = some (.int .i64 n.b) ∧ w.cell? ⟨g, 3, none⟩ = some (.int .i64 n.v) := by
  have c := fun i => cell_of_row w g i _ 79 (0, 0) h
  exact ⟨c 0, c 1, c 2, c 3⟩
theorem XN.fz {w : World} {g : Nat} {n : Nd} (h : XN w g n) (i : Nat) : w.frozen? ⟨g, i, none⟩ = false := by
  unfold XN at h; simp [World.frozen?, h]
theorem XN.setA {w : World} {g : Nat} {n : Nd} (h : XN w g n) (x : Int) : XN (w.setCell ⟨g, 1, none⟩ (.int .i64 x)) g ⟨n.op, x, n.b, n.v⟩ := by
  unfold XN at h ⊢
  simp [World.setCell, Array.getElem?_modify, h]
theorem XN.setB {w : World} {g : Nat} {n : Nd} (h : XN w g n) (x : Int) : XN (w.setCell ⟨g, 2, none⟩ (.int .i64 x)) g ⟨n.op, n.a, x, n.v⟩ := by
  unfold XN at h ⊢
  simp [World.setCell, Array.getElem?_modify, h]
theorem XN.other {w : World} {g q : Nat} {n : Nd} (h : XN w g n) (j : Nat) (x : Value) (hne : q ≠ g) : XN (w.setCell ⟨q, j, none⟩ x) g n :=
  (Below.heap_setCell w ⟨q, j, none⟩ x g (by simpa using fun e => hne e.symm)).trans h
def put4 (w : World) (g : Nat) (n : Nd) : World := (((w.setCell ⟨g, 0, none⟩ (.string n.op)).setCell ⟨g, 1, none⟩ (.int .i64 n.a)).setCell ⟨g, 2, none⟩ (.int .i64 n.b)).setCell ⟨g, 3, none⟩ (.int .i64 n.v)
theorem XN.put4 {w : World} {g : Nat} {n : Nd} (h : XN w g n) (m : Nd) : XN (put4 w g m) g m := by
  unfold XN Go.Proofs.Ythjfedidpjfboaa.put4 at *
  simp [World.setCell, Array.getElem?_modify, h]
theorem below_put4 {w w' : World} {B g : Nat} (h : Below B w w') (hg : B ≤ g) (n : Nd) : Below B w (put4 w' g n) :=
  (((h.setCell (p := ⟨g, 0, none⟩) hg _).setCell (p := ⟨g, 1, none⟩) hg _).setCell (p := ⟨g, 2, none⟩) hg _).setCell (p := ⟨g, 3, none⟩) hg _
theorem xn_new (w : World) (n : Nd) : XN (w.alloc (.cells #[.string n.op, .int .i64 n.a, .int .i64 n.b, .int .i64 n.v] 79)) w.heap.size n := heap_alloc_new w _
/-- A function whose result is a node in a cell. -/
theorem node_ret {fn : Func} {Q : Ending → World → Prop} {tmps : Array Value} {w : World} {g : Nat} {n : Nd} {s : Tmp} (hr : fn.results = #[.cell s 79]) (hs : tmps.getD s undef = .pointer (some ⟨g, 0, none⟩))
    (h : XN w g n) (hq : Q (.returned (.agg #[.string n.op, .int .i64 n.a, .int .i64 n.b, .int .i64 n.v])) w) : bodyPost Try.prog fn Q .ret ⟨tmps, []⟩ w := by
  obtain ⟨q0, q1, q2, q3⟩ := h.cells
  refine bodyPost_ret (v := .agg #[.string n.op, .int .i64 n.a, .int .i64 n.b, .int .i64 n.v]) ?_ rfl hq
  have hs' : tmps[s]?.getD undef = .pointer (some ⟨g, 0, none⟩) := by simpa using hs
  simp [results, hr, hs', go_sem, q0, q1, q2, q3]
end Go.Proofs.Ythjfedidpjfboaa
