import Derived.Test.YtaaloepoegehkaaCN
import Derived.Sort.Grow
import Derived.Lib.SlicesCompact
/- What the library's sort and compact leave, as own slices. No walk. -/
namespace Go.Proofs.Ytaaloepoegehkaa
open Go.RowKit Go.Sort
set_option linter.unusedVariables false

theorem heap_put (w : World) (g m : Nat) (d : Array Int) (os : Array Obj) (cur : Array Value) (t : TypeId) (h : w.heap[g]? = some (.cells cur t (0, 0))) :
    (grow (putRow (Value.int .i64) (Sort.ahead w m) g 0 d) os).heap[g]? = some (.cells (putCells (Value.int .i64) 0 d cur) t (0, 0)) := by
  have hg : g < w.heap.size := (Array.getElem?_eq_some_iff.1 h).1
  unfold grow putRow mapBlock Sort.ahead
  simp only [Array.getElem?_append, Array.size_modify, hg, if_true, Array.getElem?_modify, h, Option.map_some]
  rfl
theorem chg_put (w : World) (g m : Nat) (d : Array Int) (os : Array Obj) : Chg g (g + 1) w (grow (putRow (Value.int .i64) (Sort.ahead w m) g 0 d) os) := by
  refine ⟨rfl, rfl, rfl, by simp [grow, putRow, mapBlock, Sort.ahead], fun k hk hn => ?_⟩
  unfold grow putRow mapBlock Sort.ahead
  have hne : g ≠ k := by omega
  simp only [Array.getElem?_append, Array.size_modify, hk, if_true, Array.getElem?_modify, hne, if_false]
theorem putCells_take (d : List Int) (cur : Array Value) (h : d.length ≤ cur.size) : (putCells (Value.int .i64) 0 d.toArray cur).toList.take d.length = d.map (Value.int .i64) := by
  apply List.ext_getElem?
  intro i
  by_cases hi : i < d.length
  · rw [List.getElem?_take, if_pos hi, Array.getElem?_toList, putCells, Array.getElem?_mapIdx, Array.getElem?_eq_getElem (by omega), List.getElem?_map, List.getElem?_eq_getElem hi]
    simp [hi]
  · rw [List.getElem?_eq_none (by rw [List.length_take]; omega), List.getElem?_eq_none (by simp; omega)]
theorem putCells_size (d : Array Int) (cur : Array Value) : (putCells (Value.int .i64) 0 d cur).size = cur.size := by simp [putCells]
theorem OW.put {w : World} {lo hi g n c : Nat} {xs d : List Int} (h : OW w lo hi (.slice (some ⟨g, 0, none⟩) n c) xs) (hd : d.length = xs.length) (m : Nat) (os : Array Obj) :
    OW (grow (putRow (Value.int .i64) (Sort.ahead w m) g 0 d.toArray) os) lo hi (.slice (some ⟨g, 0, none⟩) n c) d := by
  refine ⟨⟨by simp, ?_⟩, h.2⟩
  rcases h.1.2 with ⟨h0, _⟩ | ⟨g', cap, cur, e, hlo, hh, h1, h2, h3, h4⟩
  · cases h0
  · injection e with e1 e2 e3; injection e1 with e1; injection e1 with e1 _ _
    subst e1
    refine .inr ⟨g, cap, _, by rw [e2, e3, hd], hlo, heap_put w g m d.toArray os cur _ hh, by omega, h2, by rw [putCells_size]; exact h3, ?_⟩
    rw [Nat.mul_one]
    exact putCells_take d cur (by omega)
theorem OW.holds {w : World} {lo hi g n c : Nat} {xs : List Int} (h : OW w lo hi (.slice (some ⟨g, 0, none⟩) n c) xs) : Holds (Value.int .i64) w g 0 xs.toArray := by
  intro j hj
  have hj' : j < xs.length := by simpa using hj
  refine ⟨?_, by rw [Nat.zero_add]; exact h.frozen6 j⟩
  rw [Nat.zero_add, h.at6 j hj', List.getD_eq_getElem?_getD, List.getElem?_eq_getElem hj']
  simp [hj']
/-- A shorter own slice of the same block. -/
theorem OW.short {w : World} {lo hi g n c : Nat} {xs : List Int} (h : OW w lo hi (.slice (some ⟨g, 0, none⟩) n c) xs) (k : Nat) (hk : k ≤ xs.length) : OW w lo hi (.slice (some ⟨g, 0, none⟩) k c) (xs.take k) := by
  have hl : (xs.take k).length = k := by rw [List.length_take]; omega
  refine ⟨⟨by simp, ?_⟩, fun j hj => h.2 j (by cases hj; rfl)⟩
  rcases h.1.2 with ⟨h0, _⟩ | ⟨g', cap, cur, e, hlo, hh, h1, h2, h3, h4⟩
  · cases h0
  · injection e with e1 e2 e3; injection e1 with e1; injection e1 with e1 _ _
    subst e1
    refine .inr ⟨g, cap, cur, by rw [hl, e3], hlo, hh, by omega, h2, h3, ?_⟩
    rw [hl, Nat.mul_one, List.map_take, ← h4, Nat.mul_one, List.take_take, Nat.min_eq_left hk]
/-- The registers that an op reads, in order. -/
def reads2 (fa fb : Bool) (a b : Int) : List Int := (if fa = true then [a] else []) ++ (if fb = true then [b] else [])
def readsL (x : In) : List Int := Lib.compact ((reads2 (fm x.op).a (fm x.op).b x.a x.b).mergeSort fun x y => decide (x ≤ y))
theorem compact0 : Lib.compact ([] : List Int) = [] := by decide
theorem compact1 (a : Int) : Lib.compact [a] = [a] := by simp [Lib.compact, Lib.compactUpTo, Lib.keeps, List.range, List.range.loop]
theorem compact2 (a b : Int) : Lib.compact [a, b] = if a = b then [a] else [a, b] := by
  by_cases h : a = b
  · subst h; simp [Lib.compact, Lib.compactUpTo, Lib.keeps, List.range, List.range.loop]
  · have h' : ¬ b = a := fun e => h e.symm
    simp [Lib.compact, Lib.compactUpTo, Lib.keeps, List.range, List.range.loop, h, h']
theorem sort0 : ([] : List Int).mergeSort (fun x y => decide (x ≤ y)) = [] := by simp
theorem sort1 (a : Int) : [a].mergeSort (fun x y => decide (x ≤ y)) = [a] := by simp
theorem sort2 (a b : Int) : [a, b].mergeSort (fun x y => decide (x ≤ y)) = if a ≤ b then [a, b] else [b, a] := by
  simp [List.mergeSort, List.MergeSort.Internal.splitInTwo, List.merge]
end Go.Proofs.Ytaaloepoegehkaa
