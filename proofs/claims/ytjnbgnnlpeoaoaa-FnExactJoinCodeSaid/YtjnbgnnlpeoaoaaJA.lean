import Derived.Test.YtjnbgnnlpeoaoaaSA
import Derived.WalkKit
import Derived.WalkSpells
import Derived.WalkLawsBesides
import Derived.Lib.Hide
import Derived.Lib.Walk
import Derived.Lib.SliceRun
import Derived.Lib.AppendZerosOnto
namespace Go.Proofs.Ytjnbgnnlpeoaoaa
open Go.RowKit
set_option linter.unusedVariables false
set_option maxRecDepth 100000

abbrev zAgg : Value := .agg #[.string ByteArray.empty, .int .i64 0, .int .i64 0, .int .i64 0, .int .i64 0]
theorem own_empty {w : World} {lo g cap : Nat} {cur : Array Value} (h : w.heap[g]? = some (.cells cur 26 (0, 0))) (hlo : lo ≤ g) (h2 : cap ≤ maxLen) (h3 : cur.size = cap * 5) :
    OK In.enc 5 26 w lo (g + 1) (.slice (some ⟨g, 0, none⟩) 0 cap) ([] : List In) :=
  ⟨⟨rfl, .inr ⟨g, cap, cur, rfl, hlo, h, Nat.zero_le _, h2, h3, rfl⟩⟩, fun j hj => by simp [Value.ownBlock] at hj; omega⟩
set_option maxHeartbeats 2000000 in
/-- slices.Grow of nil code: an own slice without elements. -/
theorem GrowC_any (m : Int) (n : Nat) (w : World) (hm : m = n) (hl : n ≤ 2097152) :
    Calls Try.prog 128 #[.slice none 0 0, .int .i64 m] w (FreshInstr w []) := by
  subst hm
  obtain ⟨i0, hi, hz0, hz1, hz2⟩ := info_parts Try.infoInstr
  by_cases h0 : n = 0
  · subst h0
    go_enter Try.func128, Try.ntmps128
    go_wp2
    go_ret
    exact ⟨none, 0, rfl, OK.nil _ _ _ _, Below.refl _ _⟩
  have h1 : ¬ ((n : Int) < 0) := by omega
  have h4 : (0 : Int) < n := by omega
  have hG := grownCap_ge w (0 + n) 0 26
  have hGm := grownCap_le_maxLen w (0 + n) 0 26 (by unfold maxLen; omega)
  have hrz : ∀ ty, (Builtin.append_ #[32, 3] ty #[.slice none 0 0, .int .i64 (n : Int)]).run Try.prog w =
      .ok (.slice (some ⟨w.heap.size, 0, none⟩) (0 + n) (grownCap w (0 + n) 0 26)) (w.drew.alloc (.cells (([] : List Value).toArray ++ Builtin.zeroCells zAgg.cells n ++ Builtin.zeroCells zAgg.cells (grownCap w (0 + n) 0 26 - (0 + n))) 26)) := fun ty =>
    Lib.run_append_grow_zeros w 32 3 ty 26 i0 zAgg .i64 .i64 Try.underlying32 Try.underlying3 hi hz0 none 0 0 [] (run_firstCells_none w.drew i0.size 0 0 0) n (by omega) (by rw [hz1]; omega) (by omega) (by omega) (by rw [hz2]; omega) (by rw [hz2]; exact growslice_fits (by omega) (by omega))
  obtain ⟨G, hGe⟩ : ∃ G, G = grownCap w (0 + n) 0 26 := ⟨_, rfl⟩
  rw [← hGe] at hrz hG hGm
  have hsz : ((([] : List Value).toArray ++ Builtin.zeroCells zAgg.cells n ++ Builtin.zeroCells zAgg.cells (G - (0 + n))).size) = G * 5 := by
    rw [Array.size_append, Array.size_append, size_zeroCells, size_zeroCells]
    have : zAgg.cells.size = 5 := rfl
    rw [this]; simp; omega
  generalize (([] : List Value).toArray ++ Builtin.zeroCells zAgg.cells n ++ Builtin.zeroCells zAgg.cells (G - (0 + n))) = cur at *
  have hres : Hid (OK In.enc 5 26 (w.drew.alloc (.cells cur 26)) w.heap.size (w.drew.alloc (.cells cur 26)).heap.size (.slice (some ⟨w.heap.size, 0, none⟩) 0 G) ([] : List In)) := by
    have := own_empty (w := w.drew.alloc (.cells cur 26)) (lo := w.heap.size) (g := w.heap.size) (cap := G) (cur := cur) (heap_alloc_new w.drew _) (Nat.le_refl _) hGm hsz
    exact this.more (by simp)
  have hbel : Hid (Below w.heap.size w (w.drew.alloc (.cells cur 26))) := ((Below.refl w.heap.size w).drew).alloc (Nat.le_refl _) _
  have hGm' : G ≤ 9223372036854775807 := by unfold maxLen at hGm; omega
  have hR := Lib.hid hrz
  clear hrz hsz hGe hGm hi hz0 hz1 hz2
  go_enter Try.func128, Try.ntmps128
  go_wp2_with (at_builtin; refine Lib.wpList_append_run _ rfl _ _ _ _ rfl _ _ rfl rfl _ _ (hR.out _) ?_)
  go_ret
  exact ⟨_, _, rfl, hres.out, hbel.out⟩
end Go.Proofs.Ytjnbgnnlpeoaoaa
