import Derived.Test.YthjfedidpjfboaaCO
import Derived.Laws.CopyOwn
import Derived.WalkKit
import Derived.WalkSpells
import Derived.WalkLawsBesides
import Derived.Deep.RegionHeld3
import Derived.Lib.Hide
namespace Go.Proofs.Ythjfedidpjfboaa
open Go.RowKit
set_option linter.unusedVariables false
set_option maxRecDepth 100000

/-- The machine as a value. -/
def macV (rs : List Int) : Value := .agg (intCells rs)
theorem six_list {rs : List Int} (h : rs.length = 6) : ∃ a b c d e f, rs = [a, b, c, d, e, f] := by
  match rs, h with
  | [a, b, c, d, e, f], _ => exact ⟨a, b, c, d, e, f, rfl⟩
theorem IB.six {w : World} {g : Nat} {t : TypeId} {rs : List Int} (h : IB w g t rs) (h6 : rs.length = 6) : Six w g 0 rs := fun i hi => by
  rw [Nat.zero_add, h.cell i (by omega), List.getD_eq_getElem?_getD, List.getElem?_eq_getElem (by omega)]; rfl

theorem six_cells {w : World} {g : Nat} {t : TypeId} {a b c d e f : Value} (h : w.heap[g]? = some (.cells #[a, b, c, d, e, f] t (0, 0))) :
    (w.cell? ⟨g, 0, none⟩ = some a ∧ w.cell? ⟨g, 1, none⟩ = some b ∧ w.cell? ⟨g, 2, none⟩ = some c ∧ w.cell? ⟨g, 3, none⟩ = some d ∧ w.cell? ⟨g, 4, none⟩ = some e ∧ w.cell? ⟨g, 5, none⟩ = some f) ∧
    (w.frozen? ⟨g, 0, none⟩ = false ∧ w.frozen? ⟨g, 1, none⟩ = false ∧ w.frozen? ⟨g, 2, none⟩ = false ∧ w.frozen? ⟨g, 3, none⟩ = false ∧ w.frozen? ⟨g, 4, none⟩ = false ∧ w.frozen? ⟨g, 5, none⟩ = false) := by
  have hc := fun i => cell_of_row w g i #[a, b, c, d, e, f] t (0, 0) h
  have hf : ∀ i, w.frozen? ⟨g, i, none⟩ = false := fun i => by simp [World.frozen?, h]
  exact ⟨⟨hc 0, hc 1, hc 2, hc 3, hc 4, hc 5⟩, hf 0, hf 1, hf 2, hf 3, hf 4, hf 5⟩
set_option maxHeartbeats 1000000 in
theorem machineOf_any (b o c : Nat) (r0 r1 r2 r3 r4 r5 : Int) (w : World) (L B : Nat) (hI : IS w L B (some ⟨b, o, none⟩) [r0, r1, r2, r3, r4, r5]) (hB : B ≤ w.heap.size) :
    Calls Try.prog 106 #[.slice (some ⟨b, o, none⟩) 6 c] w fun e w' => e = .returned (.agg #[.int .i64 r0, .int .i64 r1, .int .i64 r2, .int .i64 r3, .int .i64 r4, .int .i64 r5]) ∧ Below w.heap.size w w' := by
  obtain ⟨o0, ho0⟩ : ∃ o0 : Obj, o0 = .cells #[.int .i64 0, .int .i64 0, .int .i64 0, .int .i64 0, .int .i64 0, .int .i64 0] 114 := ⟨_, rfl⟩
  have hnew : Hid (((w.alloc o0).alloc o0).heap[w.heap.size + 1]? = some (.cells (([0, 0, 0, 0, 0, 0] : List Int).map (Value.int .i64)).toArray 114 (0, 0))) := by
    have := heap_alloc_new (w.alloc o0) o0
    rw [show (w.alloc o0).heap.size = w.heap.size + 1 by simp] at this
    rw [Hid, this, ho0]; rfl
  have hold : Hid (((w.alloc o0).alloc o0).heap[w.heap.size]? = some (.cells #[.int .i64 0, .int .i64 0, .int .i64 0, .int .i64 0, .int .i64 0, .int .i64 0] 114 (0, 0))) := by
    have := Below.heap_alloc (w.alloc o0) o0 w.heap.size (by simp)
    rw [Hid, this, heap_alloc_new, ho0]
  have hb0 := Lib.hid (((Below.refl w.heap.size w).alloc (Nat.le_refl _) o0).alloc (by simp) o0)
  have hE2 := Lib.hid ((hI.below hb0.out hB).news (by simp))
  subst ho0
  have hsz : (Try.prog.info? 3).map (·.size) = some 1 := by kernel_rfl
  have hSZ := Lib.hid hsz
  clear hI hsz
  go_enter Try.func106, Try.ntmps106
  go_wp2_with (with_reducible refine wpList_copy_splice rfl (.tmp 4) (.tmp 5) 32 32 rfl 3 Try.underlying32 hSZ.out (some ⟨w.heap.size + 1, 0, none⟩) (some ⟨b, o, none⟩) 6 6 6 c rfl rfl (w.heap.size + 1) 0 (([0, 0, 0, 0, 0, 0] : List Int).map (Value.int .i64)) 114 hnew.out (([r0, r1, r2, r3, r4, r5] : List Int).map (Value.int .i64)) rfl (fun _ => ⟨rfl, hE2.out⟩) (by simp) (oneI _) (w.heap.size + 1) _ (Below.refl _ _) (by omega) ?_; intro w1 hw1 hbel1; obtain ⟨⟨d0, d1, d2, d3, d4, d5⟩, _⟩ := six_cells (show w1.heap[w.heap.size + 1]? = some (.cells #[.int .i64 r0, .int .i64 r1, .int .i64 r2, .int .i64 r3, .int .i64 r4, .int .i64 r5] 114 (0, 0)) from (by have := hw1.out; simpa [Go.splice] using this)); obtain ⟨⟨e0, e1, e2, e3, e4, e5⟩, f0, f1, f2, f3, f4, f5⟩ := six_cells ((hbel1.block w.heap.size (by omega)).trans hold.out))
  have hz0 : CB 114 w1 w.heap.size [.int .i64 0, .int .i64 0, .int .i64 0, .int .i64 0, .int .i64 0, .int .i64 0] := (hbel1.block w.heap.size (by omega)).trans hold.out
  have hz1 := CB.sets [.int .i64 r0, .int .i64 r1, .int .i64 r2, .int .i64 r3, .int .i64 r4, .int .i64 r5] 0 hz0
  have hb2 := Lib.hid (below_setCells (B := w.heap.size) [.int .i64 r0, .int .i64 r1, .int .i64 r2, .int .i64 r3, .int .i64 r4, .int .i64 r5] w.heap.size 0 (hb0.out.trans (hbel1.mono (by omega))) (Nat.le_refl _))
  obtain ⟨⟨g0, g1, g2, g3, g4, g5⟩, _⟩ := six_cells (show (setCells w1 w.heap.size 0 [.int .i64 r0, .int .i64 r1, .int .i64 r2, .int .i64 r3, .int .i64 r4, .int .i64 r5]).heap[w.heap.size]? = some (.cells #[.int .i64 r0, .int .i64 r1, .int .i64 r2, .int .i64 r3, .int .i64 r4, .int .i64 r5] 114 (0, 0)) from hz1)
  simp only [setCells, Nat.zero_add, Nat.reduceAdd] at g0 g1 g2 g3 g4 g5
  exact bodyPost_ret (v := .agg #[.int .i64 r0, .int .i64 r1, .int .i64 r2, .int .i64 r3, .int .i64 r4, .int .i64 r5]) (by simp [results, Try.results106, go_sem, g0, g1, g2, g3, g4, g5]) rfl ⟨rfl, hb2.out⟩
end Go.Proofs.Ythjfedidpjfboaa
