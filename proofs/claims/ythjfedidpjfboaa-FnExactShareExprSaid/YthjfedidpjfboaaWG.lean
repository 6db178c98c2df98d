import Derived.Test.YthjfedidpjfboaaWF
import Derived.Test.YthjfedidpjfboaaWD
import Derived.WalkKit
import Derived.WalkSpells
import Derived.WalkLawsBesides
import Derived.Deep.RegionHeld3
import Derived.Deep.AppendLies
import Derived.Lib.Hide
/- The program's builder: a node put behind the others. -/
namespace Go.Proofs.Ythjfedidpjfboaa
open Go.RowKit
set_option linter.unusedVariables false
set_option maxRecDepth 100000

theorem put_facts {q L H : Nat} {w1 w2 : World} {o : Obj} {AV : Option Addr} {cv n : Nat} {row : Option Nat} (hq : q < L) (hL : L ≤ w1.heap.size) (k0 : w1.cell? ⟨q, 0, none⟩ = some (.slice AV n cv)) (hf : w1.frozen? ⟨q, 0, none⟩ = false) (hr : ∀ j, row = some j → L ≤ j ∧ j < H) (hg : ((w1.alloc o).drew).grownBy w2 row) :
    w2.cell? ⟨q, 0, none⟩ = some (.slice AV n cv) ∧ w2.frozen? ⟨q, 0, none⟩ = false ∧ (∀ x, (w2.setCell ⟨q, 0, none⟩ x).cell? ⟨q, 0, none⟩ = some x) ∧ Below L w1 w2 ∧ Chg L H w1 w2 := by
  have hb : Below L w1 w2 := (((Below.refl L w1).alloc hL o).drew).grown hg (by first | (simp; omega) | (have := ((Below.refl L w1).alloc hL o).drew.size; omega)) (fun j hj => (hr j hj).1)
  have hc := (hb.cell (p := ⟨q, 0, none⟩) hq).trans k0
  refine ⟨hc, ?_, ?_, hb, (((Chg.refl L H w1).alloc o).drew).trans (Chg.ofGrown hg hr)⟩
  · have := hb.block q hq
    unfold World.frozen? at hf ⊢
    simp only [this]; exact hf
  · intro x
    exact World.cell?_setCell_same' w2 _ x (by rw [hc]; rfl)

set_option maxHeartbeats 4000000 in
theorem put_any (q L H : Nat) (AV : Option Addr) (cv : Nat) (xs : List Nd) (y : Nd) (w : World) (hx : xs.length < 24) (hq : q < L) (hL : L ≤ w.heap.size) (h0 : w.cell? ⟨q, 0, none⟩ = some (.slice AV xs.length cv)) (h1 : w.cell? ⟨q, 1, none⟩ = some (.bool false)) (hf : w.frozen? ⟨q, 0, none⟩ = false) (hH : H ≤ w.heap.size) (ho' : OK Nd.enc 4 79 w L H (.slice AV xs.length cv) xs) :
    Calls Try.prog 202 #[.pointer (some ⟨q, 0, none⟩), .agg #[.string y.op, .int .i64 y.a, .int .i64 y.b, .int .i64 y.v]] w fun e w' => e = .returned (.int .i64 xs.length) ∧ ∃ v' w1, w' = w1.setCell ⟨q, 0, none⟩ v' ∧ Below L w w1 ∧ Chg L H w w1 ∧ OK Nd.enc 4 79 w1 L w1.heap.size v' (xs ++ [y]) := by
  have ho := ho'.more hH
  obtain ⟨i0, hi0, hi1, hi2, hi3⟩ := info_parts Try.infoNode
  have hJ0 := Lib.hid hi0
  have hJ1 := Lib.hid hi1
  have hJ2 := Lib.hid hi2
  have hJ3 := Lib.hid hi3
  clear hi0 hi1 hi2 hi3
  have hO := Lib.hid ho
  have hq0 : q < w.heap.size := by omega
  have hal := fun o => (Below.refl w.heap.size w).alloc (Nat.le_refl _) o
  have g0 := fun o => ((hal o).cell (p := ⟨q, 0, none⟩) hq0).trans h0
  have g1 := fun o => ((hal o).cell (p := ⟨q, 1, none⟩) hq0).trans h1
  have x24 : (xs.length : Int) < 24 := by omega
  clear ho h0 h1
  go_enter Try.func202, Try.ntmps202
  go_wp2_with (fail)
  obtain ⟨w1, hw1⟩ : ∃ w1, w1 = w.alloc (.cells #[.string y.op, .int .i64 y.a, .int .i64 y.b, .int .i64 y.v] 79) := ⟨_, rfl⟩
  have X1 : XN w1 w.heap.size y := by rw [hw1]; exact xn_new _ y
  have B1 : Hid (Below w.heap.size w w1) := by unfold Hid; rw [hw1]; exact hal _
  have k0 : w1.cell? ⟨q, 0, none⟩ = some (.slice AV xs.length cv) := by rw [hw1]; exact g0 _
  have O1 : Hid (w1.ownsRow L 79 4 (.slice AV xs.length cv) xs.length (xs.flatMap Nd.enc)) := (hO.out.below B1.out (Nat.le_refl _)).1
  have Z1 : w1.heap.size = w.heap.size + 1 := by rw [hw1]; simp
  obtain ⟨m0, m1, m2, m3⟩ := X1.cells
  have O2 := fun o => Lib.hid (show ((w1.alloc o).drew).ownsRow L 79 4 (.slice AV xs.length cv) xs.length (xs.flatMap Nd.enc) from ((OK.below (t := 79) (enc := Nd.enc) (k := 4) (w := w1) (L := L) (B := w1.heap.size) (xs := xs) (v := .slice AV xs.length cv) ⟨O1.out, fun j hj => by have := (hO.out.lo j hj); omega⟩ (((Below.refl w1.heap.size w1).alloc (Nat.le_refl _) o).drew) (Nat.le_refl _)).1))
  have HL1 : Hid (L ≤ w1.heap.size) := by unfold Hid; omega
  have HR1 := Lib.hid fun j hj => ho'.lo j hj
  clear ho'
  have HF1 : Hid (w1.frozen? ⟨q, 0, none⟩ = false) := by
    have := B1.out.block q hq0
    unfold Hid; unfold World.frozen? at hf ⊢; simp only [this]; exact hf
  rw [← hw1]
  have HW1 := Lib.hid hw1
  clear hw1 hal g0 g1 X1
  go_region_law (first | (refine step_append_lies _ rfl _ _ 24 rfl L 79 i0 _ 4 40 Try.underlying24 hJ0.out hJ1.out hJ2.out hJ3.out rfl (by decide) _ _ _ (by rfl) (O2 _).out ⟨w.heap.size + 1, 0, none⟩ 1 1 (Nd.enc y) (by rfl) rfl (four_new y Z1) (four_one _) (by omega) (by unfold maxLen; omega) (by omega) (by simp; omega) (w1.heap.size + 1) (by simp) ?_; intro gg cap w2 hown1 hgr1 _ _; obtain ⟨j0, j1, j2, j3, j4⟩ := put_facts hq HL1.out k0 HF1.out HR1.out hgr1))
  all_goals
    have h1' := Lib.hid hown1
    have J3 := Lib.hid j3
    have J4 := Lib.hid j4
    clear hown1 hgr1 j4
    go_wp2
    go_ret
    refine ⟨rfl, _, w2, rfl, ?_, (Chg.ofBelow B1.out).trans J4.out, ?_⟩
    · exact (B1.out.mono hL).trans J3.out
    · refine ⟨?_, fun j hj => (h1'.out.lt j hj).2⟩
      rw [nflat_snoc, List.length_append]; exact h1'.out
end Go.Proofs.Ythjfedidpjfboaa
