import Derived.Test.YtieljgfocgdngaaWC
import Derived.WalkKit
import Derived.WalkSpells
import Derived.WalkLawsBesides
import Derived.Lib.Hide
/- The program's walk that moves nodes. -/
namespace Go.Proofs.Ytieljgfocgdngaa
open Go.RowKit
set_option linter.unusedVariables false
set_option maxRecDepth 100000

theorem placeOf_any (q g m k cc : Nat) (ps : List Int) (w : World) (hm : ps.length = m) (hk : k < m) (hw : w.cell? ⟨q, 2, none⟩ = some (.slice (some ⟨g, 0, none⟩) m cc)) (hi : IB w g 3 ps) :
    Calls Try.prog 110 #[.pointer (some ⟨q, 0, none⟩), .int .i64 k] w fun e w' => e = .returned (.int .i64 (ps.getD k 0)) ∧ w' = w := by
  have hc : w.cell? ⟨g, k, none⟩ = some (.int .i64 (ps.getD k 0)) := by rw [hi.cell k (by omega), List.getD_eq_getElem?_getD, List.getElem?_eq_getElem (by omega)]; rfl
  generalize ps.getD k 0 = x at *
  have k1 : (0 : Int) ≤ (k : Int) := by omega
  have k2 : (k : Int) < (m : Int) := by omega
  clear hi hm
  go_enter Try.func110, Try.ntmps110
  go_wp2
  go_ret
  exact ⟨rfl, rfl⟩

set_option maxHeartbeats 4000000 in
theorem withOperands_any (q g m k cc : Nat) (n : Nd) (ps : List Int) (w : World) (hm : ps.length = m) (hn : isNode n k = true) (hk : k < m) (hq : q < w.heap.size) (hw : w.cell? ⟨q, 2, none⟩ = some (.slice (some ⟨g, 0, none⟩) m cc)) (hi : IB w g 3 ps) :
    Calls Try.prog 103 #[.agg #[.string n.op, .int .i64 n.a, .int .i64 n.b, .int .i64 n.v], .func (.func 110) #[.pointer (some ⟨q, 0, none⟩)] #[]] w fun e w' => e = .returned (.agg #[.string (moved n ps).op, .int .i64 (moved n ps).a, .int .i64 (moved n ps).b, .int .i64 (moved n ps).v]) ∧ Below w.heap.size w w' := by
  obtain ⟨op, a, b, v⟩ := n
  dsimp only
  have hPl := Lib.hid fun (j : Nat) (hj : j < m) (W : World) (hW : Below w.heap.size w W) => placeOf_any q g m j cc ps W hm hj ((hW.cell (p := ⟨q, 2, none⟩) hq).trans hw) (hi.below hW hi.lt)
  have hOc := Lib.hid fun W => operandCount_any op W
  obtain ⟨W1, hW1⟩ : ∃ W1, W1 = w.alloc (.cells #[.string op, .int .i64 a, .int .i64 b, .int .i64 v] 62) := ⟨_, rfl⟩
  have b1 : Below w.heap.size w W1 := by rw [hW1]; exact (Below.refl _ _).alloc (Nat.le_refl _) _
  have x1 : XN W1 w.heap.size ⟨op, a, b, v⟩ := by rw [hW1]; exact xn_new _ ⟨op, a, b, v⟩
  have z1 : W1.heap.size = w.heap.size + 1 := by rw [hW1]; simp
  obtain ⟨W2, hW2⟩ : ∃ W2, W2 = W1.alloc (.cells #[.string ⟨#[]⟩, .int .i64 0, .int .i64 0, .int .i64 0] 62) := ⟨_, rfl⟩
  have c2 : Below W1.heap.size W1 W2 := by rw [hW2]; exact (Below.refl _ _).alloc (Nat.le_refl _) _
  have x2 := Lib.hid (x1.next c2)
  have r2 : Hid (XN W2 (w.heap.size + 1) zeroNd) := by unfold Hid; rw [hW2, ← z1]; exact xn_new _ zeroNd
  have b2 := Lib.hid (b1.trans (c2.mono b1.size))
  have e2 : Hid (W2 = (w.alloc (.cells #[.string op, .int .i64 a, .int .i64 b, .int .i64 v] 62)).alloc (.cells #[.string ⟨#[]⟩, .int .i64 0, .int .i64 0, .int .i64 0] 62)) := by unfold Hid; rw [hW2, hW1]
  clear hW1 hW2 b1 x1 z1 c2 hw hi
  obtain ⟨d0, d1, d2, d3⟩ := x2.out.cells
  rcases ar_cases_nd hn with ⟨h1, h2, h3, h4, h5⟩ | ⟨h1, h2, h3, h4, h5, h6⟩ | ⟨h1, h2, h3, h4, h5, h6, h7⟩
  · dsimp only at h1 h2 h3 h4 h5
    have hmv := Lib.hid (show moved ⟨op, a, b, v⟩ ps = ⟨op, 0, 0, v⟩ by unfold moved; rw [h1]; rfl)
    rw [hmv.out]
    subst h4; subst h5
    rw [h1] at hOc
    clear h1 h2 h3 hmv hPl hn
    have f0 := r2.out.fz 0
    have f1 := r2.out.fz 1
    have f2 := r2.out.fz 2
    have f3 := r2.out.fz 3
    obtain ⟨g0, g1, g2, g3⟩ := r2.out.cells
    have R := Lib.hid (r2.out.put4 ⟨op, 0, 0, v⟩)
    have RB := Lib.hid (below_put4 b2.out (g := w.heap.size + 1) (by omega) ⟨op, 0, 0, v⟩)
    go_enter Try.func103, Try.ntmps103
    go_wp2_with (fail)
    rw [← e2.out]
    refine (hOc.out _).mono ?_
    rintro e w4 ⟨rfl, rfl⟩
    go_wp2
    exact node_ret rfl rfl R.out ⟨rfl, RB.out⟩
  · dsimp only at h1 h2 h3 h4 h5 h6
    have hmv := Lib.hid (show moved ⟨op, a, b, v⟩ ps = ⟨op, ps.getD a.toNat 0, 0, v⟩ by unfold moved; rw [h1]; rfl)
    rw [hmv.out]
    rw [h1] at hOc
    obtain ⟨pa, rfl⟩ := Int.eq_ofNat_of_zero_le h4
    subst h6
    have hpam : pa < m := by omega
    have HA := Lib.hid (hPl.out pa hpam W2 b2.out)
    rw [Int.toNat_natCast]
    clear h1 h2 h3 hmv hPl hn
    generalize ps.getD pa 0 = va at *
    have f1' := x2.out.fz 1
    have x3 := Lib.hid (x2.out.setA va)
    have r3 := Lib.hid (r2.out.other (q := w.heap.size) 1 (.int .i64 va) (by omega))
    have b3 := Lib.hid (b2.out.setCell (p := ⟨w.heap.size, 1, none⟩) (Nat.le_refl _) (.int .i64 va))
    obtain ⟨m0, m1, m2, m3⟩ := x3.out.cells
    have f0 := r3.out.fz 0
    have f1 := r3.out.fz 1
    have f2 := r3.out.fz 2
    have f3 := r3.out.fz 3
    obtain ⟨g0, g1, g2, g3⟩ := r3.out.cells
    have R := Lib.hid (r3.out.put4 ⟨op, va, 0, v⟩)
    have RB := Lib.hid (below_put4 b3.out (g := w.heap.size + 1) (by omega) ⟨op, va, 0, v⟩)
    go_enter Try.func103, Try.ntmps103
    go_wp2_with (fail)
    rw [← e2.out]
    refine (hOc.out _).mono ?_
    rintro e w4 ⟨rfl, rfl⟩
    go_wp2_with (fail)
    refine HA.out.mono ?_
    rintro e w5 ⟨rfl, rfl⟩
    go_wp2
    exact node_ret rfl rfl R.out ⟨rfl, RB.out⟩
  · dsimp only at h1 h2 h3 h4 h5 h6 h7
    have hmv := Lib.hid (show moved ⟨op, a, b, v⟩ ps = ⟨op, ps.getD a.toNat 0, ps.getD b.toNat 0, v⟩ by unfold moved; rw [h1]; rfl)
    rw [hmv.out]
    rw [h1] at hOc
    obtain ⟨pa, rfl⟩ := Int.eq_ofNat_of_zero_le h4
    obtain ⟨pb, rfl⟩ := Int.eq_ofNat_of_zero_le h6
    have hpam : pa < m := by omega
    have hpbm : pb < m := by omega
    have HA := Lib.hid (hPl.out pa hpam W2 b2.out)
    have HB := Lib.hid (hPl.out pb hpbm)
    rw [Int.toNat_natCast, Int.toNat_natCast]
    clear h1 h2 h3 hmv hPl hn
    generalize ps.getD pa 0 = va at *
    generalize ps.getD pb 0 = vb at *
    have f1' := x2.out.fz 1
    have x3 := Lib.hid (x2.out.setA va)
    have r3 := Lib.hid (r2.out.other (q := w.heap.size) 1 (.int .i64 va) (by omega))
    have b3 := Lib.hid (b2.out.setCell (p := ⟨w.heap.size, 1, none⟩) (Nat.le_refl _) (.int .i64 va))
    obtain ⟨m0, m1, m2, m3⟩ := x3.out.cells
    obtain ⟨W3, hW3⟩ : ∃ W3, W3 = W2.setCell ⟨w.heap.size, 1, none⟩ (.int .i64 va) := ⟨_, rfl⟩
    have x3' := x3.out
    have r3' := r3.out
    have b3' := b3.out
    rw [← hW3] at x3' r3' b3'
    have X := Lib.hid x3'
    have Rr := Lib.hid r3'
    have Bb := Lib.hid b3'
    have E3 := Lib.hid hW3
    clear x3' r3' b3' hW3
    have HB' := Lib.hid (HB.out W3 Bb.out)
    have f2' := X.out.fz 2
    have x4 := Lib.hid (X.out.setB vb)
    have r4 := Lib.hid (Rr.out.other (q := w.heap.size) 2 (.int .i64 vb) (by omega))
    have b4 := Lib.hid (Bb.out.setCell (p := ⟨w.heap.size, 2, none⟩) (Nat.le_refl _) (.int .i64 vb))
    obtain ⟨n0, n1, n2, n3⟩ := X.out.cells
    obtain ⟨l0, l1, l2, l3⟩ := x4.out.cells
    have f0 := r4.out.fz 0
    have f1 := r4.out.fz 1
    have f2 := r4.out.fz 2
    have f3 := r4.out.fz 3
    obtain ⟨g0, g1, g2, g3⟩ := r4.out.cells
    have R := Lib.hid (r4.out.put4 ⟨op, va, vb, v⟩)
    have RB := Lib.hid (below_put4 b4.out (g := w.heap.size + 1) (by omega) ⟨op, va, vb, v⟩)
    go_enter Try.func103, Try.ntmps103
    go_wp2_with (fail)
    rw [← e2.out]
    refine (hOc.out _).mono ?_
    rintro e w4 ⟨rfl, rfl⟩
    go_wp2_with (fail)
    refine HA.out.mono ?_
    rintro e w5 ⟨rfl, rfl⟩
    go_wp2_with (fail)
    rw [← E3.out]
    refine HB'.out.mono ?_
    rintro e w6 ⟨rfl, rfl⟩
    go_wp2
    exact node_ret rfl rfl R.out ⟨rfl, RB.out⟩
end Go.Proofs.Ytieljgfocgdngaa
