import Derived.Test.YtieljgfocgdngaaWB
import Derived.Test.YtieljgfocgdngaaK
import Derived.WalkKit
import Derived.WalkSpells
import Derived.WalkLawsBesides
import Derived.Lib.Hide
/- The model's moved node. -/
namespace Go.Proofs.Ytieljgfocgdngaa
open Go.RowKit
set_option linter.unusedVariables false
set_option maxRecDepth 100000

set_option maxHeartbeats 4000000 in
theorem exMoved_any (L B : Nat) (A : Option Addr) (c m k : Nat) (n : Nd) (ps : List Int) (w : World) (hm : ps.length = m) (hn : isNode n k = true) (hk : k < m) (hps : IS w L B A ps) (hB : B ≤ w.heap.size) :
    Calls Try.prog 69 #[.agg #[.string n.op, .int .i64 n.a, .int .i64 n.b, .int .i64 n.v], .slice A m c] w fun e w' => e = .returned (.agg #[.string (moved n ps).op, .int .i64 (moved n ps).a, .int .i64 (moved n ps).b, .int .i64 (moved n ps).v]) ∧ Below w.heap.size w w' := by
  obtain ⟨op, a, b, v⟩ := n
  dsimp only
  have HP := Lib.hid fun W => exParts_any op a b v W
  have hM := Lib.hid hm
  obtain ⟨W1, hW1⟩ : ∃ W1, W1 = w.alloc (.cells #[.string op, .int .i64 a, .int .i64 b, .int .i64 v] 62) := ⟨_, rfl⟩
  have b1 : Below w.heap.size w W1 := by rw [hW1]; exact (Below.refl _ _).alloc (Nat.le_refl _) _
  have x1 : XN W1 w.heap.size ⟨op, a, b, v⟩ := by rw [hW1]; exact xn_new _ ⟨op, a, b, v⟩
  have z1 : W1.heap.size = w.heap.size + 1 := by rw [hW1]; simp
  obtain ⟨W2, hW2⟩ : ∃ W2, W2 = W1.alloc (.cells #[.string ⟨#[]⟩, .int .i64 0, .int .i64 0, .int .i64 0] 62) := ⟨_, rfl⟩
  have c2 : Below W1.heap.size W1 W2 := by rw [hW2]; exact (Below.refl _ _).alloc (Nat.le_refl _) _
  have x2 : XN W2 w.heap.size ⟨op, a, b, v⟩ := x1.next c2
  have r2 : XN W2 (w.heap.size + 1) zeroNd := by rw [hW2, ← z1]; exact xn_new _ zeroNd
  have z2 : W2.heap.size = w.heap.size + 1 + 1 := by rw [hW2]; simp [z1]
  obtain ⟨W3, hW3⟩ : ∃ W3, W3 = W2.alloc (.cells #[.string op, .int .i64 0, .int .i64 0, .int .i64 v] 62) := ⟨_, rfl⟩
  have c3 : Below W2.heap.size W2 W3 := by rw [hW3]; exact (Below.refl _ _).alloc (Nat.le_refl _) _
  have x3 := Lib.hid (x2.next c3)
  have r3 := Lib.hid (r2.next c3)
  have o3 : Hid (XN W3 (w.heap.size + 1 + 1) ⟨op, 0, 0, v⟩) := by unfold Hid; rw [hW3, ← z2]; exact xn_new _ ⟨op, 0, 0, v⟩
  have b3 := Lib.hid ((b1.trans (c2.mono b1.size)).trans (c3.mono (by omega)))
  have z3 : W3.heap.size = w.heap.size + 1 + 1 + 1 := by rw [hW3]; simp [z2]
  have e3 : Hid (W3 = ((w.alloc (.cells #[.string op, .int .i64 a, .int .i64 b, .int .i64 v] 62)).alloc (.cells #[.string ⟨#[]⟩, .int .i64 0, .int .i64 0, .int .i64 0] 62)).alloc (.cells #[.string op, .int .i64 0, .int .i64 0, .int .i64 v] 62)) := by unfold Hid; rw [hW3, hW2, hW1]
  have hPS := Lib.hid fun (W : World) (hW : Below w.heap.size w W) => hps.below hW hB
  have hBB := Lib.hid hB
  have z3h := Lib.hid z3
  clear hW1 hW2 hW3 b1 x1 z1 c2 x2 r2 z2 c3 z3 hps hB hm
  rcases ar_cases_nd hn with ⟨h1, h2, h3, h4, h5⟩ | ⟨h1, h2, h3, h4, h5, h6⟩ | ⟨h1, h2, h3, h4, h5, h6, h7⟩
  · dsimp only at h1 h2 h3 h4 h5
    have hp : parts ⟨op, a, b, v⟩ = [] := by simp [parts, h2, h3]
    have hmv := Lib.hid (show moved ⟨op, a, b, v⟩ ps = ⟨op, 0, 0, v⟩ by unfold moved; rw [h1]; rfl)
    rw [hp] at HP
    rw [hmv.out]
    clear hp h1 h2 h3 hmv
    subst h4; subst h5
    obtain ⟨d0, d1, d2, d3⟩ := x3.out.cells
    go_enter Try.func69, Try.ntmps69
    go_wp2_with (fail)
    rw [← e3.out]
    refine (HP.out _).mono ?_
    rintro e w4 ⟨A4, c4, rfl, _, hb⟩
    have b4 := Lib.hid (b3.out.trans (hb.mono b3.out.size))
    have x4 := Lib.hid (x3.out.next hb)
    have r4 := Lib.hid (r3.out.next hb)
    have o4 := Lib.hid (o3.out.next hb)
    clear hb d0 d1 d2 d3
    obtain ⟨d0, d1, d2, d3⟩ := x4.out.cells
    go_wp2_with (fail)
    refine (HP.out _).mono ?_
    rintro e w5 ⟨A5, c5, rfl, _, hb⟩
    have b5 := Lib.hid (b4.out.trans (hb.mono b4.out.size))
    have r5 := Lib.hid (r4.out.next hb)
    have o5 := Lib.hid (o4.out.next hb)
    clear hb d0 d1 d2 d3
    obtain ⟨d0, d1, d2, d3⟩ := o5.out.cells
    obtain ⟨g0, g1, g2, g3⟩ := r5.out.cells
    have f0 := r5.out.fz 0
    have f1 := r5.out.fz 1
    have f2 := r5.out.fz 2
    have f3 := r5.out.fz 3
    have R := Lib.hid (r5.out.put4 ⟨op, 0, 0, v⟩)
    have RB := Lib.hid (below_put4 b5.out (g := w.heap.size + 1) (by omega) ⟨op, 0, 0, v⟩)
    go_wp2
    exact node_ret rfl rfl R.out ⟨rfl, RB.out⟩
  · dsimp only at h1 h2 h3 h4 h5 h6
    have hp : parts ⟨op, a, b, v⟩ = [a] := by simp [parts, h2]
    have hmv := Lib.hid (show moved ⟨op, a, b, v⟩ ps = ⟨op, ps.getD a.toNat 0, 0, v⟩ by unfold moved; rw [h1]; rfl)
    rw [hp] at HP
    rw [hmv.out]
    clear hp h1 h2 h3 hmv
    obtain ⟨pa, rfl⟩ := Int.eq_ofNat_of_zero_le h4
    subst h6
    have hpam : pa < m := by omega
    have ia0 : (0 : Int) ≤ (pa : Int) := h4
    have ia1 : (pa : Int) < (m : Int) := by omega
    obtain ⟨va, hva⟩ : ∃ va, va = ps.getD pa 0 := ⟨_, rfl⟩
    rw [Int.toNat_natCast, ← hva]
    have HVA := Lib.hid hva
    clear hva
    obtain ⟨d0, d1, d2, d3⟩ := x3.out.cells
    go_enter Try.func69, Try.ntmps69
    go_wp2_with (fail)
    rw [← e3.out]
    refine (HP.out _).mono ?_
    rintro e w4 ⟨A4, c4, rfl, _, hb⟩
    have b4 := Lib.hid (b3.out.trans (hb.mono b3.out.size))
    have x4 := Lib.hid (x3.out.next hb)
    have r4 := Lib.hid (r3.out.next hb)
    have o4 := Lib.hid (o3.out.next hb)
    clear hb d0 d1 d2 d3
    obtain ⟨d0, d1, d2, d3⟩ := x4.out.cells
    obtain ⟨gb, go, hA, ⟨_, hgb⟩, hcell⟩ := IS.getD (hPS.out w4 b4.out) (q := pa) (by rw [hM.out]; exact hpam)
    subst hA
    rw [← HVA.out] at hcell
    obtain ⟨e0, e1, e2, e3'⟩ := o4.out.cells
    have f1 := o4.out.fz 1
    have o4s := Lib.hid (o4.out.setA va)
    have x4s := Lib.hid (x4.out.other (q := w.heap.size + 1 + 1) 1 (.int .i64 va) (by omega))
    have r4s := Lib.hid (r4.out.other (q := w.heap.size + 1 + 1) 1 (.int .i64 va) (by omega))
    have b4s := Lib.hid (b4.out.setCell (p := ⟨w.heap.size + 1 + 1, 1, none⟩) (by show w.heap.size ≤ w.heap.size + 1 + 1; omega) (.int .i64 va))
    obtain ⟨W5, hW5⟩ : ∃ W5, W5 = w4.setCell ⟨w.heap.size + 1 + 1, 1, none⟩ (.int .i64 va) := ⟨_, rfl⟩
    rw [← hW5] at o4s x4s r4s b4s
    obtain ⟨d0', d1', d2', d3'⟩ := x4s.out.cells
    rw [hW5] at d0' d1' d2' d3'
    have HW5 := Lib.hid hW5
    clear hW5
    go_wp2_with (fail)
    rw [← HW5.out]
    clear e0 e1 e2 e3' f1 d0' d1' d2' d3' d0 d1 d2 d3 hcell
    refine (HP.out _).mono ?_
    rintro e w5 ⟨A5, c5, rfl, _, hb⟩
    have b5 := Lib.hid (b4s.out.trans (hb.mono b4s.out.size))
    have x5 := Lib.hid (x4s.out.next hb)
    have r5 := Lib.hid (r4s.out.next hb)
    have o5 := Lib.hid (o4s.out.next hb)
    clear hb
    obtain ⟨d0, d1, d2, d3⟩ := o5.out.cells
    obtain ⟨g0, g1, g2, g3⟩ := r5.out.cells
    have f0 := r5.out.fz 0
    have f1 := r5.out.fz 1
    have f2 := r5.out.fz 2
    have f3 := r5.out.fz 3
    have R := Lib.hid (r5.out.put4 ⟨op, va, 0, v⟩)
    have RB := Lib.hid (below_put4 b5.out (g := w.heap.size + 1) (by omega) ⟨op, va, 0, v⟩)
    go_wp2
    exact node_ret rfl rfl R.out ⟨rfl, RB.out⟩
  · dsimp only at h1 h2 h3 h4 h5 h6 h7
    have hp : parts ⟨op, a, b, v⟩ = [a, b] := by simp [parts, h2, h3]
    have hmv := Lib.hid (show moved ⟨op, a, b, v⟩ ps = ⟨op, ps.getD a.toNat 0, ps.getD b.toNat 0, v⟩ by unfold moved; rw [h1]; rfl)
    rw [hp] at HP
    rw [hmv.out]
    clear hp h1 h2 h3 hmv
    obtain ⟨pa, rfl⟩ := Int.eq_ofNat_of_zero_le h4
    have hpam : pa < m := by omega
    have ia0 : (0 : Int) ≤ (pa : Int) := h4
    have ia1 : (pa : Int) < (m : Int) := by omega
    obtain ⟨pb, rfl⟩ := Int.eq_ofNat_of_zero_le h6
    have hpbm : pb < m := by omega
    have ib0 : (0 : Int) ≤ (pb : Int) := h6
    have ib1 : (pb : Int) < (m : Int) := by omega
    obtain ⟨va, hva⟩ : ∃ va, va = ps.getD pa 0 := ⟨_, rfl⟩
    rw [Int.toNat_natCast, Int.toNat_natCast, ← hva]
    have HVA := Lib.hid hva
    clear hva
    obtain ⟨vb, hvb⟩ : ∃ vb, vb = ps.getD pb 0 := ⟨_, rfl⟩
    rw [← hvb]
    have HVB := Lib.hid hvb
    clear hvb
    obtain ⟨d0, d1, d2, d3⟩ := x3.out.cells
    go_enter Try.func69, Try.ntmps69
    go_wp2_with (fail)
    rw [← e3.out]
    refine (HP.out _).mono ?_
    rintro e w4 ⟨A4, c4, rfl, _, hb⟩
    have b4 := Lib.hid (b3.out.trans (hb.mono b3.out.size))
    have x4 := Lib.hid (x3.out.next hb)
    have r4 := Lib.hid (r3.out.next hb)
    have o4 := Lib.hid (o3.out.next hb)
    clear hb d0 d1 d2 d3
    obtain ⟨d0, d1, d2, d3⟩ := x4.out.cells
    obtain ⟨gb, go, hA, ⟨_, hgb⟩, hcell⟩ := IS.getD (hPS.out w4 b4.out) (q := pa) (by rw [hM.out]; exact hpam)
    subst hA
    rw [← HVA.out] at hcell
    obtain ⟨e0, e1, e2, e3'⟩ := o4.out.cells
    have f1 := o4.out.fz 1
    have o4s := Lib.hid (o4.out.setA va)
    have x4s := Lib.hid (x4.out.other (q := w.heap.size + 1 + 1) 1 (.int .i64 va) (by omega))
    have r4s := Lib.hid (r4.out.other (q := w.heap.size + 1 + 1) 1 (.int .i64 va) (by omega))
    have b4s := Lib.hid (b4.out.setCell (p := ⟨w.heap.size + 1 + 1, 1, none⟩) (by show w.heap.size ≤ w.heap.size + 1 + 1; omega) (.int .i64 va))
    obtain ⟨W5, hW5⟩ : ∃ W5, W5 = w4.setCell ⟨w.heap.size + 1 + 1, 1, none⟩ (.int .i64 va) := ⟨_, rfl⟩
    rw [← hW5] at o4s x4s r4s b4s
    obtain ⟨d0', d1', d2', d3'⟩ := x4s.out.cells
    rw [hW5] at d0' d1' d2' d3'
    have HW5 := Lib.hid hW5
    clear hW5
    go_wp2_with (fail)
    rw [← HW5.out]
    clear e0 e1 e2 e3' f1 d0' d1' d2' d3' d0 d1 d2 d3 hcell
    refine (HP.out _).mono ?_
    rintro e w5 ⟨A5, c5, rfl, _, hb⟩
    have b5 := Lib.hid (b4s.out.trans (hb.mono b4s.out.size))
    have x5 := Lib.hid (x4s.out.next hb)
    have r5 := Lib.hid (r4s.out.next hb)
    have o5 := Lib.hid (o4s.out.next hb)
    clear hb
    obtain ⟨gb', go', hA', ⟨_, hgb'⟩, hcell'⟩ := IS.getD (hPS.out w5 b5.out) (q := pb) (by rw [hM.out]; exact hpbm)
    injection hA' with hA'
    injection hA' with k1 k2 _
    subst k1; subst k2
    rw [← HVB.out] at hcell'
    obtain ⟨d0, d1, d2, d3⟩ := x5.out.cells
    obtain ⟨e0, e1, e2, e3'⟩ := o5.out.cells
    have f2 := o5.out.fz 2
    have o6 := Lib.hid (o5.out.setB vb)
    have r6 := Lib.hid (r5.out.other (q := w.heap.size + 1 + 1) 2 (.int .i64 vb) (by omega))
    have b6 := Lib.hid (b5.out.setCell (p := ⟨w.heap.size + 1 + 1, 2, none⟩) (by show w.heap.size ≤ w.heap.size + 1 + 1; omega) (.int .i64 vb))
    obtain ⟨m0, m1, m2, m3⟩ := o6.out.cells
    obtain ⟨g0, g1, g2, g3⟩ := r6.out.cells
    have h0 := r6.out.fz 0
    have h1 := r6.out.fz 1
    have h2 := r6.out.fz 2
    have h3 := r6.out.fz 3
    have R := Lib.hid (r6.out.put4 ⟨op, va, vb, v⟩)
    have RB := Lib.hid (below_put4 b6.out (g := w.heap.size + 1) (by omega) ⟨op, va, vb, v⟩)
    go_wp2
    exact node_ret rfl rfl R.out ⟨rfl, RB.out⟩
end Go.Proofs.Ytieljgfocgdngaa
