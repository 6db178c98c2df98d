import Derived.Test.YtcfmfbgnfpgpgaaKB
import Derived.WalkKit
import Derived.WalkSpells
import Derived.WalkLawsBesides
import Derived.Lib.Hide
/- Joined known bits. -/
namespace Go.Proofs.Ytcfmfbgnfpgpgaa
open Go.RowKit
set_option linter.unusedVariables false
set_option maxRecDepth 100000

/-- Two results: a struct of two ints in a cell, and a bool. -/
theorem known_ret2 {fn : Func} {Q : Ending → World → Prop} {tmps : Array Value} {w : World} {g : Nat} {a b : Int} {s u : Tmp} {k : Bool} (hr : fn.results = #[.cell s 51, .tmp u]) (hs : tmps.getD s undef = .pointer (some ⟨g, 0, none⟩)) (hu : tmps.getD u undef = .bool k)
    (h : IB w g 51 [a, b]) (hq : Q (.returned (.tuple #[.agg #[.int .i64 a, .int .i64 b], .bool k])) w) : bodyPost Try.prog fn Q .ret ⟨tmps, []⟩ w := by
  have q0 := h.cell 0 (by simp)
  have q1 := h.cell 1 (by simp)
  simp at q0 q1
  refine bodyPost_ret (v := .tuple #[.agg #[.int .i64 a, .int .i64 b], .bool k]) ?_ rfl hq
  have hs' : tmps[s]?.getD undef = .pointer (some ⟨g, 0, none⟩) := by simpa using hs
  have hu' : tmps[u]?.getD undef = .bool k := by simpa using hu
  simp [results, hr, hs', hu', go_sem, q0, q1]
theorem IB.fz {w : World} {g : Nat} {t : TypeId} {z o : Int} (h : IB w g t [z, o]) : w.frozen? ⟨g, 0, none⟩ = false ∧ w.frozen? ⟨g, 1, none⟩ = false := ⟨h.frozen 0, h.frozen 1⟩
theorem IB.put2 {w : World} {g : Nat} {t : TypeId} {z o : Int} (h : IB w g t [z, o]) (a b : Int) : IB ((w.setCell ⟨g, 0, none⟩ (.int .i64 a)).setCell ⟨g, 1, none⟩ (.int .i64 b)) g t [a, b] := (h.set 0 a).set 1 b
theorem below_put2 {w w' : World} {B g : Nat} (h : Below B w w') (hg : B ≤ g) (a b : Value) : Below B w ((w'.setCell ⟨g, 0, none⟩ a).setCell ⟨g, 1, none⟩ b) := (h.setCell (p := ⟨g, 0, none⟩) hg a).setCell (p := ⟨g, 1, none⟩) hg b

def jkB (z o z' o' : Int) : Bool := knOk z o && knOk z' o'
def jkZ (z o z' o' : Int) : Int := if jkB z o z' o' = true then bits .and .i64 z z' else 0
def jkO (z o z' o' : Int) : Int := if jkB z o z' o' = true then bits .and .i64 o o' else 0


set_option maxHeartbeats 2000000 in
theorem sJoinKnown_any (z o z' o' : Int) (w : World) :
    Calls Try.prog 49 #[.agg #[.int .i64 z, .int .i64 o], .agg #[.int .i64 z', .int .i64 o']] w fun e w' => e = .returned (.tuple #[.agg #[.int .i64 (jkZ z o z' o'), .int .i64 (jkO z o z' o')], .bool (jkB z o z' o')]) ∧ Below w.heap.size w w' := by
  obtain ⟨W1, hW1⟩ : ∃ W1, W1 = w.alloc (.cells #[.int .i64 z, .int .i64 o] 51) := ⟨_, rfl⟩
  have z1 : W1.heap.size = w.heap.size + 1 := by rw [hW1]; simp
  have b1 : Below w.heap.size w W1 := by rw [hW1]; exact (Below.refl _ _).alloc (Nat.le_refl _) _
  have k1 : IB W1 w.heap.size 51 [z, o] := by rw [hW1]; exact kbox _ _ _ _
  obtain ⟨W2, hW2⟩ : ∃ W2, W2 = W1.alloc (.cells #[.int .i64 z', .int .i64 o'] 51) := ⟨_, rfl⟩
  have z2 : W2.heap.size = w.heap.size + 1 + 1 := by rw [hW2]; simp [z1]
  have c2 : Below W1.heap.size W1 W2 := by rw [hW2]; exact (Below.refl _ _).alloc (Nat.le_refl _) _
  have b2 : Below w.heap.size w W2 := b1.trans (c2.mono b1.size)
  have k2 : IB W2 w.heap.size 51 [z, o] := k1.below c2 (by omega)
  have m2 : IB W2 (w.heap.size + 1) 51 [z', o'] := by rw [hW2, ← z1]; exact kbox _ _ _ _
  obtain ⟨W3, hW3⟩ : ∃ W3, W3 = W2.alloc (.cells #[.int .i64 0, .int .i64 0] 51) := ⟨_, rfl⟩
  have z3 : W3.heap.size = w.heap.size + 1 + 1 + 1 := by rw [hW3]; simp [z2]
  have c3 : Below W2.heap.size W2 W3 := by rw [hW3]; exact (Below.refl _ _).alloc (Nat.le_refl _) _
  have b3 := Lib.hid (b2.trans (c3.mono b2.size))
  have k3 := Lib.hid (k2.below c3 (by omega))
  have m3 := Lib.hid (m2.below c3 (by omega))
  have n3 : Hid (IB W3 (w.heap.size + 1 + 1) 51 [0, 0]) := by unfold Hid; rw [hW3, ← z2]; exact kbox _ _ _ _
  have e3 : W3 = ((w.alloc (.cells #[.int .i64 z, .int .i64 o] 51)).alloc (.cells #[.int .i64 z', .int .i64 o'] 51)).alloc (.cells #[.int .i64 0, .int .i64 0] 51) := by rw [hW3, hW2, hW1]
  have zz : Hid (W3.heap.size = w.heap.size + 1 + 1 + 1) := z3
  clear hW1 hW2 hW3 b1 b2 k1 k2 m2 c2 c3 z1 z2 z3
  have HK := Lib.hid fun W => sKnown_any z o W
  have HL := Lib.hid fun W => sKnown_any z' o' W
  have hB : Hid (jkB z o z' o' = (knOk z o && knOk z' o')) := rfl
  have hZ : Hid (jkZ z o z' o' = if jkB z o z' o' = true then bits .and .i64 z z' else 0) := rfl
  have hO : Hid (jkO z o z' o' = if jkB z o z' o' = true then bits .and .i64 o o' else 0) := rfl
  skip
  cases h1 : knOk z o
  · rw [h1] at HK hB
    have hb' := Lib.hid (show jkB z o z' o' = false from hB.out)
    rw [hb'.out] at hZ hO
    obtain ⟨d0, d1⟩ := k3.out.two
    clear h1
    go_enter Try.func49, Try.ntmps49
    go_wp2_with (fail)
    rw [← e3]
    refine (HK.out _).mono ?_
    rintro e w4 ⟨rfl, hb⟩
    have b4 := Lib.hid (b3.out.trans (hb.mono b3.out.size))
    have n4 := Lib.hid (n3.out.below hb (by rw [zz.out]; omega))
    clear hb d0 d1
    obtain ⟨f0, f1⟩ := n4.out.fz
    obtain ⟨d0, d1⟩ := n4.out.two
    have n5 := Lib.hid (n4.out.put2 0 0)
    have b5 := Lib.hid (below_put2 b4.out (g := w.heap.size + 1 + 1) (by omega) (.int .i64 0) (.int .i64 0))
    go_wp2
    rw [hb'.out, hZ.out, hO.out]
    exact known_ret2 rfl rfl rfl n5.out ⟨rfl, b5.out⟩
  cases h2 : knOk z' o'
  · rw [h1] at HK
    rw [h2] at HL
    have hb' := Lib.hid (show jkB z o z' o' = false by rw [hB.out, h2, Bool.and_false])
    rw [hb'.out] at hZ hO
    obtain ⟨d0, d1⟩ := k3.out.two
    clear h1 h2
    go_enter Try.func49, Try.ntmps49
    go_wp2_with (fail)
    rw [← e3]
    refine (HK.out _).mono ?_
    rintro e w4 ⟨rfl, hb⟩
    have b4 := Lib.hid (b3.out.trans (hb.mono b3.out.size))
    have n4 := Lib.hid (n3.out.below hb (by rw [zz.out]; omega))
    have m4 := Lib.hid (m3.out.below hb (by rw [zz.out]; omega))
    have z4 := Lib.hid (Nat.le_trans (Nat.le_of_eq zz.out.symm) hb.size)
    clear hb d0 d1
    obtain ⟨d0, d1⟩ := m4.out.two
    go_wp2_with (fail)
    refine (HL.out _).mono ?_
    rintro e w5 ⟨rfl, hb⟩
    have b5 := Lib.hid (b4.out.trans (hb.mono b4.out.size))
    have n5 := Lib.hid (n4.out.below hb (by have := z4.out; omega))
    clear hb d0 d1
    obtain ⟨f0, f1⟩ := n5.out.fz
    obtain ⟨d0, d1⟩ := n5.out.two
    have n6 := Lib.hid (n5.out.put2 0 0)
    have b6 := Lib.hid (below_put2 b5.out (g := w.heap.size + 1 + 1) (by omega) (.int .i64 0) (.int .i64 0))
    go_wp2
    rw [hb'.out, hZ.out, hO.out]
    exact known_ret2 rfl rfl rfl n6.out ⟨rfl, b6.out⟩
  rw [h1] at HK
  rw [h2] at HL
  have hb' := Lib.hid (show jkB z o z' o' = true by rw [hB.out, h1, h2]; rfl)
  rw [hb'.out] at hZ hO
  obtain ⟨d0, d1⟩ := k3.out.two
  clear h1 h2
  go_enter Try.func49, Try.ntmps49
  go_wp2_with (fail)
  rw [← e3]
  refine (HK.out _).mono ?_
  rintro e w4 ⟨rfl, hb⟩
  have b4 := Lib.hid (b3.out.trans (hb.mono b3.out.size))
  have k4 := Lib.hid (k3.out.below hb (by rw [zz.out]; omega))
  have n4 := Lib.hid (n3.out.below hb (by rw [zz.out]; omega))
  have m4 := Lib.hid (m3.out.below hb (by rw [zz.out]; omega))
  have z4 := Lib.hid (Nat.le_trans (Nat.le_of_eq zz.out.symm) hb.size)
  clear hb d0 d1
  obtain ⟨d0, d1⟩ := m4.out.two
  go_wp2_with (fail)
  refine (HL.out _).mono ?_
  rintro e w5 ⟨rfl, hb⟩
  have b5 := Lib.hid (b4.out.trans (hb.mono b4.out.size))
  have k5 := Lib.hid (k4.out.below hb (by have := z4.out; omega))
  have n5 := Lib.hid (n4.out.below hb (by have := z4.out; omega))
  have m5 := Lib.hid (m4.out.below hb (by have := z4.out; omega))
  have z5 := Lib.hid (Nat.le_trans z4.out hb.size)
  clear hb d0 d1
  obtain ⟨d0, d1⟩ := m5.out.two
  obtain ⟨g0, g1⟩ := k5.out.two
  have b6 := b5
  have n6 := n5
  obtain ⟨f0, f1⟩ := n6.out.fz
  obtain ⟨p0, p1⟩ := n6.out.two
  have n7 := Lib.hid (n6.out.put2 (bits .and .i64 z z') (bits .and .i64 o o'))
  have b7 := Lib.hid (below_put2 b6.out (g := w.heap.size + 1 + 1) (by omega) (.int .i64 (bits .and .i64 z z')) (.int .i64 (bits .and .i64 o o')))
  go_wp2
  rw [hb'.out, hZ.out, hO.out]
  exact known_ret2 rfl rfl rfl n7.out ⟨rfl, b7.out⟩

set_option maxHeartbeats 2000000 in
theorem iJoinKnown_any (z o z' o' : Int) (w : World) :
    Calls Try.prog 50 #[.agg #[.int .i64 z, .int .i64 o], .agg #[.int .i64 z', .int .i64 o']] w fun e w' => e = .returned (.tuple #[.agg #[.int .i64 (jkZ z o z' o'), .int .i64 (jkO z o z' o')], .bool (jkB z o z' o')]) ∧ Below w.heap.size w w' := by
  obtain ⟨W1, hW1⟩ : ∃ W1, W1 = w.alloc (.cells #[.int .i64 z, .int .i64 o] 51) := ⟨_, rfl⟩
  have z1 : W1.heap.size = w.heap.size + 1 := by rw [hW1]; simp
  have b1 : Below w.heap.size w W1 := by rw [hW1]; exact (Below.refl _ _).alloc (Nat.le_refl _) _
  have k1 : IB W1 w.heap.size 51 [z, o] := by rw [hW1]; exact kbox _ _ _ _
  obtain ⟨W2, hW2⟩ : ∃ W2, W2 = W1.alloc (.cells #[.int .i64 z', .int .i64 o'] 51) := ⟨_, rfl⟩
  have z2 : W2.heap.size = w.heap.size + 1 + 1 := by rw [hW2]; simp [z1]
  have c2 : Below W1.heap.size W1 W2 := by rw [hW2]; exact (Below.refl _ _).alloc (Nat.le_refl _) _
  have b2 : Below w.heap.size w W2 := b1.trans (c2.mono b1.size)
  have k2 : IB W2 w.heap.size 51 [z, o] := k1.below c2 (by omega)
  have m2 : IB W2 (w.heap.size + 1) 51 [z', o'] := by rw [hW2, ← z1]; exact kbox _ _ _ _
  obtain ⟨W3, hW3⟩ : ∃ W3, W3 = W2.alloc (.cells #[.int .i64 0, .int .i64 0] 51) := ⟨_, rfl⟩
  have z3 : W3.heap.size = w.heap.size + 1 + 1 + 1 := by rw [hW3]; simp [z2]
  have c3 : Below W2.heap.size W2 W3 := by rw [hW3]; exact (Below.refl _ _).alloc (Nat.le_refl _) _
  have b3 := Lib.hid (b2.trans (c3.mono b2.size))
  have k3 := Lib.hid (k2.below c3 (by omega))
  have m3 := Lib.hid (m2.below c3 (by omega))
  have n3 : Hid (IB W3 (w.heap.size + 1 + 1) 51 [0, 0]) := by unfold Hid; rw [hW3, ← z2]; exact kbox _ _ _ _
  have e3 : W3 = ((w.alloc (.cells #[.int .i64 z, .int .i64 o] 51)).alloc (.cells #[.int .i64 z', .int .i64 o'] 51)).alloc (.cells #[.int .i64 0, .int .i64 0] 51) := by rw [hW3, hW2, hW1]
  have zz : Hid (W3.heap.size = w.heap.size + 1 + 1 + 1) := z3
  clear hW1 hW2 hW3 b1 b2 k1 k2 m2 c2 c3 z1 z2 z3
  have HK := Lib.hid fun W => iIsKnown_any z o W
  have HL := Lib.hid fun W => iIsKnown_any z' o' W
  have hB : Hid (jkB z o z' o' = (knOk z o && knOk z' o')) := rfl
  have hZ : Hid (jkZ z o z' o' = if jkB z o z' o' = true then bits .and .i64 z z' else 0) := rfl
  have hO : Hid (jkO z o z' o' = if jkB z o z' o' = true then bits .and .i64 o o' else 0) := rfl
  have HJ := Lib.hid fun W => joinKnown_any z o z' o' W
  cases h1 : knOk z o
  · rw [h1] at HK hB
    have hb' := Lib.hid (show jkB z o z' o' = false from hB.out)
    rw [hb'.out] at hZ hO
    obtain ⟨d0, d1⟩ := k3.out.two
    clear h1
    go_enter Try.func50, Try.ntmps50
    go_wp2_with (fail)
    rw [← e3]
    refine (HK.out _).mono ?_
    rintro e w4 ⟨rfl, hb⟩
    have b4 := Lib.hid (b3.out.trans (hb.mono b3.out.size))
    have n4 := Lib.hid (n3.out.below hb (by rw [zz.out]; omega))
    clear hb d0 d1
    obtain ⟨f0, f1⟩ := n4.out.fz
    obtain ⟨d0, d1⟩ := n4.out.two
    have n5 := Lib.hid (n4.out.put2 0 0)
    have b5 := Lib.hid (below_put2 b4.out (g := w.heap.size + 1 + 1) (by omega) (.int .i64 0) (.int .i64 0))
    go_wp2
    rw [hb'.out, hZ.out, hO.out]
    exact known_ret2 rfl rfl rfl n5.out ⟨rfl, b5.out⟩
  cases h2 : knOk z' o'
  · rw [h1] at HK
    rw [h2] at HL
    have hb' := Lib.hid (show jkB z o z' o' = false by rw [hB.out, h2, Bool.and_false])
    rw [hb'.out] at hZ hO
    obtain ⟨d0, d1⟩ := k3.out.two
    clear h1 h2
    go_enter Try.func50, Try.ntmps50
    go_wp2_with (fail)
    rw [← e3]
    refine (HK.out _).mono ?_
    rintro e w4 ⟨rfl, hb⟩
    have b4 := Lib.hid (b3.out.trans (hb.mono b3.out.size))
    have n4 := Lib.hid (n3.out.below hb (by rw [zz.out]; omega))
    have m4 := Lib.hid (m3.out.below hb (by rw [zz.out]; omega))
    have z4 := Lib.hid (Nat.le_trans (Nat.le_of_eq zz.out.symm) hb.size)
    clear hb d0 d1
    obtain ⟨d0, d1⟩ := m4.out.two
    go_wp2_with (fail)
    refine (HL.out _).mono ?_
    rintro e w5 ⟨rfl, hb⟩
    have b5 := Lib.hid (b4.out.trans (hb.mono b4.out.size))
    have n5 := Lib.hid (n4.out.below hb (by have := z4.out; omega))
    clear hb d0 d1
    obtain ⟨f0, f1⟩ := n5.out.fz
    obtain ⟨d0, d1⟩ := n5.out.two
    have n6 := Lib.hid (n5.out.put2 0 0)
    have b6 := Lib.hid (below_put2 b5.out (g := w.heap.size + 1 + 1) (by omega) (.int .i64 0) (.int .i64 0))
    go_wp2
    rw [hb'.out, hZ.out, hO.out]
    exact known_ret2 rfl rfl rfl n6.out ⟨rfl, b6.out⟩
  rw [h1] at HK
  rw [h2] at HL
  have hb' := Lib.hid (show jkB z o z' o' = true by rw [hB.out, h1, h2]; rfl)
  rw [hb'.out] at hZ hO
  obtain ⟨d0, d1⟩ := k3.out.two
  clear h1 h2
  go_enter Try.func50, Try.ntmps50
  go_wp2_with (fail)
  rw [← e3]
  refine (HK.out _).mono ?_
  rintro e w4 ⟨rfl, hb⟩
  have b4 := Lib.hid (b3.out.trans (hb.mono b3.out.size))
  have k4 := Lib.hid (k3.out.below hb (by rw [zz.out]; omega))
  have n4 := Lib.hid (n3.out.below hb (by rw [zz.out]; omega))
  have m4 := Lib.hid (m3.out.below hb (by rw [zz.out]; omega))
  have z4 := Lib.hid (Nat.le_trans (Nat.le_of_eq zz.out.symm) hb.size)
  clear hb d0 d1
  obtain ⟨d0, d1⟩ := m4.out.two
  go_wp2_with (fail)
  refine (HL.out _).mono ?_
  rintro e w5 ⟨rfl, hb⟩
  have b5 := Lib.hid (b4.out.trans (hb.mono b4.out.size))
  have k5 := Lib.hid (k4.out.below hb (by have := z4.out; omega))
  have n5 := Lib.hid (n4.out.below hb (by have := z4.out; omega))
  have m5 := Lib.hid (m4.out.below hb (by have := z4.out; omega))
  have z5 := Lib.hid (Nat.le_trans z4.out hb.size)
  clear hb d0 d1
  obtain ⟨d0, d1⟩ := m5.out.two
  obtain ⟨g0, g1⟩ := k5.out.two
  go_wp2_with (fail)
  refine (HJ.out _).mono ?_
  rintro e w6 ⟨rfl, hb⟩
  have b6 := Lib.hid (b5.out.trans (hb.mono b5.out.size))
  have n6 := Lib.hid (n5.out.below hb (by have := z5.out; omega))
  clear hb d0 d1 g0 g1
  obtain ⟨f0, f1⟩ := n6.out.fz
  obtain ⟨d0, d1⟩ := n6.out.two
  have n7 := Lib.hid (n6.out.put2 (bits .and .i64 z z') (bits .and .i64 o o'))
  have b7 := Lib.hid (below_put2 b6.out (g := w.heap.size + 1 + 1) (by omega) (.int .i64 (bits .and .i64 z z')) (.int .i64 (bits .and .i64 o o')))
  go_wp2
  rw [hb'.out, hZ.out, hO.out]
  exact known_ret2 rfl rfl rfl n7.out ⟨rfl, b7.out⟩
end Go.Proofs.Ytcfmfbgnfpgpgaa
