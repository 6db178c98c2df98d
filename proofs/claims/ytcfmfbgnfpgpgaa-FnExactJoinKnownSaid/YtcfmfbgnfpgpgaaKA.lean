import Derived.Test.YtcfmfbgnfpgpgaaKP
import Derived.Test.YtcfmfbgnfpgpgaaCA
import Derived.Test.YtcfmfbgnfpgpgaaLI
import Derived.Deep.RegionHeld3
import Derived.WalkKit
import Derived.WalkSpells
import Derived.WalkLawsBesides
import Derived.StillTailTactics
import Derived.Deep.QuietTactic
import Derived.BigQuiet
import Derived.Lib.Hide
/- Known bits by value. -/
namespace Go.Proofs.Ytcfmfbgnfpgpgaa
open Go.RowKit
set_option linter.unusedVariables false
set_option maxRecDepth 100000


theorem box2 (w : World) (a b : Value) (t : TypeId) : (w.alloc (.cells #[a, b] t)).cell? ⟨w.heap.size, 0, none⟩ = some a ∧ (w.alloc (.cells #[a, b] t)).cell? ⟨w.heap.size, 1, none⟩ = some b := by
  have h := fun i => cell_of_row _ w.heap.size i #[a, b] t (0, 0) (heap_alloc_new w _)
  exact ⟨h 0, h 1⟩

/-- A function whose result is a struct of two ints in a cell. -/
theorem known_ret {fn : Func} {Q : Ending → World → Prop} {tmps : Array Value} {w : World} {g : Nat} {a b : Int} {s : Tmp} (hr : fn.results = #[.cell s 51]) (hs : tmps.getD s undef = .pointer (some ⟨g, 0, none⟩))
    (h : IB w g 51 [a, b]) (hq : Q (.returned (.agg #[.int .i64 a, .int .i64 b])) w) : bodyPost Try.prog fn Q .ret ⟨tmps, []⟩ w := by
  have q0 := h.cell 0 (by simp)
  have q1 := h.cell 1 (by simp)
  simp at q0 q1
  refine bodyPost_ret (v := .agg #[.int .i64 a, .int .i64 b]) ?_ rfl hq
  have hs' : tmps[s]?.getD undef = .pointer (some ⟨g, 0, none⟩) := by simpa using hs
  simp [results, hr, hs', go_sem, q0, q1]

theorem toKnown_any (z o : Int) (w : World) :
    Calls Try.prog 47 #[.agg #[.int .i64 z, .int .i64 o]] w fun e w' => e = .returned (.agg #[.int .i64 z, .int .i64 o]) ∧ Below w.heap.size w w' := by
  have hB1 := fun o => (Below.refl w.heap.size w).alloc (Nat.le_refl _) o
  have hB2 := fun o o' => (hB1 o).alloc (by simp) o'
  have hB3 := fun o o' o'' => (hB2 o o').alloc (by simp; omega) o''
  go_enter Try.func47, Try.ntmps47
  go_wp2
  simp [bodyPost, results, Try.results47, go_sem]
  exact hB3 _ _ _

theorem eqKnownL_any (z o z' o' : Int) (w : World) :
    Calls Try.prog 51 #[.agg #[.int .i64 z, .int .i64 o], .agg #[.int .i64 z', .int .i64 o']] w fun e w' => e = .returned (.bool (z == z' && o == o')) ∧ Below w.heap.size w w' := by
  have hB1 := fun o => (Below.refl w.heap.size w).alloc (Nat.le_refl _) o
  have hB2 := fun o o' => (hB1 o).alloc (by simp) o'
  go_enter Try.func51, Try.ntmps51
  go_wp2
  all_goals go_ret
  all_goals exact ⟨ret_bool (by simp_all), hB2 _ _⟩

theorem sKnown_any (z o : Int) (w : World) :
    Calls Try.prog 93 #[.agg #[.int .i64 z, .int .i64 o]] w fun e w' => e = .returned (.bool (knOk z o)) ∧ Below w.heap.size w w' := by
  have hB1 := Lib.hid fun o => (Below.refl w.heap.size w).alloc (Nat.le_refl _) o
  have hW := Lib.hid fun (n : Int) (W : World) => exWord_w n W
  have hk : Hid (knOk z o = (isW z && isW o && (bits .and .i64 z o == 0))) := rfl
  cases h1 : isW z
  · rw [h1] at hk
    have hZ := Lib.hid fun W => hW.out z W
    rw [h1] at hZ
    go_enter Try.func93, Try.ntmps93
    go_wp2_with (go_at_call 77; refine (hZ.out _).mono ?_; rintro e w' ⟨rfl, rfl⟩)
    go_ret
    exact ⟨ret_bool (by rw [hk.out]; rfl), hB1.out _⟩
  cases h2 : isW o
  · rw [h1, h2] at hk
    have hZ := Lib.hid fun W => hW.out z W
    have hO := Lib.hid fun W => hW.out o W
    rw [h1] at hZ
    rw [h2] at hO
    go_enter Try.func93, Try.ntmps93
    go_wp2_with (first | (go_at_call 77; (with_reducible refine (hZ.out _).mono ?_); rintro e w' ⟨rfl, rfl⟩) | (go_at_call 77; (with_reducible refine (hO.out _).mono ?_); rintro e w' ⟨rfl, rfl⟩))
    go_ret
    exact ⟨ret_bool (by rw [hk.out]; rfl), hB1.out _⟩
  · rw [h1, h2] at hk
    have hZ := Lib.hid fun W => hW.out z W
    have hO := Lib.hid fun W => hW.out o W
    rw [h1] at hZ
    rw [h2] at hO
    go_enter Try.func93, Try.ntmps93
    go_wp2_with (first | (go_at_call 77; (with_reducible refine (hZ.out _).mono ?_); rintro e w' ⟨rfl, rfl⟩) | (go_at_call 77; (with_reducible refine (hO.out _).mono ?_); rintro e w' ⟨rfl, rfl⟩))
    go_ret
    exact ⟨ret_bool (by rw [hk.out]; rfl), hB1.out _⟩

theorem iIsKnown_any (z o : Int) (w : World) :
    Calls Try.prog 48 #[.agg #[.int .i64 z, .int .i64 o]] w fun e w' => e = .returned (.bool (knOk z o)) ∧ Below w.heap.size w w' := by
  have hB1 := Lib.hid fun o => (Below.refl w.heap.size w).alloc (Nat.le_refl _) o
  have hW := Lib.hid fun (n : Int) (W : World) => isWord_any n W
  have hk : Hid (knOk z o = (isW z && isW o && (bits .and .i64 z o == 0))) := rfl
  cases h1 : isW z
  · rw [h1] at hk
    have hZ := Lib.hid fun W => hW.out z W
    rw [h1] at hZ
    go_enter Try.func48, Try.ntmps48
    go_wp2_with (go_at_call 78; refine (hZ.out _).mono ?_; rintro e w' ⟨rfl, rfl⟩)
    go_ret
    exact ⟨ret_bool (by rw [hk.out]; rfl), hB1.out _⟩
  cases h2 : isW o
  · rw [h1, h2] at hk
    have hZ := Lib.hid fun W => hW.out z W
    have hO := Lib.hid fun W => hW.out o W
    rw [h1] at hZ
    rw [h2] at hO
    go_enter Try.func48, Try.ntmps48
    go_wp2_with (first | (go_at_call 78; (with_reducible refine (hZ.out _).mono ?_); rintro e w' ⟨rfl, rfl⟩) | (go_at_call 78; (with_reducible refine (hO.out _).mono ?_); rintro e w' ⟨rfl, rfl⟩))
    go_ret
    exact ⟨ret_bool (by rw [hk.out]; rfl), hB1.out _⟩
  · rw [h1, h2] at hk
    have hZ := Lib.hid fun W => hW.out z W
    have hO := Lib.hid fun W => hW.out o W
    rw [h1] at hZ
    rw [h2] at hO
    go_enter Try.func48, Try.ntmps48
    go_wp2_with (first | (go_at_call 78; (with_reducible refine (hZ.out _).mono ?_); rintro e w' ⟨rfl, rfl⟩) | (go_at_call 78; (with_reducible refine (hO.out _).mono ?_); rintro e w' ⟨rfl, rfl⟩))
    go_ret
    exact ⟨ret_bool (by rw [hk.out]; rfl), hB1.out _⟩

theorem sIsKnown_any (z o : Int) (w : World) :
    Calls Try.prog 46 #[.agg #[.int .i64 z, .int .i64 o]] w fun e w' => e = .returned (.bool (knOk z o)) ∧ Below w.heap.size w w' := by
  have hB1 := Lib.hid fun o => (Below.refl w.heap.size w).alloc (Nat.le_refl _) o
  have H := Lib.hid fun W => sKnown_any z o W
  go_enter Try.func46, Try.ntmps46
  go_wp2_with (fail)
  refine (H.out _).mono ?_
  rintro e w' ⟨rfl, hb⟩
  have hb' := Lib.hid ((hB1.out _).trans (hb.mono (by simp)))
  clear hb
  go_wp2
  go_ret
  exact ⟨rfl, hb'.out⟩

theorem mask_any (z o : Int) (w : World) :
    Calls Try.prog 97 #[.agg #[.int .i64 z, .int .i64 o]] w fun e w' => e = .returned (.int .i64 (bits .or .i64 z o)) ∧ Below w.heap.size w w' := by
  have hB1 := Lib.hid fun o => (Below.refl w.heap.size w).alloc (Nat.le_refl _) o
  go_enter Try.func97, Try.ntmps97
  go_wp2
  go_ret
  exact ⟨rfl, hB1.out _⟩
theorem knownAt_any (x m : Int) (w : World) :
    Calls Try.prog 96 #[.int .i64 x, .int .i64 m] w fun e w' => e = .returned (.agg #[.int .i64 (bits .andNot .i64 m x), .int .i64 (bits .and .i64 m x)]) ∧ Below w.heap.size w w' := by
  have hB1 := fun o => (Below.refl w.heap.size w).alloc (Nat.le_refl _) o
  go_enter Try.func96, Try.ntmps96
  go_wp2
  simp [bodyPost, results, Try.results96, go_sem]
  exact hB1 _
theorem knownWord_any (x : Int) (w : World) :
    Calls Try.prog 98 #[.int .i64 x] w fun e w' => e = .returned (.agg #[.int .i64 (bits .andNot .i64 63 x), .int .i64 (bits .and .i64 63 x)]) ∧ Below w.heap.size w w' := by
  have hB1 := Lib.hid fun o => (Below.refl w.heap.size w).alloc (Nat.le_refl _) o
  have H := Lib.hid fun W => knownAt_any x 63 W
  go_enter Try.func98, Try.ntmps98
  go_wp2_with (fail)
  refine (H.out _).mono ?_
  rintro e w1 ⟨rfl, hb⟩
  have hb' := Lib.hid ((hB1.out _).trans (hb.mono (by simp)))
  have k0 : IB (w.alloc (.cells #[.int .i64 0, .int .i64 0] 51)) w.heap.size 51 [0, 0] := heap_alloc_new w _
  have k1 := k0.below hb (by simp)
  have d0 := k1.cell 0 (by simp)
  have d1 := k1.cell 1 (by simp)
  have f0 := k1.frozen 0
  have f1 := k1.frozen 1
  have k2 := Lib.hid ((k1.set 0 (bits .andNot .i64 63 x)).set 1 (bits .and .i64 63 x))
  clear hb k0 k1
  go_wp2
  have hb2 := (hb'.out.setCell (p := ⟨w.heap.size, 0, none⟩) (Nat.le_refl _) (.int .i64 (bits .andNot .i64 63 x))).setCell (p := ⟨w.heap.size, 1, none⟩) (Nat.le_refl _) (.int .i64 (bits .and .i64 63 x))
  exact known_ret rfl rfl k2.out ⟨rfl, hb2⟩
theorem joinKnown_any (z o z' o' : Int) (w : World) :
    Calls Try.prog 94 #[.agg #[.int .i64 z, .int .i64 o], .agg #[.int .i64 z', .int .i64 o']] w fun e w' => e = .returned (.agg #[.int .i64 (bits .and .i64 z z'), .int .i64 (bits .and .i64 o o')]) ∧ Below w.heap.size w w' := by
  have hB1 := fun o => (Below.refl w.heap.size w).alloc (Nat.le_refl _) o
  have hB2 := fun o o' => (hB1 o).alloc (by simp) o'
  have hB3 := fun o o' o'' => (hB2 o o').alloc (by simp; omega) o''
  go_enter Try.func94, Try.ntmps94
  go_wp2
  simp [bodyPost, results, Try.results94, go_sem]
  exact hB3 _ _ _
end Go.Proofs.Ytcfmfbgnfpgpgaa
