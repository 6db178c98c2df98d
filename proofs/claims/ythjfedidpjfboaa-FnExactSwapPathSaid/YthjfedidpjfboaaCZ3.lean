import Derived.Test.YthjfedidpjfboaaCY
import Derived.WalkKit
import Derived.WalkSpells
import Derived.WalkLawsBesides
import Derived.Deep.RegionHeld3
import Derived.Lib.Hide
namespace Go.Proofs.Ythjfedidpjfboaa
open Go.RowKit
set_option linter.unusedVariables false
set_option maxRecDepth 100000

theorem step_unwanted {o : Oper} {y : Nat → Option Bool} {X E : Prop} (h : Region.wanted o y = false) (hE : E) : if Region.wanted o y = true then X else E := by rw [h]; exact hE
set_option maxHeartbeats 16000000 in
theorem cdFree_any (x y : In) (w : World) :
    Calls Try.prog 146 #[.agg #[.string x.op, .int .i64 x.d, .int .i64 x.a, .int .i64 x.b, .int .i64 x.m], .agg #[.string y.op, .int .i64 y.d, .int .i64 y.a, .int .i64 y.b, .int .i64 y.m]] w fun e w' => e = .returned (.bool (freeB x y)) ∧ Below w.heap.size w w' := by
  have hT : Hid (freeB x y = (!(x.d == y.d) && !hasI (readsL x) y.d && !hasI (readsL y) x.d)) := rfl
  have hRx := Lib.hid (cdReads_any x)
  have hRy := Lib.hid (cdReads_any y)
  have hLx := Lib.hid (readsL_len x)
  have hLy := Lib.hid (readsL_len y)
  generalize freeB x y = T at *
  generalize readsL x = Rx at *
  generalize readsL y = Ry at *
  obtain ⟨op, d, a, b, m⟩ := x
  obtain ⟨op', d', a', b', m'⟩ := y
  simp only at hT hRx hRy
  have hB2 := fun o o' => Lib.hid (((Below.refl w.heap.size w).alloc (Nat.le_refl _) o).alloc (by simp) o')
  by_cases h : d = d'
  · have hE : (d != d') = false := by simp [h]
    have hE' : (d == d') = true := by simp [h]
    have hF : Hid (T = false) := by rw [Hid, hT.out, hE']; rfl
    clear h
    go_enter Try.func146, Try.ntmps146
    go_wp2_with (fail)
    go_quiet (fail)
    go_wp2
    go_ret
    exact ⟨ret_bool hF.out.symm, below_drewN (hB2 _ _).out _⟩
  · have hE : (d != d') = true := by simp [h]
    have hE' : (d == d') = false := by simp [h]
    clear h
    cases hx : hasI Rx d'
    · have hX := Lib.hid hx
      have hHx := Lib.hid (fun L B A c W (h : IS W L B A Rx) => l1Has_lit L B A Rx.length c Rx d' _ W hx rfl (by have := hLx.out; omega) h)
      have hHy := Lib.hid (fun L B A c W (h : IS W L B A Ry) => l1Has_eq L B A Ry.length c Ry d W rfl (by have := hLy.out; omega) h)
      have hF : Hid (T = !hasI Ry d) := by rw [Hid, hT.out, hE', hx]; simp
      clear hx
      go_enter Try.func146, Try.ntmps146
      go_wp2_with (fail)
      obtain ⟨w1, hw1⟩ : ∃ w1 : World, w1 = (w.alloc (.cells #[.string op, .int .i64 d, .int .i64 a, .int .i64 b, .int .i64 m] 90)).alloc (.cells #[.string op', .int .i64 d', .int .i64 a', .int .i64 b', .int .i64 m'] 90) := ⟨_, rfl⟩
      rw [← hw1]
      obtain ⟨xa, xb, xc, xd, xe⟩ := In.box (RS.below (In.boxed (w := w) (t := 90) ⟨op, d, a, b, m⟩) (show Below (w.heap.size + 1) _ w1 by rw [hw1]; exact (Below.refl _ _).alloc (by simp) _) (by omega))
      have hy := In.boxed (w := w.alloc (.cells #[.string op, .int .i64 d, .int .i64 a, .int .i64 b, .int .i64 m] 90)) (t := 90) ⟨op', d', a', b', m'⟩
      rw [show (w.alloc (.cells #[.string op, .int .i64 d, .int .i64 a, .int .i64 b, .int .i64 m] 90)).heap.size = w.heap.size + 1 by simp, ← hw1] at hy
      obtain ⟨ya, yb, yc, yd, ye⟩ := In.box hy
      have hbw : Hid (Below w.heap.size w w1) := by rw [hw1]; exact (hB2 _ _).out
      have hz : w1.heap.size = w.heap.size + 2 := by rw [hw1]; simp
      have hz1 : w.heap.size < w1.heap.size := by omega
      have hz2 : w.heap.size + 1 < w1.heap.size := by omega
      clear hw1 hy hz
      simp only at xa xb xc xd xe ya yb yc yd ye
      go_region_law (first
        | (go_simp; go_at_call 150; (with_reducible refine (hRx.out _).mono ?_); rintro e w2 ⟨A2, c2, rfl, ho2, hb2⟩; have xa2 := (hb2.cell (p := ⟨w.heap.size, 0, none⟩) hz1).trans xa; have xb2 := (hb2.cell (p := ⟨w.heap.size, 1, none⟩) hz1).trans xb; have xc2 := (hb2.cell (p := ⟨w.heap.size, 2, none⟩) hz1).trans xc; have xd2 := (hb2.cell (p := ⟨w.heap.size, 3, none⟩) hz1).trans xd; have xe2 := (hb2.cell (p := ⟨w.heap.size, 4, none⟩) hz1).trans xe; have ya2 := (hb2.cell (p := ⟨w.heap.size + 1, 0, none⟩) hz2).trans ya; have yb2 := (hb2.cell (p := ⟨w.heap.size + 1, 1, none⟩) hz2).trans yb; have yc2 := (hb2.cell (p := ⟨w.heap.size + 1, 2, none⟩) hz2).trans yc; have yd2 := (hb2.cell (p := ⟨w.heap.size + 1, 3, none⟩) hz2).trans yd; have ye2 := (hb2.cell (p := ⟨w.heap.size + 1, 4, none⟩) hz2).trans ye; have hz12 : w.heap.size < w2.heap.size := (by have := hb2.size; exact Nat.lt_of_lt_of_le hz1 this); have hz22 : w.heap.size + 1 < w2.heap.size := (by have := hb2.size; exact Nat.lt_of_lt_of_le hz2 this))
        | (go_simp; go_at_call 150; (with_reducible refine (hRy.out _).mono ?_); rintro e w3 ⟨A3, c3, rfl, ho3, hb3⟩; have xa3 := (hb3.cell (p := ⟨w.heap.size, 0, none⟩) hz12).trans xa2; have xb3 := (hb3.cell (p := ⟨w.heap.size, 1, none⟩) hz12).trans xb2; have xc3 := (hb3.cell (p := ⟨w.heap.size, 2, none⟩) hz12).trans xc2; have xd3 := (hb3.cell (p := ⟨w.heap.size, 3, none⟩) hz12).trans xd2; have xe3 := (hb3.cell (p := ⟨w.heap.size, 4, none⟩) hz12).trans xe2; have ya3 := (hb3.cell (p := ⟨w.heap.size + 1, 0, none⟩) hz22).trans ya2; have yb3 := (hb3.cell (p := ⟨w.heap.size + 1, 1, none⟩) hz22).trans yb2; have yc3 := (hb3.cell (p := ⟨w.heap.size + 1, 2, none⟩) hz22).trans yc2; have yd3 := (hb3.cell (p := ⟨w.heap.size + 1, 3, none⟩) hz22).trans yd2; have ye3 := (hb3.cell (p := ⟨w.heap.size + 1, 4, none⟩) hz22).trans ye2)
        | (go_simp; go_at_call 92; (with_reducible refine (hHx.out _ _ _ _ _ (by exact ho2.rs)).mono ?_); rintro e w' ⟨rfl, rfl⟩)
        | (go_simp; go_at_call 92; (with_reducible refine (hHy.out _ _ _ _ _ (by exact ho3.rs)).mono ?_); rintro e w' ⟨rfl, rfl⟩))
      all_goals
        have hfin := Lib.hid (hbw.out.trans ((((Below.refl w1.heap.size w1).drew.trans hb2).trans (hb3.mono (by have := hb2.size; exact this))).mono (by omega)))
        go_wp2
        go_ret
        exact ⟨ret_bool (by rw [hF.out]), hfin.out⟩
    · have hX := Lib.hid hx
      have hHx := Lib.hid (fun L B A c W (h : IS W L B A Rx) => l1Has_lit L B A Rx.length c Rx d' _ W hx rfl (by have := hLx.out; omega) h)
      have hHy := Lib.hid (fun L B A c W (h : IS W L B A Ry) => l1Has_eq L B A Ry.length c Ry d W rfl (by have := hLy.out; omega) h)
      have hF : Hid (T = false) := by rw [Hid, hT.out, hE', hx]; rfl
      clear hx
      go_enter Try.func146, Try.ntmps146
      go_wp2_with (fail)
      obtain ⟨w1, hw1⟩ : ∃ w1 : World, w1 = (w.alloc (.cells #[.string op, .int .i64 d, .int .i64 a, .int .i64 b, .int .i64 m] 90)).alloc (.cells #[.string op', .int .i64 d', .int .i64 a', .int .i64 b', .int .i64 m'] 90) := ⟨_, rfl⟩
      rw [← hw1]
      obtain ⟨xa, xb, xc, xd, xe⟩ := In.box (RS.below (In.boxed (w := w) (t := 90) ⟨op, d, a, b, m⟩) (show Below (w.heap.size + 1) _ w1 by rw [hw1]; exact (Below.refl _ _).alloc (by simp) _) (by omega))
      have hy := In.boxed (w := w.alloc (.cells #[.string op, .int .i64 d, .int .i64 a, .int .i64 b, .int .i64 m] 90)) (t := 90) ⟨op', d', a', b', m'⟩
      rw [show (w.alloc (.cells #[.string op, .int .i64 d, .int .i64 a, .int .i64 b, .int .i64 m] 90)).heap.size = w.heap.size + 1 by simp, ← hw1] at hy
      obtain ⟨ya, yb, yc, yd, ye⟩ := In.box hy
      have hbw : Hid (Below w.heap.size w w1) := by rw [hw1]; exact (hB2 _ _).out
      have hz : w1.heap.size = w.heap.size + 2 := by rw [hw1]; simp
      have hz1 : w.heap.size < w1.heap.size := by omega
      have hz2 : w.heap.size + 1 < w1.heap.size := by omega
      clear hw1 hy hz
      simp only at xa xb xc xd xe ya yb yc yd ye
      first | (go_region_law (first
        | (refine step_unwanted (by rfl) ?_)
        | (go_simp; go_at_call 150; (with_reducible refine (hRx.out _).mono ?_); rintro e w2 ⟨A2, c2, rfl, ho2, hb2⟩; have xa2 := (hb2.cell (p := ⟨w.heap.size, 0, none⟩) hz1).trans xa; have xb2 := (hb2.cell (p := ⟨w.heap.size, 1, none⟩) hz1).trans xb; have xc2 := (hb2.cell (p := ⟨w.heap.size, 2, none⟩) hz1).trans xc; have xd2 := (hb2.cell (p := ⟨w.heap.size, 3, none⟩) hz1).trans xd; have xe2 := (hb2.cell (p := ⟨w.heap.size, 4, none⟩) hz1).trans xe; have ya2 := (hb2.cell (p := ⟨w.heap.size + 1, 0, none⟩) hz2).trans ya; have yb2 := (hb2.cell (p := ⟨w.heap.size + 1, 1, none⟩) hz2).trans yb; have yc2 := (hb2.cell (p := ⟨w.heap.size + 1, 2, none⟩) hz2).trans yc; have yd2 := (hb2.cell (p := ⟨w.heap.size + 1, 3, none⟩) hz2).trans yd; have ye2 := (hb2.cell (p := ⟨w.heap.size + 1, 4, none⟩) hz2).trans ye)
        | (go_simp; go_at_call 92; (with_reducible refine (hHx.out _ _ _ _ _ (by exact ho2.rs)).mono ?_); rintro e w' ⟨rfl, rfl⟩))) | fail
      all_goals
        go_wp2
        go_ret
        exact ⟨ret_bool hF.out.symm, hbw.out.trans (((Below.refl w1.heap.size w1).drew.trans hb2).mono (by omega))⟩
end Go.Proofs.Ythjfedidpjfboaa
