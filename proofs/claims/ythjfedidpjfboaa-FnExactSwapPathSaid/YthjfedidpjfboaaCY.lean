import Derived.Test.YthjfedidpjfboaaCX
import Derived.Test.YthjfedidpjfboaaHI
import Derived.WalkKit
import Derived.WalkSpells
import Derived.WalkLawsBesides
import Derived.Deep.RegionHeld3
import Derived.Lib.Hide
namespace Go.Proofs.Ythjfedidpjfboaa
open Go.RowKit
set_option linter.unusedVariables false
set_option maxRecDepth 100000

theorem l1Has_lit (L B : Nat) (A : Option Addr) (m c : Nat) (xs : List Int) (n : Int) (r : Bool) (w : World) (hr : hasI xs n = r) (hm : m = xs.length) (hl : xs.length ≤ 1000000) (hx : IS w L B A xs) :
    Calls Try.prog 92 #[.slice A m c, .int .i64 n] w fun e w' => e = .returned (.bool r) ∧ w = w' := by
  subst hr; exact l1Has_eq L B A m c xs n w hm hl hx
def readsR (x : In) : List Int := if goodIn x = true then readsL x else []
theorem readsR_len (x : In) : (readsR x).length ≤ 1048576 := by
  unfold readsR; split
  · have := readsL_len x; omega
  · simp

/-- Whether two instructions are independent. -/
def freeB (x y : In) : Bool := !(x.d == y.d) && !hasI (readsL x) y.d && !hasI (readsL y) x.d
/-- Whether x writes what y reads or writes. -/
def touchB (x y : In) : Bool := x.d == y.d || hasI (readsL y) x.d
theorem free_touch (x y : In) : freeB x y = (!touchB x y && !touchB y x) := by
  unfold freeB touchB
  have : (y.d == x.d) = (x.d == y.d) := by rw [Bool.eq_iff_iff]; simp; exact eq_comm
  rw [this]
  cases x.d == y.d <;> cases hasI (readsL x) y.d <;> cases hasI (readsL y) x.d <;> rfl
set_option maxHeartbeats 4000000 in
theorem isTouching_any (x y : In) (w : World) :
    Calls Try.prog 203 #[.agg #[.string x.op, .int .i64 x.d, .int .i64 x.a, .int .i64 x.b, .int .i64 x.m], .agg #[.string y.op, .int .i64 y.d, .int .i64 y.a, .int .i64 y.b, .int .i64 y.m]] w fun e w' => e = .returned (.bool (touchB x y)) ∧ Below w.heap.size w w' := by
  have hT : Hid (touchB x y = (x.d == y.d || hasI (readsL y) x.d)) := rfl
  have hRd := Lib.hid (readsOf_any y)
  have hRl := Lib.hid (readsL_len y)
  generalize touchB x y = T at *
  generalize readsL y = R at *
  obtain ⟨op, d, a, b, m⟩ := x
  obtain ⟨op', d', a', b', m'⟩ := y
  simp only at hT hRd
  have hB2 := fun o o' => Lib.hid (((Below.refl w.heap.size w).alloc (Nat.le_refl _) o).alloc (by simp) o')
  by_cases h : d = d'
  · have hE : (d == d') = true := by simp [h]
    have hF : Hid (T = true) := by rw [Hid, hT.out, hE]; rfl
    clear h
    go_enter Try.func203, Try.ntmps203
    go_wp2_with (fail)
    go_quiet (fail)
    go_wp2
    go_ret
    exact ⟨ret_bool hF.out.symm, below_drewN (hB2 _ _).out _⟩
  · have hE : (d == d') = false := by simp [h]
    have hF : Hid (T = hasI R d) := by rw [Hid, hT.out, hE]; rfl
    clear h
    go_enter Try.func203, Try.ntmps203
    go_wp2_with (fail)
    obtain ⟨w1, hw1⟩ : ∃ w1 : World, w1 = (w.alloc (.cells #[.string op, .int .i64 d, .int .i64 a, .int .i64 b, .int .i64 m] 90)).alloc (.cells #[.string op', .int .i64 d', .int .i64 a', .int .i64 b', .int .i64 m'] 90) := ⟨_, rfl⟩
    rw [← hw1]
    obtain ⟨xa, xb, xc, xd, xe⟩ := In.box (RS.below (In.boxed (w := w) (t := 90) ⟨op, d, a, b, m⟩) (show Below (w.heap.size + 1) _ w1 by rw [hw1]; exact (Below.refl _ _).alloc (by simp) _) (by omega))
    have hy := In.boxed (w := w.alloc (.cells #[.string op, .int .i64 d, .int .i64 a, .int .i64 b, .int .i64 m] 90)) (t := 90) ⟨op', d', a', b', m'⟩
    rw [show (w.alloc (.cells #[.string op, .int .i64 d, .int .i64 a, .int .i64 b, .int .i64 m] 90)).heap.size = w.heap.size + 1 by simp, ← hw1] at hy
    obtain ⟨ya, yb, yc, yd, ye⟩ := In.box hy
    have hbw : Hid (Below w.heap.size w w1) := by rw [hw1]; exact (hB2 _ _).out
    have hz : w1.heap.size = w.heap.size + 2 := by rw [hw1]; simp
    have hz1 : w.heap.size < w1.heap.size := by omega
    have hz2 : w.heap.size + 1 < w1.heap.size := by omega
    clear hw1 hy hz
    simp only at xa xb xc xd xe ya yb yc yd ye
    go_region_held3 (fun w' => w'.cell? ⟨w.heap.size, 1, none⟩ = some (.int .i64 d) ∧ w'.cell? ⟨w.heap.size + 1, 0, none⟩ = some (.string op') ∧ w'.cell? ⟨w.heap.size + 1, 1, none⟩ = some (.int .i64 d') ∧ w'.cell? ⟨w.heap.size + 1, 2, none⟩ = some (.int .i64 a') ∧ w'.cell? ⟨w.heap.size + 1, 3, none⟩ = some (.int .i64 b') ∧ w'.cell? ⟨w.heap.size + 1, 4, none⟩ = some (.int .i64 m'))
      (first | exact ⟨xb, ya, yb, yc, yd, ye⟩ | exact ⟨(hb2.cell hz1).trans xb, (hb2.cell hz2).trans ya, (hb2.cell hz2).trans yb, (hb2.cell hz2).trans yc, (hb2.cell hz2).trans yd, (hb2.cell hz2).trans ye⟩ | go_keep)
      ((first
        | (go_at_call 154; refine (hRd.out _).mono ?_; rintro e w2 ⟨A2, c2, rfl, ho2, hb2⟩)
        | (go_at_call 142; refine (Contains_eq _ _ _ _ _ _ _ _ rfl (by have := hRl.out; omega) (by exact ho2.rs)).mono ?_; rintro e w' ⟨rfl, rfl⟩)))
    have hfin := Lib.hid (hbw.out.drew.trans (hb2.mono hbw.out.size))
    clear hb2 ho2
    go_wp2
    go_ret
    exact ⟨ret_bool hF.out.symm, hfin.out⟩

end Go.Proofs.Ythjfedidpjfboaa
