import Derived.Test.YtieljgfocgdngaaRD
import Derived.Test.YtieljgfocgdngaaKMNode
import Derived.WalkKit
import Derived.WalkSpells
import Derived.WalkLawsBesides
import Derived.Laws.StructEq
import Derived.Lib.Hide
/- Nodes compared by '=='. -/
namespace Go.Proofs.Ytieljgfocgdngaa
open Go.RowKit
set_option linter.unusedVariables false
set_option maxRecDepth 100000
theorem nd_guard : Try.prog.eqGuardType Try.prog.depth 62 = false := by kernel_rfl
theorem equalIn_nd (op op' : ByteArray) (a b v a' b' v' : Int) (w : World) : (Op.equalIn 10000 62 (.agg #[.string op, .int .i64 a, .int .i64 b, .int .i64 v]) (.agg #[.string op', .int .i64 a', .int .i64 b', .int .i64 v'])).run Try.prog w = .ok (sameN ⟨op, a, b, v⟩ ⟨op', a', b', v'⟩) w := by
  have u3 := Try.underlying3
  have a3 := Try.isAgg3
  have z3 := Try.sizeOf3
  have u9 := Try.underlying9
  have a9 := Try.isAgg9
  have z9 := Try.sizeOf9
  have hS : Try.prog.underlying 62 = some (.struct (Try.prog.fieldsOf 62)) := by kernel_rfl
  have hp : Try.prog.stoodInHeld 62 = false := by kernel_rfl
  rw [show (10000 : Nat) = 9999 + 1 from rfl, run_equalIn_agg w 9999 62 _ _ hS hp]
  simp only [Program.fieldsOf, Try.underlying62]
  unfold sameN
  go_simp
  by_cases h0 : op.toList = op'.toList <;> by_cases h1 : a = a' <;> by_cases h2 : b = b' <;> by_cases h3 : v = v' <;> simp [h0, h1, h2, h3]
theorem sameL_no {xs ys : List Nd} {k : Nat} (hk : k < xs.length) (h : sameN (xs.getD k zeroNd) (ys.getD k zeroNd) = false) : sameL xs ys = false := by
  unfold sameL
  rw [Bool.and_eq_false_iff]; right
  rw [List.all_eq_false]
  exact ⟨k, by simpa using hk, by simpa using h⟩
theorem sameL_yes {xs ys : List Nd} (hl : xs.length = ys.length) (h : ∀ k, k < xs.length → sameN (xs.getD k zeroNd) (ys.getD k zeroNd) = true) : sameL xs ys = true := by
  unfold sameL
  rw [Bool.and_eq_true]
  refine ⟨decide_eq_true hl, ?_⟩
  rw [List.all_eq_true]
  intro k hk
  exact h k (by simpa using hk)
theorem sameL_len {xs ys : List Nd} (hl : xs.length ≠ ys.length) : sameL xs ys = false := by
  unfold sameL; rw [decide_eq_false hl]; rfl

set_option maxHeartbeats 1000000 in
theorem equalN_any (L B L' B' : Nat) (A A' : Option Addr) (c c' : Nat) (xs ys : List Nd) (w : World) (hl : xs.length ≤ 1048576) (hl' : ys.length ≤ 1048576) (hx : NS w L B A xs) (hy : NS w L' B' A' ys) (hB : B ≤ w.heap.size) (hB' : B' ≤ w.heap.size) :
    Calls Try.prog 120 #[.slice A xs.length c, .slice A' ys.length c'] w fun e w' => e = .returned (.bool (sameL xs ys)) ∧ Below w.heap.size w w' := by
  have hX := Lib.hid hx
  have hY := Lib.hid hy
  have hBel0 := Below.refl w.heap.size w
  have hgd := nd_guard
  clear hx hy
  by_cases hll : xs.length = ys.length
  · have hLL := Lib.hid hll
    have hi : (xs.length : Int) = (ys.length : Int) := by omega
    clear hll
    go_enter Try.func120, Try.ntmps120
    go_wp2
    go_loopw [13] (fun i wr => ∃ k : Nat, k ≤ xs.length ∧ i = .int .i64 k ∧ (∀ j, j < k → sameN (xs.getD j zeroNd) (ys.getD j zeroNd) = true) ∧ Below w.heap.size w wr) (fun i _ => xs.length - (intOf i).toNat)
    case atStart => exact ⟨0, Nat.zero_le _, rfl, fun j hj => by omega, hBel0⟩
    case round =>
      obtain ⟨k, hk, rfl, hall, hbel⟩ := hrel
      have hAll := Lib.hid hall
      have hBe := Lib.hid hbel
      clear hall
      by_cases hlt : k < xs.length
      · obtain ⟨b, o, rfl, ⟨_, hbB⟩, hc⟩ := (hX.out.below hbel hB) (by omega)
        obtain ⟨b9, o9, rfl, ⟨_, hbB'⟩, hc'⟩ := (hY.out.below hbel hB') (by have := hLL.out; omega)
        have hlt' : k < ys.length := by have := hLL.out; omega
        obtain ⟨c1, c2, c3, c4⟩ := hc k hlt
        obtain ⟨d1, d2, d3, d4⟩ := hc' k hlt'
        have k0 : (0 : Int) ≤ (k : Int) := by omega
        have k1 : (k : Int) < (xs.length : Int) := by omega
        have k2 : (k : Int) < (ys.length : Int) := by omega
        have hg1 := getD_nd hlt
        have hg2 := getD_nd hlt'
        have hNo := Lib.hid (sameL_no (ys := ys) hlt)
        rw [hg1, hg2] at hNo
        have hYs := Lib.hid (show sameN xs[k] ys[k] = true → ∀ j, j < k + 1 → sameN (xs.getD j zeroNd) (ys.getD j zeroNd) = true from fun h j hj => by
          by_cases e : j = k
          · subst e; rw [hg1, hg2]; exact h
          · exact hAll.out j (by omega))
        clear hc hc' hbel hg1 hg2
        generalize xs[k] = x at *
        generalize ys[k] = y at *
        obtain ⟨op, a, bb, v⟩ := x
        obtain ⟨op', a', b', v'⟩ := y
        dsimp only at *
        have hEq := fun W => equalIn_nd op op' a bb v a' b' v' W
        cases hs : sameN ⟨op, a, bb, v⟩ ⟨op', a', b', v'⟩
        · have hn := Lib.hid (hNo.out hs)
          rw [hs] at hEq
          clear hs hNo hYs
          go_wp2_with (fail)
          go_region
          all_goals go_wp2
          all_goals go_ret
          all_goals exact ⟨ret_bool (by rw [hn.out]), hBe.out.drew⟩
        · have hy2 := Lib.hid (hYs.out hs)
          rw [hs] at hEq
          clear hs hNo hYs
          go_wp2_with (fail)
          go_region
          all_goals go_wp2
          all_goals go_roundw
          case rel => exact ⟨k + 1, by omega, by go_num, hy2.out, hBe.out.drew⟩
          case measure => simp [intOf]; omega
      · obtain rfl : k = xs.length := by omega
        have hy := Lib.hid (sameL_yes hLL.out hAll.out)
        go_wp2
        go_ret
        exact ⟨ret_bool (by rw [hy.out]), hBe.out⟩
  · have hi : (xs.length : Int) ≠ (ys.length : Int) := by omega
    have hn := Lib.hid (sameL_len hll)
    clear hll
    go_enter Try.func120, Try.ntmps120
    go_wp2
    go_ret
    exact ⟨ret_bool (by rw [hn.out]), hBel0⟩
end Go.Proofs.Ytieljgfocgdngaa
