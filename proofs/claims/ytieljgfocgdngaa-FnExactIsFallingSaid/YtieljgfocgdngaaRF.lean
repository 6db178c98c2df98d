import Derived.Test.YtieljgfocgdngaaRE
import Derived.Test.YtieljgfocgdngaaTM
import Derived.Test.YtieljgfocgdngaaK2
import Derived.Test.YtieljgfocgdngaaWB
import Derived.WalkKit
import Derived.WalkSpells
import Derived.WalkLawsBesides
import Derived.Lib.Hide
/- The model's comparison of lists of nodes; its counts of inputs. -/
namespace Go.Proofs.Ytieljgfocgdngaa
open Go.RowKit
set_option linter.unusedVariables false
set_option maxRecDepth 100000

set_option maxHeartbeats 1000000 in
theorem ruSame_any (L B L' B' : Nat) (A A' : Option Addr) (c c' : Nat) (xs ys : List Nd) (w : World) (hl : xs.length ≤ 1048576) (hl' : ys.length ≤ 1048576) (hx : NS w L B A xs) (hy : NS w L' B' A' ys) (hB : B ≤ w.heap.size) (hB' : B' ≤ w.heap.size) :
    Calls Try.prog 140 #[.slice A xs.length c, .slice A' ys.length c'] w fun e w' => e = .returned (.bool (sameL xs ys)) ∧ Below w.heap.size w w' := by
  have hX := Lib.hid hx
  have hY := Lib.hid hy
  have hBel0 := Below.refl w.heap.size w
  have hgd := nd_guard
  clear hx hy
  by_cases hll : xs.length = ys.length
  · have hLL := Lib.hid hll
    have hi : (xs.length : Int) = (ys.length : Int) := by omega
    clear hll
    go_enter Try.func140, Try.ntmps140
    go_wp2
    go_loopw [14] (fun i wr => ∃ k : Nat, k ≤ xs.length ∧ i = .int .i64 k ∧ (∀ j, j < k → sameN (xs.getD j zeroNd) (ys.getD j zeroNd) = true) ∧ Below w.heap.size w wr) (fun i _ => xs.length - (intOf i).toNat)
    case atStart => exact ⟨0, Nat.zero_le _, rfl, fun j hj => by omega, hBel0⟩
    case round =>
      obtain ⟨k, hk, rfl, hall, hbel⟩ := hrel
      have hAll := Lib.hid hall
      have hBe := Lib.hid hbel
      clear hall
      by_cases hlt : k < xs.length
      · obtain ⟨b, o, rfl, ⟨_, hbB⟩, hc⟩ := (hX.out.below hbel hB) (by omega)
        have hlt' : k < ys.length := by have := hLL.out; omega
        obtain ⟨c1, c2, c3, c4⟩ := hc k hlt
        have k0 : (0 : Int) ≤ (k : Int) := by omega
        have k1 : (k : Int) < (xs.length : Int) := by omega
        have k2 : (k : Int) < (ys.length : Int) := by omega
        have hg1 := getD_nd hlt
        have hg2 := getD_nd hlt'
        have hNo := Lib.hid (sameL_no (ys := ys) hlt)
        rw [hg1, hg2] at hNo
        have hYs := Lib.hid (show sameN xs[k] ys[k] = true → ∀ j, j < k + 1 → sameN (xs.getD j zeroNd) (ys.getD j zeroNd) = true from fun h j hj => by
          by_cases e : j = k
          · subst e; rw [hg1, hg2]; exact h
          · exact hAll.out j (by omega))
        have hXx := xn_new wr xs[k]
        have hXb := (Below.refl wr.heap.size wr).alloc (Nat.le_refl _) (.cells #[.string xs[k].op, .int .i64 xs[k].a, .int .i64 xs[k].b, .int .i64 xs[k].v] 62)
        have xB := Lib.hid (hBe.out.trans (hXb.mono hBe.out.size))
        obtain ⟨b9, o9, rfl, ⟨_, hbB'⟩, hc'⟩ := (hY.out.below xB.out hB') (by have := hLL.out; omega)
        obtain ⟨d1, d2, d3, d4⟩ := hc' k hlt'
        obtain ⟨m0, m1, m2, m3⟩ := hXx.cells
        clear hc hc' hbel hg1 hg2 hXx hXb
        generalize xs[k] = x at *
        generalize ys[k] = y at *
        obtain ⟨op, a, bb, v⟩ := x
        obtain ⟨op', a', b', v'⟩ := y
        dsimp only at *
        have hEq := fun W => equalIn_nd op op' a bb v a' b' v' W
        cases hs : sameN ⟨op, a, bb, v⟩ ⟨op', a', b', v'⟩
        · have hn := Lib.hid (hNo.out hs)
          rw [hs] at hEq
          clear hs hNo hYs
          go_wp2_with (fail)
          go_region
          all_goals go_wp2
          all_goals go_ret
          all_goals exact ⟨ret_bool (by rw [hn.out]), xB.out.drew⟩
        · have hy2 := Lib.hid (hYs.out hs)
          rw [hs] at hEq
          clear hs hNo hYs
          go_wp2_with (fail)
          go_region
          all_goals go_wp2
          all_goals go_roundw
          case rel => exact ⟨k + 1, by omega, by go_num, hy2.out, xB.out.drew⟩
          case measure => simp [intOf]; omega
      · obtain rfl : k = xs.length := by omega
        have hy := Lib.hid (sameL_yes hLL.out hAll.out)
        go_wp2
        go_ret
        exact ⟨ret_bool (by rw [hy.out]), hBe.out⟩
  · have hi : (xs.length : Int) ≠ (ys.length : Int) := by omega
    have hn := Lib.hid (sameL_len hll)
    clear hll
    go_enter Try.func140, Try.ntmps140
    go_wp2
    go_ret
    exact ⟨ret_bool (by rw [hn.out]), hBel0⟩

/-- How often an input occurs. -/
def cntIn (es : List Nd) (k : Int) : Int := ((es.countP fun n => isInp n k : Nat) : Int)
theorem cntIn_snoc {es : List Nd} {j : Nat} (hj : j < es.length) (k : Int) : cntIn (es.take (j + 1)) k = cntIn (es.take j) k + (if isInp es[j] k = true then 1 else 0) := by
  unfold cntIn
  rw [List.take_succ_eq_append_getElem hj, List.countP_append, List.countP_cons, List.countP_nil]
  split <;> simp
theorem cntIn_bd (es : List Nd) (j : Nat) (k : Int) : 0 ≤ cntIn (es.take j) k ∧ cntIn (es.take j) k ≤ (j : Int) := by
  unfold cntIn
  have h1 := List.countP_le_length (p := fun n => isInp n k) (l := es.take j)
  have h2 := List.length_take_le j es
  omega
theorem cntIn_pos (es : List Nd) (k : Int) : decide (0 < cntIn es k) = hasIn es k := by
  unfold cntIn hasIn
  cases h : es.any fun n => isInp n k
  · rw [List.any_eq_false] at h
    have : (es.countP fun n => isInp n k) = 0 := by rw [List.countP_eq_zero]; exact h
    rw [this]; rfl
  · rw [List.any_eq_true] at h
    have : 0 < (es.countP fun n => isInp n k) := by rw [List.countP_pos_iff]; exact h
    exact decide_eq_true (by omega)

set_option maxHeartbeats 1000000 in
theorem ruHoles_any (L B : Nat) (A : Option Addr) (c : Nat) (es : List Nd) (w : World) (hl : es.length ≤ 1048576) (hx : NS w L B A es) (hB : B ≤ w.heap.size) :
    Calls Try.prog 119 #[.slice A es.length c] w fun e w' => e = .returned (.tuple #[.int .i64 (cntIn es 0), .int .i64 (cntIn es 1)]) ∧ Below w.heap.size w w' := by
  have hX := Lib.hid hx
  have hBel0 := Below.refl w.heap.size w
  have hS0 := Lib.hid fun j (hj : j < es.length) => cntIn_snoc (es := es) (j := j) hj 0
  have hS1 := Lib.hid fun j (hj : j < es.length) => cntIn_snoc (es := es) (j := j) hj 1
  have hB0 := Lib.hid fun j => cntIn_bd es j 0
  have hB1 := Lib.hid fun j => cntIn_bd es j 1
  have hEnd := Lib.hid (show es.take es.length = es from List.take_length)
  clear hx
  go_enter Try.func119, Try.ntmps119
  go_wp2
  go_loopw [4, 5, 10] (fun a b i wr => ∃ k : Nat, k ≤ es.length ∧ i = .int .i64 k ∧ a = .int .i64 (cntIn (es.take k) 0) ∧ b = .int .i64 (cntIn (es.take k) 1) ∧ Below w.heap.size w wr) (fun _ _ i _ => es.length - (intOf i).toNat)
  case atStart => exact ⟨0, Nat.zero_le _, rfl, rfl, rfl, hBel0⟩
  case round =>
    obtain ⟨k, hk, rfl, rfl, rfl, hbel⟩ := hrel
    have hBe := Lib.hid hbel
    by_cases hlt : k < es.length
    · obtain ⟨b, o, rfl, ⟨_, hbB⟩, hc⟩ := (hX.out.below hbel hB) (by omega)
      obtain ⟨c1, c2, c3, c4⟩ := hc k hlt
      have k0 : (0 : Int) ≤ (k : Int) := by omega
      have k1 : (k : Int) < (es.length : Int) := by omega
      have hXx := xn_new wr es[k]
      have hXb := (Below.refl wr.heap.size wr).alloc (Nat.le_refl _) (.cells #[.string es[k].op, .int .i64 es[k].a, .int .i64 es[k].b, .int .i64 es[k].v] 62)
      have xB := Lib.hid (hBe.out.trans (hXb.mono hBe.out.size))
      obtain ⟨m0, m1, m2, m3⟩ := hXx.cells
      obtain ⟨a0, a1⟩ := hB0.out k
      obtain ⟨d0, d1⟩ := hB1.out k
      have s0 := hS0.out k hlt
      have s1 := hS1.out k hlt
      clear hc hbel hXx hXb
      generalize hx0 : cntIn (es.take (k + 1)) 0 = x0 at *
      have HX0 := Lib.hid hx0
      clear hx0
      generalize hx1 : cntIn (es.take (k + 1)) 1 = x1 at *
      have HX1 := Lib.hid hx1
      clear hx1
      generalize cntIn (es.take k) 0 = y0 at *
      generalize cntIn (es.take k) 1 = y1 at *
      generalize es[k] = nd at *
      obtain ⟨op, a, bb, v⟩ := nd
      dsimp only at *
      cases hin : isIn op
      · have h' : (op.toList == [105, 110]) = false := hin
        have t0 : Hid (x0 = y0) := by rw [Hid, s0]; simp [isInp, hin]
        have t1 : Hid (x1 = y1) := by rw [Hid, s1]; simp [isInp, hin]
        clear s0 s1 hin
        go_wp2
        go_roundw
        case rel => exact ⟨k + 1, by omega, by go_num, by rw [HX0.out, t0.out], by rw [HX1.out, t1.out], xB.out⟩
        case measure => simp [intOf]; omega
      · have h' : op.toList = [105, 110] := by simpa [isIn] using hin
        by_cases hv0 : v = 0
        · subst hv0
          have t0 : Hid (x0 = y0 + 1) := by rw [Hid, s0]; simp [isInp, hin]
          have t1 : Hid (x1 = y1) := by rw [Hid, s1]; simp [isInp, hin]
          clear s0 s1 hin
          go_wp2
          go_roundw
          case rel => exact ⟨k + 1, by omega, by go_num, by rw [HX0.out, t0.out], by rw [HX1.out, t1.out], xB.out⟩
          case measure => simp [intOf]; omega
        · by_cases hv1 : v = 1
          · subst hv1
            have t0 : Hid (x0 = y0) := by rw [Hid, s0]; simp [isInp, hin]
            have t1 : Hid (x1 = y1 + 1) := by rw [Hid, s1]; simp [isInp, hin]
            clear s0 s1 hin
            go_wp2
            go_roundw
            case rel => exact ⟨k + 1, by omega, by go_num, by rw [HX0.out, t0.out], by rw [HX1.out, t1.out], xB.out⟩
            case measure => simp [intOf]; omega
          · have t0 : Hid (x0 = y0) := by rw [Hid, s0]; simp [isInp, hin, hv0]
            have t1 : Hid (x1 = y1) := by rw [Hid, s1]; simp [isInp, hin, hv1]
            clear s0 s1 hin
            go_wp2
            go_roundw
            case rel => exact ⟨k + 1, by omega, by go_num, by rw [HX0.out, t0.out], by rw [HX1.out, t1.out], xB.out⟩
            case measure => simp [intOf]; omega
    · obtain rfl : k = es.length := by omega
      rw [hEnd.out]
      go_wp2
      go_ret2
      exact ⟨rfl, hBe.out⟩
end Go.Proofs.Ytieljgfocgdngaa
