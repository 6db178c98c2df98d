/- Texts of this proof, one behind the other: RE, RF, RH, XH, RI, RB. -/
import Derived.Test.YtieljgfocgdngaaZ7
import Derived.Test.YtieljgfocgdngaaZ6
import Derived.WalkKit
import Derived.WalkSpells
import Derived.WalkLawsBesides
import Derived.Laws.StructEq
import Derived.Lib.Hide
import Derived.Test.YtieljgfocgdngaaTM
import Derived.Test.YtieljgfocgdngaaK2
import Derived.Test.YtieljgfocgdngaaWB
import Derived.Deep.RegionHeld3
import Derived.Test.YtieljgfocgdngaaKNode
/- Nodes compared by '=='. -/
namespace Go.Proofs.Ytieljgfocgdngaa
open Go.RowKit
set_option linter.unusedVariables false
set_option maxRecDepth 100000
theorem nd_guard : Try.prog.eqGuardType Try.prog.depth 62 = false := by kernel_rfl
theorem equalIn_nd (op op' : ByteArray) (a b v a' b' v' : Int) (w : World) : (Op.equalIn 10000 62 (.agg #[.string op, .int .i64 a, .int .i64 b, .int .i64 v]) (.agg #[.string op', .int .i64 a', .int .i64 b', .int .i64 v'])).run Try.prog w = .ok (sameN ⟨op, a, b, v⟩ ⟨op', a', b', v'⟩) w := by
  have u3 := Try.underlying3
  have a3 := Try.isAgg3
  have z3 := Try.sizeOf3
  have u9 := Try.underlying9
  have a9 := Try.isAgg9
  have z9 := Try.sizeOf9
  have hS : Try.prog.underlying 62 = some (.struct (Try.prog.fieldsOf 62)) := by kernel_rfl
  have hp : Try.prog.stoodInHeld 62 = false := by kernel_rfl
  rw [show (10000 : Nat) = 9999 + 1 from rfl, run_equalIn_agg w 9999 62 _ _ hS hp]
  simp only [Program.fieldsOf, Try.underlying62]
  unfold sameN
  go_simp
  by_cases h0 : op.toList = op'.toList <;> by_cases h1 : a = a' <;> by_cases h2 : b = b' <;> by_cases h3 : v = v' <;> simp [h0, h1, h2, h3]
theorem sameL_no {xs ys : List Nd} {k : Nat} (hk : k < xs.length) (h : sameN (xs.getD k zeroNd) (ys.getD k zeroNd) = false) : sameL xs ys = false := by
  unfold sameL
  rw [Bool.and_eq_false_iff]; right
  rw [List.all_eq_false]
  exact ⟨k, by simpa using hk, by simpa using h⟩
theorem sameL_yes {xs ys : List Nd} (hl : xs.length = ys.length) (h : ∀ k, k < xs.length → sameN (xs.getD k zeroNd) (ys.getD k zeroNd) = true) : sameL xs ys = true := by
  unfold sameL
  rw [Bool.and_eq_true]
  refine ⟨decide_eq_true hl, ?_⟩
  rw [List.all_eq_true]
  intro k hk
  exact h k (by simpa using hk)
theorem sameL_len {xs ys : List Nd} (hl : xs.length ≠ ys.length) : sameL xs ys = false := by
  unfold sameL; rw [decide_eq_false hl]; rfl

set_option maxHeartbeats 1000000 in
theorem equalN_any (L B L' B' : Nat) (A A' : Option Addr) (c c' : Nat) (xs ys : List Nd) (w : World) (hl : xs.length ≤ 1048576) (hl' : ys.length ≤ 1048576) (hx : NS w L B A xs) (hy : NS w L' B' A' ys) (hB : B ≤ w.heap.size) (hB' : B' ≤ w.heap.size) :
    Calls Try.prog 120 #[.slice A xs.length c, .slice A' ys.length c'] w fun e w' => e = .returned (.bool (sameL xs ys)) ∧ Below w.heap.size w w' := by
  have hX := Lib.hid hx
  have hY := Lib.hid hy
  have hBel0 := Below.refl w.heap.size w
  have hgd := nd_guard
  clear hx hy
  by_cases hll : xs.length = ys.length
  · have hLL := Lib.hid hll
    have hi : (xs.length : Int) = (ys.length : Int) := by omega
    clear hll
    go_enter Try.func120, Try.ntmps120
    go_wp2
    go_loopw [13] (fun i wr => ∃ k : Nat, k ≤ xs.length ∧ i = .int .i64 k ∧ (∀ j, j < k → sameN (xs.getD j zeroNd) (ys.getD j zeroNd) = true) ∧ Below w.heap.size w wr) (fun i _ => xs.length - (intOf i).toNat)
    case atStart => exact ⟨0, Nat.zero_le _, rfl, fun j hj => by omega, hBel0⟩
    case round =>
      obtain ⟨k, hk, rfl, hall, hbel⟩ := hrel
      have hAll := Lib.hid hall
      have hBe := Lib.hid hbel
      clear hall
      by_cases hlt : k < xs.length
      · obtain ⟨b, o, rfl, ⟨_, hbB⟩, hc⟩ := (hX.out.below hbel hB) (by omega)
        obtain ⟨b9, o9, rfl, ⟨_, hbB'⟩, hc'⟩ := (hY.out.below hbel hB') (by have := hLL.out; omega)
        have hlt' : k < ys.length := by have := hLL.out; omega
        obtain ⟨c1, c2, c3, c4⟩ := hc k hlt
        obtain ⟨d1, d2, d3, d4⟩ := hc' k hlt'
        have k0 : (0 : Int) ≤ (k : Int) := by omega
        have k1 : (k : Int) < (xs.length : Int) := by omega
        have k2 : (k : Int) < (ys.length : Int) := by omega
        have hg1 := getD_nd hlt
        have hg2 := getD_nd hlt'
        have hNo := Lib.hid (sameL_no (ys := ys) hlt)
        rw [hg1, hg2] at hNo
        have hYs := Lib.hid (show sameN xs[k] ys[k] = true → ∀ j, j < k + 1 → sameN (xs.getD j zeroNd) (ys.getD j zeroNd) = true from fun h j hj => by
          by_cases e : j = k
          · subst e; rw [hg1, hg2]; exact h
          · exact hAll.out j (by omega))
        clear hc hc' hbel hg1 hg2
        generalize xs[k] = x at *
        generalize ys[k] = y at *
        obtain ⟨op, a, bb, v⟩ := x
        obtain ⟨op', a', b', v'⟩ := y
        dsimp only at *
        have hEq := fun W => equalIn_nd op op' a bb v a' b' v' W
        cases hs : sameN ⟨op, a, bb, v⟩ ⟨op', a', b', v'⟩
        · have hn := Lib.hid (hNo.out hs)
          rw [hs] at hEq
          clear hs hNo hYs
          go_wp2_with (fail)
          go_region
          all_goals go_wp2
          all_goals go_ret
          all_goals exact ⟨ret_bool (by rw [hn.out]), hBe.out.drew⟩
        · have hy2 := Lib.hid (hYs.out hs)
          rw [hs] at hEq
          clear hs hNo hYs
          go_wp2_with (fail)
          go_region
          all_goals go_wp2
          all_goals go_roundw
          case rel => exact ⟨k + 1, by omega, by go_num, hy2.out, hBe.out.drew⟩
          case measure => simp [intOf]; omega
      · obtain rfl : k = xs.length := by omega
        have hy := Lib.hid (sameL_yes hLL.out hAll.out)
        go_wp2
        go_ret
        exact ⟨ret_bool (by rw [hy.out]), hBe.out⟩
  · have hi : (xs.length : Int) ≠ (ys.length : Int) := by omega
    have hn := Lib.hid (sameL_len hll)
    clear hll
    go_enter Try.func120, Try.ntmps120
    go_wp2
    go_ret
    exact ⟨ret_bool (by rw [hn.out]), hBel0⟩
end Go.Proofs.Ytieljgfocgdngaa

/- The model's comparison of lists of nodes; its counts of inputs. -/
namespace Go.Proofs.Ytieljgfocgdngaa
open Go.RowKit
set_option linter.unusedVariables false
set_option maxRecDepth 100000

set_option maxHeartbeats 1000000 in
theorem ruSame_any (L B L' B' : Nat) (A A' : Option Addr) (c c' : Nat) (xs ys : List Nd) (w : World) (hl : xs.length ≤ 1048576) (hl' : ys.length ≤ 1048576) (hx : NS w L B A xs) (hy : NS w L' B' A' ys) (hB : B ≤ w.heap.size) (hB' : B' ≤ w.heap.size) :
    Calls Try.prog 140 #[.slice A xs.length c, .slice A' ys.length c'] w fun e w' => e = .returned (.bool (sameL xs ys)) ∧ Below w.heap.size w w' := by
  have hX := Lib.hid hx
  have hY := Lib.hid hy
  have hBel0 := Below.refl w.heap.size w
  have hgd := nd_guard
  clear hx hy
  by_cases hll : xs.length = ys.length
  · have hLL := Lib.hid hll
    have hi : (xs.length : Int) = (ys.length : Int) := by omega
    clear hll
    go_enter Try.func140, Try.ntmps140
    go_wp2
    go_loopw [14] (fun i wr => ∃ k : Nat, k ≤ xs.length ∧ i = .int .i64 k ∧ (∀ j, j < k → sameN (xs.getD j zeroNd) (ys.getD j zeroNd) = true) ∧ Below w.heap.size w wr) (fun i _ => xs.length - (intOf i).toNat)
    case atStart => exact ⟨0, Nat.zero_le _, rfl, fun j hj => by omega, hBel0⟩
    case round =>
      obtain ⟨k, hk, rfl, hall, hbel⟩ := hrel
      have hAll := Lib.hid hall
      have hBe := Lib.hid hbel
      clear hall
      by_cases hlt : k < xs.length
      · obtain ⟨b, o, rfl, ⟨_, hbB⟩, hc⟩ := (hX.out.below hbel hB) (by omega)
        have hlt' : k < ys.length := by have := hLL.out; omega
        obtain ⟨c1, c2, c3, c4⟩ := hc k hlt
        have k0 : (0 : Int) ≤ (k : Int) := by omega
        have k1 : (k : Int) < (xs.length : Int) := by omega
        have k2 : (k : Int) < (ys.length : Int) := by omega
        have hg1 := getD_nd hlt
        have hg2 := getD_nd hlt'
        have hNo := Lib.hid (sameL_no (ys := ys) hlt)
        rw [hg1, hg2] at hNo
        have hYs := Lib.hid (show sameN xs[k] ys[k] = true → ∀ j, j < k + 1 → sameN (xs.getD j zeroNd) (ys.getD j zeroNd) = true from fun h j hj => by
          by_cases e : j = k
          · subst e; rw [hg1, hg2]; exact h
          · exact hAll.out j (by omega))
        have hXx := xn_new wr xs[k]
        have hXb := (Below.refl wr.heap.size wr).alloc (Nat.le_refl _) (.cells #[.string xs[k].op, .int .i64 xs[k].a, .int .i64 xs[k].b, .int .i64 xs[k].v] 62)
        have xB := Lib.hid (hBe.out.trans (hXb.mono hBe.out.size))
        obtain ⟨b9, o9, rfl, ⟨_, hbB'⟩, hc'⟩ := (hY.out.below xB.out hB') (by have := hLL.out; omega)
        obtain ⟨d1, d2, d3, d4⟩ := hc' k hlt'
        obtain ⟨m0, m1, m2, m3⟩ := hXx.cells
        clear hc hc' hbel hg1 hg2 hXx hXb
        generalize xs[k] = x at *
        generalize ys[k] = y at *
        obtain ⟨op, a, bb, v⟩ := x
        obtain ⟨op', a', b', v'⟩ := y
        dsimp only at *
        have hEq := fun W => equalIn_nd op op' a bb v a' b' v' W
        cases hs : sameN ⟨op, a, bb, v⟩ ⟨op', a', b', v'⟩
        · have hn := Lib.hid (hNo.out hs)
          rw [hs] at hEq
          clear hs hNo hYs
          go_wp2_with (fail)
          go_region
          all_goals go_wp2
          all_goals go_ret
          all_goals exact ⟨ret_bool (by rw [hn.out]), xB.out.drew⟩
        · have hy2 := Lib.hid (hYs.out hs)
          rw [hs] at hEq
          clear hs hNo hYs
          go_wp2_with (fail)
          go_region
          all_goals go_wp2
          all_goals go_roundw
          case rel => exact ⟨k + 1, by omega, by go_num, hy2.out, xB.out.drew⟩
          case measure => simp [intOf]; omega
      · obtain rfl : k = xs.length := by omega
        have hy := Lib.hid (sameL_yes hLL.out hAll.out)
        go_wp2
        go_ret
        exact ⟨ret_bool (by rw [hy.out]), hBe.out⟩
  · have hi : (xs.length : Int) ≠ (ys.length : Int) := by omega
    have hn := Lib.hid (sameL_len hll)
    clear hll
    go_enter Try.func140, Try.ntmps140
    go_wp2
    go_ret
    exact ⟨ret_bool (by rw [hn.out]), hBel0⟩

/-- How often an input occurs. -/
def cntIn (es : List Nd) (k : Int) : Int := ((es.countP fun n => isInp n k : Nat) : Int)
theorem cntIn_snoc {es : List Nd} {j : Nat} (hj : j < es.length) (k : Int) : cntIn (es.take (j + 1)) k = cntIn (es.take j) k + (if isInp es[j] k = true then 1 else 0) := by
  unfold cntIn
  rw [List.take_succ_eq_append_getElem hj, List.countP_append, List.countP_cons, List.countP_nil]
  split <;> simp
theorem cntIn_bd (es : List Nd) (j : Nat) (k : Int) : 0 ≤ cntIn (es.take j) k ∧ cntIn (es.take j) k ≤ (j : Int) := by
  unfold cntIn
  have h1 := List.countP_le_length (p := fun n => isInp n k) (l := es.take j)
  have h2 := List.length_take_le j es
  omega
theorem cntIn_pos (es : List Nd) (k : Int) : decide (0 < cntIn es k) = hasIn es k := by
  unfold cntIn hasIn
  cases h : es.any fun n => isInp n k
  · rw [List.any_eq_false] at h
    have : (es.countP fun n => isInp n k) = 0 := by rw [List.countP_eq_zero]; exact h
    rw [this]; rfl
  · rw [List.any_eq_true] at h
    have : 0 < (es.countP fun n => isInp n k) := by rw [List.countP_pos_iff]; exact h
    exact decide_eq_true (by omega)

set_option maxHeartbeats 1000000 in
theorem ruHoles_any (L B : Nat) (A : Option Addr) (c : Nat) (es : List Nd) (w : World) (hl : es.length ≤ 1048576) (hx : NS w L B A es) (hB : B ≤ w.heap.size) :
    Calls Try.prog 119 #[.slice A es.length c] w fun e w' => e = .returned (.tuple #[.int .i64 (cntIn es 0), .int .i64 (cntIn es 1)]) ∧ Below w.heap.size w w' := by
  have hX := Lib.hid hx
  have hBel0 := Below.refl w.heap.size w
  have hS0 := Lib.hid fun j (hj : j < es.length) => cntIn_snoc (es := es) (j := j) hj 0
  have hS1 := Lib.hid fun j (hj : j < es.length) => cntIn_snoc (es := es) (j := j) hj 1
  have hB0 := Lib.hid fun j => cntIn_bd es j 0
  have hB1 := Lib.hid fun j => cntIn_bd es j 1
  have hEnd := Lib.hid (show es.take es.length = es from List.take_length)
  clear hx
  go_enter Try.func119, Try.ntmps119
  go_wp2
  go_loopw [4, 5, 10] (fun a b i wr => ∃ k : Nat, k ≤ es.length ∧ i = .int .i64 k ∧ a = .int .i64 (cntIn (es.take k) 0) ∧ b = .int .i64 (cntIn (es.take k) 1) ∧ Below w.heap.size w wr) (fun _ _ i _ => es.length - (intOf i).toNat)
  case atStart => exact ⟨0, Nat.zero_le _, rfl, rfl, rfl, hBel0⟩
  case round =>
    obtain ⟨k, hk, rfl, rfl, rfl, hbel⟩ := hrel
    have hBe := Lib.hid hbel
    by_cases hlt : k < es.length
    · obtain ⟨b, o, rfl, ⟨_, hbB⟩, hc⟩ := (hX.out.below hbel hB) (by omega)
      obtain ⟨c1, c2, c3, c4⟩ := hc k hlt
      have k0 : (0 : Int) ≤ (k : Int) := by omega
      have k1 : (k : Int) < (es.length : Int) := by omega
      have hXx := xn_new wr es[k]
      have hXb := (Below.refl wr.heap.size wr).alloc (Nat.le_refl _) (.cells #[.string es[k].op, .int .i64 es[k].a, .int .i64 es[k].b, .int .i64 es[k].v] 62)
      have xB := Lib.hid (hBe.out.trans (hXb.mono hBe.out.size))
      obtain ⟨m0, m1, m2, m3⟩ := hXx.cells
      obtain ⟨a0, a1⟩ := hB0.out k
      obtain ⟨d0, d1⟩ := hB1.out k
      have s0 := hS0.out k hlt
      have s1 := hS1.out k hlt
      clear hc hbel hXx hXb
      generalize hx0 : cntIn (es.take (k + 1)) 0 = x0 at *
      have HX0 := Lib.hid hx0
      clear hx0
      generalize hx1 : cntIn (es.take (k + 1)) 1 = x1 at *
      have HX1 := Lib.hid hx1
      clear hx1
      generalize cntIn (es.take k) 0 = y0 at *
      generalize cntIn (es.take k) 1 = y1 at *
      generalize es[k] = nd at *
      obtain ⟨op, a, bb, v⟩ := nd
      dsimp only at *
      cases hin : isIn op
      · have h' : (op.toList == [105, 110]) = false := hin
        have t0 : Hid (x0 = y0) := by rw [Hid, s0]; simp [isInp, hin]
        have t1 : Hid (x1 = y1) := by rw [Hid, s1]; simp [isInp, hin]
        clear s0 s1 hin
        go_wp2
        go_roundw
        case rel => exact ⟨k + 1, by omega, by go_num, by rw [HX0.out, t0.out], by rw [HX1.out, t1.out], xB.out⟩
        case measure => simp [intOf]; omega
      · have h' : op.toList = [105, 110] := by simpa [isIn] using hin
        by_cases hv0 : v = 0
        · subst hv0
          have t0 : Hid (x0 = y0 + 1) := by rw [Hid, s0]; simp [isInp, hin]
          have t1 : Hid (x1 = y1) := by rw [Hid, s1]; simp [isInp, hin]
          clear s0 s1 hin
          go_wp2
          go_roundw
          case rel => exact ⟨k + 1, by omega, by go_num, by rw [HX0.out, t0.out], by rw [HX1.out, t1.out], xB.out⟩
          case measure => simp [intOf]; omega
        · by_cases hv1 : v = 1
          · subst hv1
            have t0 : Hid (x0 = y0) := by rw [Hid, s0]; simp [isInp, hin]
            have t1 : Hid (x1 = y1 + 1) := by rw [Hid, s1]; simp [isInp, hin]
            clear s0 s1 hin
            go_wp2
            go_roundw
            case rel => exact ⟨k + 1, by omega, by go_num, by rw [HX0.out, t0.out], by rw [HX1.out, t1.out], xB.out⟩
            case measure => simp [intOf]; omega
          · have t0 : Hid (x0 = y0) := by rw [Hid, s0]; simp [isInp, hin, hv0]
            have t1 : Hid (x1 = y1) := by rw [Hid, s1]; simp [isInp, hin, hv1]
            clear s0 s1 hin
            go_wp2
            go_roundw
            case rel => exact ⟨k + 1, by omega, by go_num, by rw [HX0.out, t0.out], by rw [HX1.out, t1.out], xB.out⟩
            case measure => simp [intOf]; omega
    · obtain rfl : k = es.length := by omega
      rw [hEnd.out]
      go_wp2
      go_ret2
      exact ⟨rfl, hBe.out⟩
end Go.Proofs.Ytieljgfocgdngaa

/- The model's tree in the order of its walk. -/
namespace Go.Proofs.Ytieljgfocgdngaa
open Go.RowKit
set_option linter.unusedVariables false
set_option maxRecDepth 100000

theorem row_ne {w : World} {L1 L2 k1 k2 n1 n2 : Nat} {t1 t2 : TypeId} {v1 v2 : Value} {x1 x2 : List Value} (h1 : w.ownsRow L1 t1 k1 v1 n1 x1) (h2 : w.ownsRow L2 t2 k2 v2 n2 x2) (ht : t1 ≠ t2) : ∀ j, v1.ownBlock = some j → v2.ownBlock ≠ some j := by
  intro j e1 e2
  rcases h1.2 with ⟨rfl, _⟩ | ⟨g, cap, cur, rfl, _, hh, _⟩
  · simp [Value.ownBlock] at e1
  · rcases h2.2 with ⟨rfl, _⟩ | ⟨g', cap', cur', rfl, _, hh', _⟩
    · simp [Value.ownBlock] at e2
    · have a1 : g = j := by simpa [Value.ownBlock] using e1
      have a2 : g' = j := by simpa [Value.ownBlock] using e2
      subst a1; subst a2
      rw [hh] at hh'
      injection hh' with hh'
      injection hh' with _ h9
      exact ht h9
theorem OW.fr {w w' : World} {lo hi q : Nat} {r : Option Nat} {v : Value} {xs : List Int} (h : OW w lo hi v xs) (hf : Fr q r w w') (hne : ∀ j, v.ownBlock = some j → j ≠ q ∧ r ≠ some j) : OW w' lo hi v xs := by
  refine ⟨⟨h.1.1, ?_⟩, h.2⟩
  rcases h.1.2 with hn | ⟨g, cap, cur, rfl, hg, hh, hr⟩
  · exact .inl hn
  · have := hne g rfl
    exact .inr ⟨g, cap, cur, rfl, hg, (hf.block g (Array.getElem?_eq_some_iff.1 hh).1 this.1 this.2).trans hh, hr⟩
theorem Fr.thenBelow {q : Nat} {r : Option Nat} {a b c : World} (h : Fr q r a b) (k : Below a.heap.size b c) : Fr q r a c :=
  ⟨k.os.trans h.os, k.tape.trans h.tape, k.output.trans h.output, Nat.le_trans h.size k.size, fun j hj h1 h2 => (k.block j hj).trans (h.block j hj h1 h2)⟩

def cN (es : List Nd) (F : Nat) (n : Nd) (xs : List Nd) : Nat → List Nd
  | 0 => xs
  | j + 1 => cN es F n xs j ++ tr es F (cN es F n xs j).length ((parts n).getD j 0).toNat
def cI (es : List Nd) (F : Nat) (n : Nd) (xs : List Nd) : Nat → List Int
  | 0 => []
  | j + 1 => cI es F n xs j ++ [((cN es F n xs (j + 1)).length : Int) - 1]
theorem cI_len (es : List Nd) (F : Nat) (n : Nd) (xs : List Nd) : ∀ j, (cI es F n xs j).length = j := by
  intro j
  induction j with
  | zero => rfl
  | succ j ih => rw [cI, List.length_append, ih]; rfl
theorem cN_mono (es : List Nd) (F : Nat) (n : Nd) (xs : List Nd) (j d : Nat) : (cN es F n xs j).length ≤ (cN es F n xs (j + d)).length := by
  induction d with
  | zero => exact Nat.le_refl _
  | succ d ih => refine Nat.le_trans ih ?_; rw [← Nat.add_assoc, cN, List.length_append]; omega
theorem c_tr {es : List Nd} {F i : Nat} {n : Nd} (xs : List Nd) (hi : i < es.length) (he : es[i] = n) (hn : isNode n i = true) : cN es F n xs (parts n).length ++ [pnode n (cI es F n xs (parts n).length)] = xs ++ tr es (F + 1) xs.length i := by
  unfold tr; simp only []; rw [getD_nd hi, he]
  rcases ar_cases_nd hn with ⟨h1, h2, h3, -, -⟩ | ⟨h1, h2, h3, ha, ha', -⟩ | ⟨h1, h2, h3, ha, ha', hb, hb'⟩
  · rw [if_neg (by omega), if_neg (by omega), parts_ar.2.2 h2 h3]; simp [cN, cI, pnode]
  · rw [if_pos h1, parts_ar.1 h1 h2]; simp [cN, cI, pnode, parts_ar.1 h1 h2]
  · rw [if_neg (by omega), if_pos h1, parts_ar.2.1 h2 h3]; simp [cN, cI, pnode, parts_ar.2.1 h2 h3]; omega

theorem ruPut_any (q L Lp Bp : Nat) (xs : List Nd) (v : Value) (n : Nd) (PA : Option Addr) (pc : Nat) (ps : List Int) (w : World) (hps : ps.length ≤ 2) (hx : xs.length < 100000) (hL : L ≤ w.heap.size) (hBp : Bp ≤ w.heap.size) (hs : HS q L xs v w) (hp : IS w Lp Bp PA ps) :
    Calls Try.prog 145 #[.pointer (some ⟨q, 0, none⟩), .agg #[.string n.op, .int .i64 n.a, .int .i64 n.b, .int .i64 n.v], .slice PA ps.length pc] w fun e w' => e = .returned (.int .i64 xs.length) ∧ HP q L v w (xs ++ [pnode n ps]) w' := by
  match ps, hps, hp with
  | [], _, hp => exact ruPut0 q L Lp Bp xs v n PA pc w hx hL hBp hs hp
  | [a], _, hp => exact ruPut1 q L Lp Bp xs v n PA pc a w hx hL hBp hs hp
  | [a, b], _, hp => exact ruPut2 q L Lp Bp xs v n PA pc a b w hx hL hBp hs hp

set_option maxHeartbeats 1000000 in
theorem copied_any (L0 B q L C : Nat) (A : Option Addr) (c : Nat) (es : List Nd) (w0 : World) (hl : es.length ≤ 24) (hok : okFrom es 0 = true) (hes : NS w0 L0 B A es) (hBC : B ≤ C) (hC : C ≤ w0.heap.size) (hCq : C ≤ q) (hCL : C ≤ L) (hL : L ≤ w0.heap.size) :
    ∀ (F i : Nat) (xs : List Nd) (v : Value) (W : World), i < F → i < es.length → xs.length + (tr es F xs.length i).length ≤ 1000 → Below C w0 W → HS q L xs v W →
    Calls Try.prog 144 #[.pointer (some ⟨q, 0, none⟩), .slice A es.length c, .int .i64 i] W fun e w' => e = .returned (.int .i64 (((xs.length + (tr es F xs.length i).length : Nat) : Int) - 1)) ∧ HP q L v W (xs ++ tr es F xs.length i) w' := by
  intro F
  induction F with
  | zero => intro i xs v W hi; omega
  | succ F ih =>
    intro i xs v W hi hie hbd hb hs
    have hnd := ok_get hok hie
    obtain ⟨b, o, hA, ⟨_, hbB⟩, hcc⟩ := (hes.below hb hBC) (by omega)
    obtain ⟨c1, c2, c3, c4⟩ := hcc i hie
    subst hA
    have hbC : b < C := by omega
    have k0 : (0 : Int) ≤ (i : Int) := by omega
    have k1 : (i : Int) < (es.length : Int) := by omega
    have hbs := hb.size
    have hCT := c_tr (F := F) xs hie rfl hnd
    have hpl := parts_le es[i]
    have hpi := parts_in hnd
    have hcl := congrArg List.length hCT
    rw [List.length_append, List.length_append] at hcl
    simp only [List.length_cons, List.length_nil] at hcl
    have hmono := Lib.hid fun j (hj : j ≤ (parts es[i]).length) => (show (cN es F es[i] xs j).length ≤ 1000 by
      have := cN_mono es F es[i] xs j ((parts es[i]).length - j)
      rw [show j + ((parts es[i]).length - j) = (parts es[i]).length by omega] at this; omega)
    have hIH := Lib.hid fun (j : Nat) (hj : j < (parts es[i]).length) (v' : Value) (W' : World) (h' : Below C w0 W') (s' : HS q L (cN es F es[i] xs j) v' W') => (show Calls Try.prog 144 #[.pointer (some ⟨q, 0, none⟩), .slice (some ⟨b, o, none⟩) es.length c, .int .i64 ((parts es[i])[j])] W' fun e w' => e = .returned (.int .i64 (((cN es F es[i] xs (j + 1)).length : Int) - 1)) ∧ HP q L v' W' (cN es F es[i] xs (j + 1)) w' by
      have hp9 := hpi _ (List.getElem_mem hj)
      obtain ⟨p, hp⟩ := Int.eq_ofNat_of_zero_le hp9.1
      rw [hp] at hp9 ⊢
      have hgd : (parts es[i]).getD j 0 = (p : Int) := by rw [List.getD_eq_getElem?_getD, List.getElem?_eq_getElem hj, ← hp]; rfl
      have hsucc : cN es F es[i] xs (j + 1) = cN es F es[i] xs j ++ tr es F (cN es F es[i] xs j).length p := by rw [cN, hgd]; rfl
      have hp2 := hp9.2
      rw [Int.toNat_natCast] at hp2
      have hlen := hmono.out (j + 1) (by omega)
      rw [hsucc, List.length_append] at hlen
      rw [hsucc, List.length_append]
      exact ih p _ v' W' (by omega) (by omega) hlen h' s')
    have hcI := Lib.hid (cI_len es F es[i] xs)
    have hcS := Lib.hid fun j => (show cI es F es[i] xs (j + 1) = cI es F es[i] xs j ++ [((cN es F es[i] xs (j + 1)).length : Int) - 1] from rfl)
    have hN0 : cN es F es[i] xs 0 = xs := rfl
    have hI0 : cI es F es[i] xs 0 = [] := rfl
    have hRes : Hid (((xs.length + (tr es (F + 1) xs.length i).length : Nat) : Int) - 1 = ((cN es F es[i] xs (parts es[i]).length).length : Int)) := by unfold Hid; rw [← hcl]; omega
    rw [hRes.out, ← hCT]
    clear ih hcc hCT hcl hpi hbd
    have hcell := Lib.hid fun (W' : World) (h : Below C w0 W') => (show W'.cell? ⟨b, o + i * 4, none⟩ = some (.string es[i].op) ∧ W'.cell? ⟨b, o + i * 4 + 1, none⟩ = some (.int .i64 es[i].a) ∧ W'.cell? ⟨b, o + i * 4 + 2, none⟩ = some (.int .i64 es[i].b) ∧ W'.cell? ⟨b, o + i * 4 + 3, none⟩ = some (.int .i64 es[i].v) from
      ⟨(h.cell (p := ⟨b, _, none⟩) hbC).trans ((hb.cell (p := ⟨b, _, none⟩) hbC).symm.trans c1), (h.cell (p := ⟨b, _, none⟩) hbC).trans ((hb.cell (p := ⟨b, _, none⟩) hbC).symm.trans c2), (h.cell (p := ⟨b, _, none⟩) hbC).trans ((hb.cell (p := ⟨b, _, none⟩) hbC).symm.trans c3), (h.cell (p := ⟨b, _, none⟩) hbC).trans ((hb.cell (p := ⟨b, _, none⟩) hbC).symm.trans c4)⟩)
    have hPt := Lib.hid fun (W' : World) => exParts_any es[i].op es[i].a es[i].b es[i].v W'
    have hpe : parts ⟨es[i].op, es[i].a, es[i].b, es[i].v⟩ = parts es[i] := rfl
    have hPut := Lib.hid fun (ps : List Int) (ys : List Nd) (v' : Value) (PA : Option Addr) (pc Lp Bp : Nat) (W' : World) => ruPut_any q L Lp Bp ys v' es[i] PA pc ps W'
    obtain ⟨iI, hii0, hii1, hii2, hii3⟩ := info_parts Try.infoInt
    have hJ0 := Lib.hid hii0
    have hJ1 := Lib.hid hii1
    have hJ2 := Lib.hid hii2
    have hJ3 := Lib.hid hii3
    clear hii0 hii1 hii2 hii3
    generalize cN es F es[i] xs = NN at *
    generalize cI es F es[i] xs = II at *
    generalize hPS : parts es[i] = ps at *
    rw [hpe] at hPt
    clear hPS hpe
    generalize es[i] = nd at *
    obtain ⟨op, a, bb, x⟩ := nd
    dsimp only at *
    have HSs := Lib.hid hs
    have HB := Lib.hid hb
    have hq0 := hs.lt
    have hown0 := Lib.hid fun j hj => hs.own j hj
    go_enter Try.func144, Try.ntmps144
    go_wp2_with (fail)
    refine (hPt.out W).mono ?_
    rintro e w2 ⟨A2, cc2, rfl, hIS, hb2⟩
    have hI2 := Lib.hid hIS
    have s2 := Lib.hid (HSs.out.next hb2)
    have B2 := Lib.hid (HB.out.trans (hb2.mono (by omega)))
    have z2 := hb2.size
    have hbW := Lib.hid hb2
    clear hIS hb2 c1 c2 c3 c4
    go_wp2
    go_loopw [7, 16] (fun pv j wi => ∃ (k : Nat) (v1 : Value), k ≤ ps.length ∧ j = .int .i64 k ∧ OW wi w2.heap.size wi.heap.size pv (II k) ∧ HS q L (NN k) v1 wi ∧ Fr q v.ownBlock w2 wi ∧ (∀ u, v1.ownBlock = some u → v.ownBlock = some u ∨ w2.heap.size ≤ u)) (fun _ j _ => ps.length - (intOf j).toNat)
    case atStart =>
      refine ⟨0, v, Nat.zero_le _, rfl, ?_, ?_, Fr.refl _ _ _, fun u hu => .inl hu⟩
      · rw [hI0]; exact OW.nil _ _ _
      · rw [hN0]; exact s2.out
    case round =>
      obtain ⟨k, v1, hk, rfl, how, hst, hfr, hon⟩ := hrel
      obtain ⟨PA, pc, rfl, _⟩ := how.form
      have hOW := Lib.hid how
      have hS := Lib.hid hst
      have hF := Lib.hid hfr
      have hO := Lib.hid hon
      have hbl : Hid (Below C w0 wr) := by
        unfold Hid
        exact B2.out.trans (hfr.below (by omega) hCq (fun j hj => Nat.le_trans hCL (hown0.out j hj).1))
      have hzr := hfr.size
      clear how hst hfr hon
      by_cases hlt : k < ps.length
      · obtain ⟨b2, o2, rfl, ⟨hb2l, hb2B⟩, hpc⟩ := hI2.out (by omega)
        have hc0 := hpc k hlt
        have hcr : wr.cell? ⟨b2, o2 + k, none⟩ = some (.int .i64 ps[k]) := by
          refine Eq.trans (World.cell?_of_block (hF.out.block b2 (by omega) (by omega) (fun e => by have := (hown0.out _ e).2; omega))) hc0
        have i0 : (0 : Int) ≤ (k : Int) := by omega
        have i1 : (k : Int) < (ps.length : Int) := by omega
        have hCp := Lib.hid (hIH.out k hlt v1 wr hbl.out hS.out)
        have hIl := hcI.out k
        have hn1 := hmono.out (k + 1) (by omega)
        clear hpc hc0
        generalize ps[k] = pk at *
        go_wp2_with (fail)
        refine hCp.out.mono ?_
        rintro e w3 ⟨rfl, v3, s3, f3, o3⟩
        have S3 := Lib.hid s3
        have F3 := Lib.hid (hF.out.trans f3 (fun j hj => hO.out j hj))
        have O3 : Hid (∀ u, v3.ownBlock = some u → v.ownBlock = some u ∨ w2.heap.size ≤ u) := fun u hu => by
          rcases o3 u hu with e | e
          · exact hO.out u e
          · exact .inr (Nat.le_trans hzr e)
        have W3 : Hid (OW w3 w2.heap.size wr.heap.size (.slice PA (II k).length pc) (II k)) := by
          unfold Hid
          refine hOW.out.fr f3 fun j hj => ⟨?_, ?_⟩
          · have := (hOW.out.lo j hj).1; omega
          · exact row_ne hOW.out.1 hS.out.2.1 (by decide) j hj
        have z3 := f3.size
        clear s3 f3 o3 hcr
        have hal := fun u => (Below.refl w3.heap.size w3).alloc (Nat.le_refl _) u
        have hO4 := fun u => Lib.hid (show (w3.alloc u).ownsRow w2.heap.size 3 1 (.slice PA k pc) k ((II k).map (Value.int .i64)) from (by have h7 := (W3.out.below (hal u) z3).1; rw [hIl] at h7; exact h7))
        have hlo : Hid (∀ j, (Value.slice PA k pc).ownBlock = some j → w2.heap.size ≤ j ∧ j < wr.heap.size) := by have h7 := W3.out.lo; rw [hIl] at h7; exact h7
        have hrow : Hid (w3.ownsRow w2.heap.size 3 1 (.slice PA k pc) k ((II k).map (Value.int .i64))) := by have h7 := W3.out.1; rw [hIl] at h7; exact h7
        generalize hr : ((NN (k + 1)).length : Int) - 1 = rr at *
        have HR := Lib.hid hr
        clear hr
        have hz4 : w2.heap.size ≤ w3.heap.size := by omega
        go_wp2_with (at_builtin; refine wpList_append_own _ rfl _ _ 76 rfl w2.heap.size 3 iI (.int .i64 0) 1 8 Try.underlying76 hJ0.out hJ1.out hJ2.out hJ3.out rfl (by decide) (.slice PA k pc) k _ rfl (hO4 _).out ⟨w3.heap.size, 0, none⟩ 1 1 [.int .i64 rr] rfl rfl (new1 rfl) (one1 _) (by unfold maxLen; omega) (by omega) (by simp; omega) ?_; intro v' w5 hown5 hgr5 _)
        go_roundw
        case rel =>
          have hb5 : Below w2.heap.size w3 w5 := ((hal (.cells #[.int .i64 rr] 3)).mono hz4).grown hgr5 (by simp; omega) (fun u hu => (hlo.out u hu).1)
          refine ⟨k + 1, v3, by omega, by go_num, ?_, ?_, F3.out.thenBelow hb5, O3.out⟩
          · rw [hcS.out k, HR.out]; exact OW.push (by rw [hIl]; simpa using hown5)
          · refine S3.out.keep ?_ ?_
            · exact (hgr5.block q (by simp; have := S3.out.lt; omega) (fun e => by have := (hlo.out q e.symm).1; omega)).trans ((hal _).block q S3.out.lt)
            · intro j hj
              have hj3 := (S3.out.own j hj).2
              exact (hgr5.block j (by simp; omega) (fun e => row_ne hrow.out S3.out.2.1 (by decide) j e.symm hj)).trans ((hal _).block j hj3)
        case measure => simp [intOf]; omega
      · obtain rfl : k = ps.length := by omega
        have hIl := hcI.out ps.length
        have hn1 := hmono.out ps.length (Nat.le_refl _)
        have hPp := Lib.hid (hPut.out (II ps.length) (NN ps.length) v1 PA pc w2.heap.size wr.heap.size wr (by omega) (by omega) (by omega) (Nat.le_refl _) hS.out hOW.out.rs)
        rw [hIl] at hPp
        obtain ⟨c1, c2, c3, c4⟩ := hcell.out wr hbl.out
        go_wp2_with (fail)
        (with_reducible refine hPp.out.mono ?_)
        rintro e w6 ⟨rfl, h6⟩
        have H6 := Lib.hid (HP.trans ((Fr.ofBelow (q := q) (r := v.ownBlock) hbW.out).trans hF.out (fun j hj => .inl hj)) (fun j hj => by rcases hO.out j hj with e | e; exact .inl e; exact .inr (by omega)) h6)
        clear h6
        go_wp2
        go_ret
        exact ⟨rfl, H6.out⟩
end Go.Proofs.Ytieljgfocgdngaa

/- ExpandExpr: the program. -/
namespace Go.Proofs.Ytieljgfocgdngaa
open Go.RowKit
set_option linter.unusedVariables false
set_option maxRecDepth 100000

theorem expWalk_enters (args : Array Value) (W : World) : Sem.run Try.prog (callFunc 63 args) W = .ok (.enter 63 args) W := by rfl

set_option maxHeartbeats 4000000 in
theorem expWalk_any (L0 B q L C : Nat) (A : Option Addr) (c : Nat) (es : List Nd) (w0 : World) (hl : es.length ≤ 24) (hok : okFrom es 0 = true) (hes : NS w0 L0 B A es) (hBC : B ≤ C) (hC : C ≤ w0.heap.size) (hCq : C ≤ q) (hCL : C ≤ L) (hL : L ≤ w0.heap.size) :
    ∀ (F i : Nat) (s : List Nd × Bool) (v : Value) (W : World), i < F → i < es.length → Below C w0 W → GS 72 [.slice A es.length c] q L s.1 s.2 v W →
    Calls Try.prog 63 #[.pointer (some ⟨q, 0, none⟩), .int .i64 i] W fun e w' => e = .returned (.int .i64 (ew es F i s).2) ∧ GP 72 [.slice A es.length c] q L v W (ew es F i s).1 w' := by
  intro F
  induction F with
  | zero => intro i s v W hi; omega
  | succ F ih =>
    intro i s v W hi hie hb hs
    obtain ⟨xs, fl⟩ := s
    dsimp only at hs
    cases fl with
    | true =>
      rw [ew_failed]
      have c1 := hs.c1
      have G := Lib.hid (GP.refl hs)
      clear hs ih hb hes
      go_enter Try.func63, Try.ntmps63
      go_wp2
      go_ret
      exact ⟨rfl, G.out⟩
    | false =>
      have hE : ew es (F + 1) i (xs, false) = bp (woN (ew es F) es[i] (xs, false)).1 (woN (ew es F) es[i] (xs, false)).2 := by rw [ew, if_neg (by simp), getD_nd hie]
      rw [hE]
      have hnd := ok_get hok hie
      obtain ⟨b, o, hA, ⟨_, hbB⟩, hcc⟩ := (hes.below hb hBC) (by omega)
      obtain ⟨c1, c2, c3, c4⟩ := hcc i hie
      subst hA
      have hbs := hb.size
      have hWO := Lib.hid fun (W' : World) (hW : Below W.heap.size W W') => withOperands_gen 63 (ew es F) 72 [.slice (some ⟨b, o, none⟩) es.length c] q L C i es[i] (xs, false) v w0 W' hnd hC hCq hCL (hb.trans (hW.mono (by omega))) (hs.next hW) expWalk_enters (fun a s v W1 ha hb1 hs1 => ih a s v W1 (by omega) (by omega) hb1 hs1)
      have hPut := Lib.hid fun (s' : List Nd × Bool) (v' : Value) (y : Nd) (W' : World) (hz : W.heap.size ≤ W'.heap.size) (h' : GS 72 [.slice (some ⟨b, o, none⟩) es.length c] q L s'.1 s'.2 v' W') => put_gen 72 [.slice (some ⟨b, o, none⟩) es.length c] q L s' v' y W' (by omega) h'
      have q1 := hs.c1
      have q2 := hs.c2
      have k0 : (0 : Int) ≤ (i : Int) := by omega
      have k1 : (i : Int) < (es.length : Int) := by omega
      have hfar := Lib.hid fun (W3 : World) (f3 : Fr q v.ownBlock W W3) => (hb.trans (f3.below (B := C) (by omega) hCq (fun j hj => Nat.le_trans hCL (hs.own j hj).1)) : Below C w0 W3)
      have hnode := Lib.hid fun (W3 : World) (h3 : Below C w0 W3) => show W3.cell? ⟨b, o + i * 4, none⟩ = W.cell? ⟨b, o + i * 4, none⟩ ∧ W3.cell? ⟨b, o + i * 4 + 1, none⟩ = W.cell? ⟨b, o + i * 4 + 1, none⟩ ∧ W3.cell? ⟨b, o + i * 4 + 2, none⟩ = W.cell? ⟨b, o + i * 4 + 2, none⟩ ∧ W3.cell? ⟨b, o + i * 4 + 3, none⟩ = W.cell? ⟨b, o + i * 4 + 3, none⟩ from
        ⟨(h3.cell (p := ⟨b, _, none⟩) (by show b < C; omega)).trans (hb.cell (p := ⟨b, _, none⟩) (by show b < C; omega)).symm, (h3.cell (p := ⟨b, _, none⟩) (by show b < C; omega)).trans (hb.cell (p := ⟨b, _, none⟩) (by show b < C; omega)).symm, (h3.cell (p := ⟨b, _, none⟩) (by show b < C; omega)).trans (hb.cell (p := ⟨b, _, none⟩) (by show b < C; omega)).symm, (h3.cell (p := ⟨b, _, none⟩) (by show b < C; omega)).trans (hb.cell (p := ⟨b, _, none⟩) (by show b < C; omega)).symm⟩
      have hGt := Lib.hid fun (v3 : Value) (W3 W4 : World) (s4 : List Nd × Bool) (f3 : Fr q v.ownBlock W W3) (o3 : ∀ j, v3.ownBlock = some j → v.ownBlock = some j ∨ W.heap.size ≤ j) (g4 : GP 72 [.slice (some ⟨b, o, none⟩) es.length c] q L v3 W3 s4 W4) => GP.trans f3 o3 g4
      clear ih hcc hs hes hE
      generalize woN (ew es F) es[i] (xs, false) = r at *
      generalize es[i] = nd at *
      obtain ⟨s3, op3, a3, b3, x3⟩ := r
      obtain ⟨op, a, bb, x⟩ := nd
      dsimp only at hWO hnode c1 c2 c3 c4 ⊢
      go_enter Try.func63, Try.ntmps63
      go_wp2_with (fail)
      go_region_held3 (fun w' => w'.cell? ⟨q, 2, none⟩ = some (.slice (some ⟨b, o, none⟩) es.length c) ∧ w'.cell? ⟨b, o + i * 4, none⟩ = some (.string op) ∧ w'.cell? ⟨b, o + i * 4 + 1, none⟩ = some (.int .i64 a) ∧ w'.cell? ⟨b, o + i * 4 + 2, none⟩ = some (.int .i64 bb) ∧ w'.cell? ⟨b, o + i * 4 + 3, none⟩ = some (.int .i64 x))
        (first | assumption | exact ⟨keepQ, keep0, keep1, keep2, keep3⟩ | exact ⟨lastQ, last0, last1, last2, last3⟩ | go_keep)
        (first
          | (go_at_call 103; refine (hWO.out _ (by first | exact Below.refl _ _ | exact (Below.refl _ _).drew)).mono ?_; rintro e w3 ⟨rfl, v3, g3, f3', o3'⟩; have f3 : Fr q v.ownBlock W w3 := (by first | exact f3' | exact (Fr.refl q _ W).drew.trans f3' (fun j hj => .inl hj)); have o3 : ∀ j, v3.ownBlock = some j → v.ownBlock = some j ∨ W.heap.size ≤ j := o3'; have hz3 := f3.size; have keepQ := g3.c2; obtain ⟨n0, n1, n2, n3⟩ := hnode.out w3 (hfar.out w3 f3); have keep0 := n0.trans c1; have keep1 := n1.trans c2; have keep2 := n2.trans c3; have keep3 := n3.trans c4)
          | (go_at_call 102; refine (hPut.out s3 v3 ⟨op3, a3, b3, x3⟩ _ hz3 g3).mono ?_; rintro e w4 ⟨rfl, g4⟩; obtain ⟨v4, h4, f4, o4⟩ := hGt.out v3 w3 w4 _ f3 o3 g4; have lastQ := h4.c2; obtain ⟨n0', n1', n2', n3'⟩ := hnode.out w4 (hfar.out w4 f4); have last0 := n0'.trans c1; have last1 := n1'.trans c2; have last2 := n2'.trans c3; have last3 := n3'.trans c4))
      all_goals
        have H := Lib.hid g4
        have H4 := Lib.hid h4
        have F4 := Lib.hid f4
        have O4 := Lib.hid o4
        clear g4 h4 f4 o4 g3 f3 f3' o3 o3' keepQ keep0 keep1 keep2 keep3 lastQ last0 last1 last2 last3 n0 n1 n2 n3 n0' n1' n2' n3'
        go_wp2
        go_ret
        exact ⟨rfl, v4, H4.out, F4.out, O4.out⟩

set_option maxHeartbeats 4000000 in
theorem built_any (t : TypeId) (rest : List Value) (q L : Nat) (xs : List Nd) (v : Value) (w : World) (hs : GS t rest q L xs false v w) :
    Calls Try.prog 64 #[.pointer (some ⟨q, 0, none⟩)] w fun e w' => e = .returned (.tuple #[v, .bool true]) ∧ w' = w := by
  have c0 := hs.c0
  have c1 := hs.c1
  clear hs
  go_enter Try.func64, Try.ntmps64
  go_wp2
  go_ret2
  exact ⟨rfl, rfl⟩
theorem built_failed (t : TypeId) (rest : List Value) (q L : Nat) (xs : List Nd) (v : Value) (w : World) (hs : GS t rest q L xs true v w) :
    Calls Try.prog 64 #[.pointer (some ⟨q, 0, none⟩)] w fun e w' => e = .returned (.tuple #[.slice none 0 0, .bool false]) ∧ w' = w := by
  have c1 := hs.c1
  clear hs
  go_enter Try.func64, Try.ntmps64
  go_wp2
  go_ret2
  exact ⟨rfl, rfl⟩

set_option maxHeartbeats 4000000 in
theorem iExpandExpr_any (L B : Nat) (A : Option Addr) (c : Nat) (es : List Nd) (w : World) (hl : es.length ≤ 1048576) (hes : NS w L B A es) (hB : B ≤ w.heap.size) :
    Calls Try.prog 25 #[.slice A es.length c] w (ResExpandExpr (expandR es) (expandOk es) w) := by
  have H := Lib.hid (IsExpr_any L B A c es w hl hes hB)
  cases hg : good es
  · have hK : Hid (expandOk es = false) := by simp [Hid, expandOk, hg]
    have hR : Hid (expandR es = []) := by simp [Hid, expandR, hK.out]
    rw [hg] at H
    clear hg hes
    go_enter Try.func25, Try.ntmps25
    go_wp2_with (fail)
    refine H.out.mono ?_
    rintro e w2 ⟨rfl, hb⟩
    have hbb := Lib.hid hb
    clear hb
    go_wp2_with (fail)
    go_ret2
    rw [hR.out, hK.out]
    exact ⟨none, 0, rfl, OK.nil _ _ _ _, hbb.out⟩
  · obtain ⟨hl1, hl24, hok⟩ := good_len hg
    have hX := Lib.hid (expand_ew hg)
    have hE := Lib.hid hes
    have hOk := Lib.hid hok
    rw [hg] at H
    clear hg hes hok
    obtain ⟨m, hm⟩ : ∃ m, es.length = m + 1 := ⟨es.length - 1, by omega⟩
    have hM := Lib.hid hm
    have hm0 : (0 : Int) ≤ (es.length : Int) - 1 := by omega
    have hmi : (es.length : Int) - 1 = (m : Int) := by omega
    have hMI := Lib.hid hmi
    clear hm hmi
    go_enter Try.func25, Try.ntmps25
    go_wp2_with (fail)
    refine H.out.mono ?_
    rintro e w2 ⟨rfl, hb⟩
    have hb2 := Lib.hid hb
    obtain ⟨W3, hW3⟩ : ∃ W3, W3 = w2.alloc (.cells #[.slice none 0 0, .bool false, .slice A es.length c] 72) := ⟨_, rfl⟩
    have b3 : Below w2.heap.size w2 W3 := by rw [hW3]; exact (Below.refl _ _).alloc (Nat.le_refl _) _
    have G3 : Hid (GS 72 [.slice A es.length c] w2.heap.size (w2.heap.size + 1) [] false (.slice none 0 0) W3) := by
      unfold Hid; rw [hW3]; exact GS.nil _ _ _ _ _
    have z3 : W3.heap.size = w2.heap.size + 1 := by rw [hW3]; simp
    have zb := hb.size
    have B3 := Lib.hid (hb.trans (b3.mono zb))
    have hW := Lib.hid (expWalk_any L B w2.heap.size (w2.heap.size + 1) w.heap.size A c es W3 hl24 hOk.out (hE.out.below B3.out hB) hB (by omega) zb (by omega) (by omega) es.length (es.length - 1) ([], false) (.slice none 0 0) W3 (by omega) (by omega) (Below.refl _ _) G3.out)
    have hmm : es.length - 1 = m := by have := hM.out; omega
    rw [hmm] at hW hX
    have E3 := Lib.hid hW3
    clear hb hW3 b3
    go_wp2_with (fail)
    rw [hMI.out]
    rw [← E3.out]
    refine hW.out.mono ?_
    rintro e w4 ⟨rfl, v4, g4, f4, o4⟩
    have bb4 := Lib.hid (B3.out.trans (f4.below (B := w.heap.size) (by omega) zb (fun j hj => by simp [Value.ownBlock] at hj)))
    have O4 := Lib.hid o4
    have z4 := f4.size
    rcases hX.out with ⟨hk, r, hx⟩ | ⟨hk, hr, zs, r, hx⟩
    · rw [hx] at g4
      have G4 := Lib.hid g4
      have hK := Lib.hid hk
      clear g4 hk hx f4 o4
      have hBu := Lib.hid (built_any _ _ _ _ _ _ _ G4.out)
      go_wp2_with (fail)
      refine hBu.out.mono ?_
      rintro e w5 ⟨rfl, rfl⟩
      obtain ⟨A5, c5, rfl⟩ := G4.out.form
      go_wp2_with (fail)
      go_ret2
      rw [hK.out]
      exact ⟨A5, c5, rfl, G4.out.ok.lower (by omega), bb4.out⟩
    · rw [hx] at g4
      have G4 := Lib.hid g4
      have hK := Lib.hid hk
      have hR := Lib.hid hr
      clear g4 hk hr hx f4 o4
      have hBu := Lib.hid (built_failed _ _ _ _ _ _ _ G4.out)
      go_wp2_with (fail)
      refine hBu.out.mono ?_
      rintro e w5 ⟨rfl, rfl⟩
      go_wp2_with (fail)
      go_ret2
      rw [hK.out, hR.out]
      exact ⟨none, 0, rfl, OK.nil _ _ _ _, bb4.out⟩
theorem iExpandExpr_k (L B : Nat) (A : Option Addr) (c : Nat) (es : List Nd) (w : World) (hl : es.length ≤ 1048576) (hes : RS Nd.enc 4 w L B A es) (hB : B ≤ w.heap.size) (hc : es.length ≤ c) :
    Calls Try.prog 25 #[.slice A es.length c] w (ResExpandExpr (expandR es) (expandOk es) w) := iExpandExpr_any L B A c es w hl hes.ns hB
end Go.Proofs.Ytieljgfocgdngaa

/- Whether an expression is a tree in the order of the walk of its root. -/
namespace Go.Proofs.Ytieljgfocgdngaa
open Go.RowKit
set_option linter.unusedVariables false
set_option maxRecDepth 100000

set_option maxHeartbeats 1000000 in
theorem ruWalk_any (L B : Nat) (A : Option Addr) (c i : Nat) (es : List Nd) (w : World) (hl : es.length ≤ 24) (hi : i < es.length) (hok : okFrom es 0 = true) (hes : NS w L B A es) (hB : B ≤ w.heap.size) (hbd : (tr es es.length 0 i).length ≤ 1000) :
    Calls Try.prog 141 #[.slice A es.length c, .int .i64 i] w (FreshNode w (tr es es.length 0 i)) := by
  obtain ⟨W1, hW1⟩ : ∃ W1, W1 = w.alloc (.cells #[.slice none 0 0] 148) := ⟨_, rfl⟩
  have b1 : Below w.heap.size w W1 := by rw [hW1]; exact (Below.refl _ _).alloc (Nat.le_refl _) _
  have G1 : HS w.heap.size (w.heap.size + 1) [] (.slice none 0 0) W1 := by rw [hW1]; exact HS.nil _ _
  have z1 : W1.heap.size = w.heap.size + 1 := by rw [hW1]; simp
  have hC := Lib.hid (copied_any L B w.heap.size (w.heap.size + 1) w.heap.size A c es W1 hl hok (hes.below b1 hB) hB (by omega) (Nat.le_refl _) (by omega) (by omega) es.length i [] (.slice none 0 0) W1 hi hi (by simpa using hbd) (Below.refl _ _) G1)
  simp only [List.length_nil, List.nil_append, Nat.zero_add] at hC
  have e1 := Lib.hid hW1
  have B1 := Lib.hid b1
  clear hW1 b1 G1 hes
  generalize tr es es.length 0 i = T at *
  go_enter Try.func141, Try.ntmps141
  go_wp2_with (fail)
  rw [← e1.out]
  refine hC.out.mono ?_
  rintro e w2 ⟨rfl, v2, g2, f2, o2⟩
  have B2 := Lib.hid (B1.out.trans (f2.below (B := w.heap.size) (by omega) (Nat.le_refl _) (fun j hj => by simp [Value.ownBlock] at hj)))
  have G2 := Lib.hid g2
  obtain ⟨A2, c2, rfl⟩ := g2.form
  have c0 := g2.c0
  clear g2 f2 o2
  go_wp2
  go_ret
  exact ⟨A2, c2, rfl, G2.out.ok.lower (by omega), B2.out⟩

set_option maxHeartbeats 1000000 in
theorem ruWalked_any (L B : Nat) (A : Option Addr) (c : Nat) (es : List Nd) (w : World) (hl : es.length ≤ 1048576) (hes : NS w L B A es) (hB : B ≤ w.heap.size) :
    Calls Try.prog 118 #[.slice A es.length c] w fun e w' => e = .returned (.bool (walked es)) ∧ Below w.heap.size w w' := by
  have H := Lib.hid (exGood_any L B A c es w hl hes hB)
  have hE := Lib.hid fun (W : World) (hW : Below w.heap.size w W) => hes.below hW hB
  clear hes
  cases hg : good es
  · have hK : Hid (walked es = false) := by unfold Hid walked expandOk; rw [hg]; rfl
    rw [hg] at H
    clear hg
    go_enter Try.func118, Try.ntmps118
    go_wp2_with (fail)
    refine H.out.mono ?_
    rintro e w2 ⟨rfl, hb⟩
    have hbb := Lib.hid hb
    clear hb
    go_wp2
    go_ret
    exact ⟨ret_bool (by rw [hK.out]), hbb.out⟩
  obtain ⟨hl1, hl24, hok⟩ := good_len hg
  have hW := Lib.hid (walked_tree hg)
  have hS := Lib.hid (tree_size hg)
  have hT := Lib.hid fun (W : World) (hW : Below w.heap.size w W) => exTree_any L B A c es W hl24 (hE.out W hW) (Nat.le_trans hB hW.size) hok
  rw [hg] at H
  have hOk := Lib.hid hok
  clear hg hok
  cases ht : tree es
  · rw [ht] at hT hW
    have hK : Hid (walked es = false) := by rw [Hid, hW.out]; rfl
    clear ht hS
    go_enter Try.func118, Try.ntmps118
    go_wp2_with (fail)
    refine H.out.mono ?_
    rintro e w2 ⟨rfl, hb⟩
    have hbb := Lib.hid hb
    clear hb
    go_wp2_with (fail)
    refine (hT.out w2 hbb.out).mono ?_
    rintro e w3 ⟨rfl, hb⟩
    have hbc := Lib.hid (hbb.out.trans (hb.mono hbb.out.size))
    clear hb
    go_wp2
    go_ret
    exact ⟨ret_bool (by rw [hK.out]), hbc.out⟩
  · have hsz := Lib.hid (hS.out.1 ht)
    rw [ht] at hT hW
    rw [Bool.true_and] at hW
    clear ht hS
    obtain ⟨m, hm⟩ : ∃ m, es.length = m + 1 := ⟨es.length - 1, by omega⟩
    have hM := Lib.hid hm
    have hmm : es.length - 1 = m := by omega
    have hmi : (es.length : Int) - 1 = (m : Int) := by omega
    have hMI := Lib.hid hmi
    have hRW := Lib.hid fun (W : World) (hW' : Below w.heap.size w W) => ruWalk_any L B A c m es W hl24 (by omega) hOk.out (hE.out W hW') (Nat.le_trans hB hW'.size) (by have := hsz.out; unfold expandL at this; rw [hmm] at this; omega)
    have hXl : tr es es.length 0 m = expandL es := by unfold expandL; rw [hmm]
    rw [hXl] at hRW
    clear hm hmi hmm hXl
    have hX24 : (expandL es).length ≤ 24 := by have := hsz.out; omega
    generalize expandL es = T at *
    go_enter Try.func118, Try.ntmps118
    go_wp2_with (fail)
    refine H.out.mono ?_
    rintro e w2 ⟨rfl, hb⟩
    have hbb := Lib.hid hb
    clear hb
    go_wp2_with (fail)
    refine (hT.out w2 hbb.out).mono ?_
    rintro e w3 ⟨rfl, hb⟩
    have hbc := Lib.hid (hbb.out.trans (hb.mono hbb.out.size))
    clear hb
    go_wp2_with (fail)
    rw [hMI.out]
    refine (hRW.out w3 hbc.out).mono ?_
    rintro e w4 ⟨A4, c4, rfl, ho, hb⟩
    have hbd := Lib.hid (hbc.out.trans (hb.mono hbc.out.size))
    have hSm := Lib.hid (ruSame_any w3.heap.size w4.heap.size L B A4 A c4 c T es w4 (by omega) hl (Nd.rs ho).ns (hE.out w4 hbd.out) (Nat.le_refl _) (Nat.le_trans hB hbd.out.size))
    clear hb ho
    go_wp2_with (fail)
    refine hSm.out.mono ?_
    rintro e w5 ⟨rfl, hb⟩
    have hbe := Lib.hid (hbd.out.trans (hb.mono hbd.out.size))
    clear hb
    go_wp2
    go_ret
    exact ⟨ret_bool (by rw [hW.out]), hbe.out⟩

set_option maxHeartbeats 1000000 in
theorem isWalked_any (L B : Nat) (A : Option Addr) (c : Nat) (es : List Nd) (w : World) (hl : es.length ≤ 1048576) (hes : NS w L B A es) (hB : B ≤ w.heap.size) :
    Calls Try.prog 80 #[.slice A es.length c] w fun e w' => e = .returned (.bool (walked es)) ∧ Below w.heap.size w w' := by
  have H := Lib.hid (iExpandExpr_any L B A c es w hl hes hB)
  have hE := Lib.hid fun (W : World) (hW : Below w.heap.size w W) => hes.below hW hB
  have hW : Hid (walked es = (expandOk es && sameL (expandL es) es)) := rfl
  have hRl := expandR_len es
  clear hes
  cases hk : expandOk es
  · rw [hk] at H hW
    clear hk
    go_enter Try.func80, Try.ntmps80
    go_wp2_with (fail)
    refine H.out.mono ?_
    rintro e w2 ⟨A2, c2, rfl, _, hb⟩
    have hbb := Lib.hid hb
    clear hb
    go_wp2
    go_ret
    exact ⟨ret_bool (by rw [hW.out]; rfl), hbb.out⟩
  · have hR : expandR es = expandL es := by unfold expandR; rw [if_pos hk]
    rw [hk] at H hW
    rw [Bool.true_and, ← hR] at hW
    clear hk hR
    generalize expandR es = T at *
    go_enter Try.func80, Try.ntmps80
    go_wp2_with (fail)
    refine H.out.mono ?_
    rintro e w2 ⟨A2, c2, rfl, ho, hb⟩
    have hbb := Lib.hid hb
    have hSm := Lib.hid (equalN_any w.heap.size w2.heap.size L B A2 A c2 c T es w2 hRl hl (Nd.rs ho).ns (hE.out w2 hb) (Nat.le_refl _) (Nat.le_trans hB hb.size))
    clear hb ho
    go_wp2_with (fail)
    refine hSm.out.mono ?_
    rintro e w3 ⟨rfl, hb⟩
    have hbc := Lib.hid (hbb.out.trans (hb.mono hbb.out.size))
    clear hb
    go_wp2
    go_ret
    exact ⟨ret_bool (by rw [hW.out]), hbc.out⟩
end Go.Proofs.Ytieljgfocgdngaa

/- Rules: a box of two slices and a string; what the laws do with rules. -/
namespace Go.Proofs.Ytieljgfocgdngaa
open Go.RowKit
set_option linter.unusedVariables false
set_option maxRecDepth 100000

def RX (t : TypeId) (w : World) (g : Nat) (v1 v2 : Value) (s : ByteArray) : Prop := w.heap[g]? = some (.cells #[v1, v2, .string s] t (0, 0))
theorem RX.lt {t : TypeId} {w : World} {g : Nat} {v1 v2 : Value} {s : ByteArray} (h : RX t w g v1 v2 s) : g < w.heap.size := by
  rcases Nat.lt_or_ge g w.heap.size with hlt | hge
  · exact hlt
  · unfold RX at h; rw [Array.getElem?_eq_none hge] at h; cases h
theorem RX.next {t : TypeId} {w w' : World} {g : Nat} {v1 v2 : Value} {s : ByteArray} (h : RX t w g v1 v2 s) (hb : Below w.heap.size w w') : RX t w' g v1 v2 s := (hb.block g h.lt).trans h
theorem RX.cells {t : TypeId} {w : World} {g : Nat} {v1 v2 : Value} {s : ByteArray} (h : RX t w g v1 v2 s) : w.cell? ⟨g, 0, none⟩ = some v1 ∧ w.cell? ⟨g, 1, none⟩ = some v2 ∧ w.cell? ⟨g, 2, none⟩ = some (.string s) := by
  unfold RX at h; simp [World.cell?, h]
theorem RX.fz {t : TypeId} {w : World} {g : Nat} {v1 v2 : Value} {s : ByteArray} (h : RX t w g v1 v2 s) (i : Nat) : w.frozen? ⟨g, i, none⟩ = false := by
  unfold RX at h; simp [World.frozen?, h]
theorem RX.set0 {t : TypeId} {w : World} {g : Nat} {v1 v2 : Value} {s : ByteArray} (h : RX t w g v1 v2 s) (x : Value) : RX t (w.setCell ⟨g, 0, none⟩ x) g x v2 s := by
  unfold RX at h ⊢; simp [World.setCell, Array.getElem?_modify, h]
theorem RX.set1 {t : TypeId} {w : World} {g : Nat} {v1 v2 : Value} {s : ByteArray} (h : RX t w g v1 v2 s) (x : Value) : RX t (w.setCell ⟨g, 1, none⟩ x) g v1 x s := by
  unfold RX at h ⊢; simp [World.setCell, Array.getElem?_modify, h]
theorem RX.set2 {t : TypeId} {w : World} {g : Nat} {v1 v2 : Value} {s : ByteArray} (h : RX t w g v1 v2 s) (x : ByteArray) : RX t (w.setCell ⟨g, 2, none⟩ (.string x)) g v1 v2 x := by
  unfold RX at h ⊢; simp [World.setCell, Array.getElem?_modify, h]
theorem RX.other {t : TypeId} {w : World} {g q : Nat} {v1 v2 : Value} {s : ByteArray} (h : RX t w g v1 v2 s) (j : Nat) (x : Value) (hne : q ≠ g) : RX t (w.setCell ⟨q, j, none⟩ x) g v1 v2 s :=
  (Below.heap_setCell w ⟨q, j, none⟩ x g (by simpa using fun e => hne e.symm)).trans h
theorem rx_new (t : TypeId) (w : World) (v1 v2 : Value) (s : ByteArray) : RX t (w.alloc (.cells #[v1, v2, .string s] t)) w.heap.size v1 v2 s := heap_alloc_new w _
theorem OK.far {t : TypeId} {w : World} {lo hi : Nat} {v : Value} {xs : List Nd} (h : OK Nd.enc 4 t w lo hi v xs) {p : Addr} (hp : p.block < lo ∨ hi ≤ p.block) (u : Value) : OK Nd.enc 4 t (w.setCell p u) lo hi v xs := by
  refine ⟨⟨h.1.1, ?_⟩, h.2⟩
  rcases h.1.2 with hn | ⟨g, cap, cur, rfl, hg, hh, hr⟩
  · exact .inl hn
  · have hB : g < hi := h.2 g rfl
    exact .inr ⟨g, cap, cur, rfl, hg, (Below.heap_setCell w p u g (by omega)).trans hh, hr⟩
/-- A function whose result is a rule in a cell. -/
theorem rule_ret {fn : Func} {Q : Ending → World → Prop} {tmps : Array Value} {w : World} {g : Nat} {v1 v2 : Value} {sd : ByteArray} {s : Tmp} (hr : fn.results = #[.cell s 45]) (hs : tmps.getD s undef = .pointer (some ⟨g, 0, none⟩))
    (h : RX 45 w g v1 v2 sd) (hq : Q (.returned (.agg #[v1, v2, .string sd])) w) : bodyPost Try.prog fn Q .ret ⟨tmps, []⟩ w := by
  obtain ⟨q0, q1, q2⟩ := h.cells
  refine bodyPost_ret (v := .agg #[v1, v2, .string sd]) ?_ rfl hq
  have hs' : tmps[s]?.getD undef = .pointer (some ⟨g, 0, none⟩) := by simpa using hs
  simp [results, hr, hs', go_sem, q0, q1, q2]

def FreshRule (w : World) (fr to : List Nd) (s : ByteArray) (e : Ending) (w' : World) : Prop :=
  ∃ A1 c1 A2 c2, e = .returned (.agg #[.slice A1 fr.length c1, .slice A2 to.length c2, .string s]) ∧ OK Nd.enc 4 62 w' w.heap.size w'.heap.size (.slice A1 fr.length c1) fr ∧ OK Nd.enc 4 62 w' w.heap.size w'.heap.size (.slice A2 to.length c2) to ∧ Below w.heap.size w w'

set_option maxHeartbeats 4000000 in
theorem toRule_k (L B : Nat) (A1 A2 : Option Addr) (c1 c2 : Nat) (fr to : List Nd) (s : ByteArray) (w : World) (hl1 : fr.length ≤ 1048576) (hl2 : to.length ≤ 1048576) (h1 : RS Nd.enc 4 w L B A1 fr) (h2 : RS Nd.enc 4 w L B A2 to) (hB : B ≤ w.heap.size) :
    Calls Try.prog 38 #[.agg #[.slice A1 fr.length c1, .slice A2 to.length c2, .string s]] w (FreshRule w fr to s) := by
  have hT1 := Lib.hid fun (W : World) (hW : Below w.heap.size w W) => toNodeS_k L B A1 c1 fr W hl1 (h1.below hW hB) (Nat.le_trans hB hW.size)
  have hT2 := Lib.hid fun (W : World) (hW : Below w.heap.size w W) => toNodeS_k L B A2 c2 to W hl2 (h2.below hW hB) (Nat.le_trans hB hW.size)
  clear h1 h2
  obtain ⟨W1, hW1⟩ : ∃ W1, W1 = w.alloc (.cells #[.slice A1 fr.length c1, .slice A2 to.length c2, .string s] 41) := ⟨_, rfl⟩
  have b1 : Below w.heap.size w W1 := by rw [hW1]; exact (Below.refl _ _).alloc (Nat.le_refl _) _
  have x1 : RX 41 W1 w.heap.size (.slice A1 fr.length c1) (.slice A2 to.length c2) s := by rw [hW1]; exact rx_new _ _ _ _ _
  have z1 : W1.heap.size = w.heap.size + 1 := by rw [hW1]; simp
  obtain ⟨W2, hW2⟩ : ∃ W2, W2 = W1.alloc (.cells #[.slice none 0 0, .slice none 0 0, .string ⟨#[]⟩] 45) := ⟨_, rfl⟩
  have b2 : Below W1.heap.size W1 W2 := by rw [hW2]; exact (Below.refl _ _).alloc (Nat.le_refl _) _
  have r2 : RX 45 W2 (w.heap.size + 1) (.slice none 0 0) (.slice none 0 0) ⟨#[]⟩ := by rw [hW2, ← z1]; exact rx_new _ _ _ _ _
  have z2 : W2.heap.size = w.heap.size + 2 := by rw [hW2]; simp [z1]
  obtain ⟨W3, hW3⟩ : ∃ W3, W3 = W2.alloc (.cells #[.slice none 0 0, .slice none 0 0, .string ⟨#[]⟩] 45) := ⟨_, rfl⟩
  have b3 : Below W2.heap.size W2 W3 := by rw [hW3]; exact (Below.refl _ _).alloc (Nat.le_refl _) _
  have o3 : Hid (RX 45 W3 (w.heap.size + 2) (.slice none 0 0) (.slice none 0 0) ⟨#[]⟩) := by unfold Hid; rw [hW3, ← z2]; exact rx_new _ _ _ _ _
  have r3 := Lib.hid (r2.next b3)
  have x3 := Lib.hid ((x1.next b2).next b3)
  have B3 := Lib.hid ((b1.trans (b2.mono b1.size)).trans (b3.mono (by omega)))
  have z3 : W3.heap.size = w.heap.size + 3 := by rw [hW3]; simp [z2]
  have e3 : Hid (W3 = ((w.alloc (.cells #[.slice A1 fr.length c1, .slice A2 to.length c2, .string s] 41)).alloc (.cells #[.slice none 0 0, .slice none 0 0, .string ⟨#[]⟩] 45)).alloc (.cells #[.slice none 0 0, .slice none 0 0, .string ⟨#[]⟩] 45)) := by unfold Hid; rw [hW3, hW2, hW1]
  clear hW1 hW2 hW3 b1 x1 z1 b2 r2 z2 b3
  obtain ⟨k0, k1, k2⟩ := x3.out.cells
  rw [e3.out] at k0 k1 k2
  go_enter Try.func38, Try.ntmps38
  go_wp2_with (fail)
  rw [← e3.out]
  refine (hT1.out W3 B3.out).mono ?_
  rintro e w4 ⟨A1', c1', rfl, ho1, hb4⟩
  have z4 := hb4.size
  have x4 := Lib.hid (x3.out.next hb4)
  have r4 := Lib.hid (r3.out.next hb4)
  have o4 := Lib.hid (o3.out.next hb4)
  have B4 := Lib.hid (B3.out.trans (hb4.mono (by omega)))
  have O4 := Lib.hid ho1
  clear hb4 ho1 k0 k1 k2
  obtain ⟨W5, hW5⟩ : ∃ W5, W5 = w4.setCell ⟨w.heap.size + 2, 0, none⟩ (.slice A1' fr.length c1') := ⟨_, rfl⟩
  have x5 : Hid (RX 41 W5 w.heap.size (.slice A1 fr.length c1) (.slice A2 to.length c2) s) := by unfold Hid; rw [hW5]; exact x4.out.other (q := w.heap.size + 2) 0 _ (by omega)
  have r5 : Hid (RX 45 W5 (w.heap.size + 1) (.slice none 0 0) (.slice none 0 0) ⟨#[]⟩) := by unfold Hid; rw [hW5]; exact r4.out.other (q := w.heap.size + 2) 0 _ (by omega)
  have o5 : Hid (RX 45 W5 (w.heap.size + 2) (.slice A1' fr.length c1') (.slice none 0 0) ⟨#[]⟩) := by unfold Hid; rw [hW5]; exact o4.out.set0 _
  have B5 : Hid (Below w.heap.size w W5) := by unfold Hid; rw [hW5]; exact B4.out.setCell (p := ⟨w.heap.size + 2, 0, none⟩) (by simp) _
  have z5 : W5.heap.size = w4.heap.size := by rw [hW5]; simp [World.setCell]
  have O5 : Hid (OK Nd.enc 4 62 W5 W3.heap.size w4.heap.size (.slice A1' fr.length c1') fr) := by unfold Hid; rw [hW5]; exact O4.out.far (p := ⟨w.heap.size + 2, 0, none⟩) (.inl (by simp; omega)) _
  have q0 := o4.out.fz 0
  obtain ⟨l0, l1, l2⟩ := o4.out.cells
  obtain ⟨k0, k1, k2⟩ := x5.out.cells
  rw [hW5] at k0 k1 k2
  have HW5 := Lib.hid hW5
  clear hW5
  go_wp2_with (fail)
  rw [← HW5.out]
  refine (hT2.out W5 B5.out).mono ?_
  rintro e w6 ⟨A2', c2', rfl, ho2, hb6⟩
  have z6 := hb6.size
  have x6 := Lib.hid (x5.out.next hb6)
  have r6 := Lib.hid (r5.out.next hb6)
  have o6 := Lib.hid (o5.out.next hb6)
  have B6 := Lib.hid (B5.out.trans (hb6.mono (by omega)))
  have O6 := Lib.hid (O5.out.below hb6 (by omega))
  have P6 := Lib.hid ho2
  clear hb6 ho2 k0 k1 k2 l0 l1 l2 q0
  have q1 := o6.out.fz 1
  obtain ⟨l0, l1, l2⟩ := o6.out.cells
  have o7 := Lib.hid (o6.out.set1 (.slice A2' to.length c2'))
  have x7 := Lib.hid (x6.out.other (q := w.heap.size + 2) 1 (.slice A2' to.length c2') (by omega))
  have r7 := Lib.hid (r6.out.other (q := w.heap.size + 2) 1 (.slice A2' to.length c2') (by omega))
  obtain ⟨k0, k1, k2⟩ := x7.out.cells
  have q2 := o7.out.fz 2
  obtain ⟨j0, j1, j2⟩ := o7.out.cells
  have o8 := Lib.hid (o7.out.set2 s)
  have r8 := Lib.hid (r7.out.other (q := w.heap.size + 2) 2 (.string s) (by omega))
  obtain ⟨i0, i1, i2⟩ := o8.out.cells
  obtain ⟨h0, h1, h2⟩ := r8.out.cells
  have f0 := r8.out.fz 0
  have f1 := r8.out.fz 1
  have f2 := r8.out.fz 2
  have R := Lib.hid (((r8.out.set0 (.slice A1' fr.length c1')).set1 (.slice A2' to.length c2')).set2 s)
  have hlo : ∀ p : Addr, p.block < W3.heap.size → p.block < W3.heap.size ∨ w4.heap.size ≤ p.block := fun p h => .inl h
  have RO1 := Lib.hid (((((O6.out.far (p := ⟨w.heap.size + 2, 1, none⟩) (.inl (by simp; omega)) (.slice A2' to.length c2')).far (p := ⟨w.heap.size + 2, 2, none⟩) (.inl (by simp; omega)) (.string s)).far (p := ⟨w.heap.size + 1, 0, none⟩) (.inl (by simp; omega)) (.slice A1' fr.length c1')).far (p := ⟨w.heap.size + 1, 1, none⟩) (.inl (by simp; omega)) (.slice A2' to.length c2')).far (p := ⟨w.heap.size + 1, 2, none⟩) (.inl (by simp; omega)) (.string s))
  have RO2 := Lib.hid (((((P6.out.far (p := ⟨w.heap.size + 2, 1, none⟩) (.inl (by simp; omega)) (.slice A2' to.length c2')).far (p := ⟨w.heap.size + 2, 2, none⟩) (.inl (by simp; omega)) (.string s)).far (p := ⟨w.heap.size + 1, 0, none⟩) (.inl (by simp; omega)) (.slice A1' fr.length c1')).far (p := ⟨w.heap.size + 1, 1, none⟩) (.inl (by simp; omega)) (.slice A2' to.length c2')).far (p := ⟨w.heap.size + 1, 2, none⟩) (.inl (by simp; omega)) (.string s))
  have RB := Lib.hid (((((B6.out.setCell (p := ⟨w.heap.size + 2, 1, none⟩) (by simp) (.slice A2' to.length c2')).setCell (p := ⟨w.heap.size + 2, 2, none⟩) (by simp) (.string s)).setCell (p := ⟨w.heap.size + 1, 0, none⟩) (by simp) (.slice A1' fr.length c1')).setCell (p := ⟨w.heap.size + 1, 1, none⟩) (by simp) (.slice A2' to.length c2')).setCell (p := ⟨w.heap.size + 1, 2, none⟩) (by simp) (.string s))
  go_wp2
  refine rule_ret rfl rfl R.out ⟨A1', c1', A2', c2', rfl, (RO1.out.lower (by omega)).more (by simp [World.setCell]; omega), (RO2.out.lower (by omega)).more (by simp [World.setCell]), RB.out⟩
end Go.Proofs.Ytieljgfocgdngaa
