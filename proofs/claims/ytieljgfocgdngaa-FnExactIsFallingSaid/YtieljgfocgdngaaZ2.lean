/- Texts of this proof, one behind the other: IB, RJ, RK, YA, RL, RM. -/
import Derived.Test.YtieljgfocgdngaaTM
import Derived.Test.YtieljgfocgdngaaK2
import Derived.Outline
import Derived.Test.YtieljgfocgdngaaZ3
import Derived.WalkKit
import Derived.WalkSpells
import Derived.WalkLawsBesides
import Derived.Lib.Hide
import Derived.Test.YtieljgfocgdngaaJ
import Derived.Test.YtieljgfocgdngaaLI
import Derived.Deep.RegionLaw
import Derived.Deep.RegionHeld3
namespace Go.Proofs.Ytieljgfocgdngaa
open Go.RowKit
set_option linter.unusedVariables false
set_option maxRecDepth 100000

theorem hasInput1_any (s : ByteArray) (a b v k : Int) (bk : Nat) (w : World) (hc : w.cell? ⟨bk, 0, none⟩ = some (.int .i64 k)) (hbk : bk < w.heap.size) :
    Calls Try.prog 109 #[.agg #[.string s, .int .i64 a, .int .i64 b, .int .i64 v], .pointer (some ⟨bk, 0, none⟩)] w fun e w' => e = .returned (.bool (isInp ⟨s, a, b, v⟩ k)) ∧ Below w.heap.size w w' := by
  have hB1 := Lib.hid (fun o => (Below.refl w.heap.size w).alloc (Nat.le_refl _) o)
  go_enter Try.func109, Try.ntmps109
  go_wp2_with (fail)
  refine (isInput_any _ _ _ _ _ _).mono ?_
  rintro e w2 ⟨rfl, hb⟩
  have hb2 := Lib.hid ((hB1.out _).trans (hb.mono (by simp)))
  clear hb
  go_wp2
  go_ret
  exact ⟨rfl, hb2.out⟩
theorem hasIn_of {es : List Nd} {k : Int} {j : Nat} (h : hasIn (es.take j) k = true) : hasIn es k = true := by
  unfold hasIn at *
  rw [List.any_eq_true] at *
  obtain ⟨x, hx, hp⟩ := h
  exact ⟨x, List.mem_of_mem_take hx, hp⟩
def SomeIn (es : List Nd) (k : Int) (w : World) (e : Ending) (w' : World) : Prop := ∃ j : Int, e = .returned (.int .i64 j) ∧ decide (0 ≤ j) = hasIn es k ∧ Below w.heap.size w w'
set_option maxHeartbeats 1000000 in
theorem IndexFuncH_any (L B : Nat) (A : Option Addr) (c : Nat) (es : List Nd) (k : Int) (bk : Nat) (w : World) (hl : es.length ≤ 1048576) (hes : NS w L B A es) (hB : B ≤ w.heap.size) (hc : w.cell? ⟨bk, 0, none⟩ = some (.int .i64 k)) (hbk : bk < w.heap.size) :
    Calls Try.prog 135 #[.slice A es.length c, .func (.func 109) #[] #[.pointer (some ⟨bk, 0, none⟩)]] w (SomeIn es k w) := by
  have hE := Lib.hid hes
  have hBB := Lib.hid hB
  have hC := Lib.hid (And.intro hc hbk)
  have hBel0 := Below.refl w.heap.size w
  clear hes hB hc hbk
  go_enter Try.func135, Try.ntmps135
  go_wp2
  go_loopw [5, 8] (fun _ i wr => ∃ j : Nat, j ≤ es.length ∧ i = .int .i64 j ∧ hasIn (es.take j) k = false ∧ Below w.heap.size w wr) (fun _ i _ => es.length - (intOf i).toNat)
  case atStart => exact ⟨0, Nat.zero_le _, rfl, rfl, hBel0⟩
  case round =>
    obtain ⟨j, hj, rfl, hno, hbel⟩ := hrel
    have hNo := Lib.hid hno
    have hBL := Lib.hid hbel
    clear hno
    by_cases hlt : j < es.length
    · obtain ⟨b, o, rfl, ⟨_, hbB⟩, hcc⟩ := (hE.out.below hbel hBB.out) (by omega)
      obtain ⟨c1, c2, c3, c4⟩ := hcc j hlt
      have hck := Lib.hid ((hbel.cell (p := ⟨bk, 0, none⟩) hC.out.2).trans hC.out.1)
      have hbk2 := Lib.hid (Nat.lt_of_lt_of_le hC.out.2 hbel.size)
      clear hcc hbel
      have hS := Lib.hid (hasIn_snoc hlt k)
      have hOf := Lib.hid (fun h => hasIn_of (es := es) (k := k) (j := j + 1) h)
      generalize es[j] = nd at *
      obtain ⟨s, a, bb, v⟩ := nd
      have hcl := Lib.hid (hasInput1_any s a bb v k bk wr hck.out hbk2.out)
      cases hp : isInp ⟨s, a, bb, v⟩ k
      · rw [hp] at hcl
        have hx : Hid (hasIn (es.take (j + 1)) k = false) := by rw [Hid, hS.out, hNo.out, hp]; rfl
        clear hp
        go_wp2_with (go_at_call 109; (with_reducible refine hcl.out.mono ?_); rintro e w3 ⟨rfl, hb3⟩)
        have hB3 := Lib.hid (hBL.out.trans (hb3.mono hBL.out.size))
        clear hb3
        go_roundw
        case rel => exact ⟨j + 1, by omega, by go_num, hx.out, hB3.out⟩
        case measure => simp [intOf]; omega
      · rw [hp] at hcl
        have hx : Hid (hasIn es k = true) := hOf.out (by rw [hS.out, hp]; simp)
        clear hp
        go_wp2_with (go_at_call 109; (with_reducible refine hcl.out.mono ?_); rintro e w3 ⟨rfl, hb3⟩)
        have hB3 := Lib.hid (hBL.out.trans (hb3.mono hBL.out.size))
        clear hb3
        go_ret
        exact ⟨j, rfl, by rw [hx.out]; simp, hB3.out⟩
    · obtain rfl : j = es.length := by omega
      go_wp2
      go_ret
      exact ⟨-1, rfl, by have := hNo.out; rw [List.take_length] at this; rw [this]; rfl, hbel⟩
theorem ContainsFuncH_any (L B : Nat) (A : Option Addr) (c : Nat) (es : List Nd) (k : Int) (bk : Nat) (w : World) (hl : es.length ≤ 1048576) (hes : NS w L B A es) (hB : B ≤ w.heap.size) (hc : w.cell? ⟨bk, 0, none⟩ = some (.int .i64 k)) (hbk : bk < w.heap.size) :
    Calls Try.prog 108 #[.slice A es.length c, .func (.func 109) #[] #[.pointer (some ⟨bk, 0, none⟩)]] w fun e w' => e = .returned (.bool (hasIn es k)) ∧ Below w.heap.size w w' := by
  have H := Lib.hid (IndexFuncH_any L B A c es k bk w hl hes hB hc hbk)
  clear hes hB hc hbk
  go_enter Try.func108, Try.ntmps108
  go_wp2_with (fail)
  refine H.out.mono ?_
  rintro e w' ⟨j, rfl, hk, hb⟩
  have hK := Lib.hid hk; clear hk
  go_wp2
  go_ret
  exact ⟨ret_bool hK.out, hb⟩
theorem hasInput_any (L B : Nat) (A : Option Addr) (c : Nat) (es : List Nd) (k : Int) (w : World) (hl : es.length ≤ 1048576) (hes : NS w L B A es) (hB : B ≤ w.heap.size) :
    Calls Try.prog 70 #[.slice A es.length c, .int .i64 k] w fun e w' => e = .returned (.bool (hasIn es k)) ∧ Below w.heap.size w w' := by
  have hb1 := Lib.hid ((Below.refl w.heap.size w).alloc (Nat.le_refl _) (.cells #[.int .i64 k] 3))
  have H := Lib.hid (ContainsFuncH_any L B A c es k w.heap.size (w.alloc (.cells #[.int .i64 k] 3)) hl (hes.below hb1.out hB) (Nat.le_trans hB hb1.out.size) (by simp) (by simp))
  clear hes hB
  go_enter Try.func70, Try.ntmps70
  go_wp2_with (fail)
  refine H.out.mono ?_
  rintro e w' ⟨rfl, hb⟩
  have hb2 := Lib.hid (hb1.out.trans (hb.mono hb1.out.size))
  clear hb
  go_wp2
  go_ret
  exact ⟨rfl, hb2.out⟩
end Go.Proofs.Ytieljgfocgdngaa

/- IsRule: the model and the program. -/
namespace Go.Proofs.Ytieljgfocgdngaa
open Go.RowKit
set_option linter.unusedVariables false
set_option maxRecDepth 100000

def isAny (s : ByteArray) : Bool := s.toList == [97, 110, 121]
def holesOk (fr to : List Nd) (s : ByteArray) : Bool := (hasIn fr 0 || !hasIn to 0) && (hasIn fr 1 || (!hasIn to 1 && isAny s))
def rootOp (fr : List Nd) : Bool := !((parts (fr.getD (fr.length - 1) zeroNd)).length == 0)
def ruleOk (fr to : List Nd) (s : ByteArray) : Bool := isSide s && walked fr && walked to && rootOp fr && holesOk fr to s

theorem cnt_pos {es : List Nd} {k : Int} : hasIn es k = true ↔ 0 < cntIn es k := by rw [← cntIn_pos]; simp
theorem cnt_zero {es : List Nd} {k : Int} : hasIn es k = false ↔ cntIn es k = 0 := by
  have h1 := (cntIn_bd es es.length k).1
  rw [List.take_length] at h1
  rw [← cntIn_pos]; simp; omega

set_option maxHeartbeats 4000000 in
theorem ruGood_any (L B : Nat) (A1 A2 : Option Addr) (c1 c2 : Nat) (fr to : List Nd) (s : ByteArray) (w : World) (hl1 : fr.length ≤ 1048576) (hl2 : to.length ≤ 1048576) (h1 : NS w L B A1 fr) (h2 : NS w L B A2 to) (hB : B ≤ w.heap.size) :
    Calls Try.prog 79 #[.agg #[.slice A1 fr.length c1, .slice A2 to.length c2, .string s]] w fun e w' => e = .returned (.bool (ruleOk fr to s)) ∧ Below w.heap.size w w' := by
  obtain ⟨W1, hW1⟩ : ∃ W1, W1 = w.alloc (.cells #[.slice A1 fr.length c1, .slice A2 to.length c2, .string s] 45) := ⟨_, rfl⟩
  have b1 : Hid (Below w.heap.size w W1) := by unfold Hid; rw [hW1]; exact (Below.refl _ _).alloc (Nat.le_refl _) _
  have x1 : Hid (RX 45 W1 w.heap.size (.slice A1 fr.length c1) (.slice A2 to.length c2) s) := by unfold Hid; rw [hW1]; exact rx_new _ _ _ _ _
  have e1 := Lib.hid hW1
  obtain ⟨k0, k1, k2⟩ := x1.out.cells
  rw [hW1] at k0 k1 k2
  have E1 := Lib.hid fun (W : World) (hW : Below w.heap.size w W) => h1.below hW hB
  have E2 := Lib.hid fun (W : World) (hW : Below w.heap.size w W) => h2.below hW hB
  have HS0 := Lib.hid fun W => ruSide_any s W
  have HW1 := Lib.hid fun (W : World) (hW : Below w.heap.size w W) => ruWalked_any L B A1 c1 fr W hl1 (h1.below hW hB) (Nat.le_trans hB hW.size)
  have HW2 := Lib.hid fun (W : World) (hW : Below w.heap.size w W) => ruWalked_any L B A2 c2 to W hl2 (h2.below hW hB) (Nat.le_trans hB hW.size)
  have HH1 := Lib.hid fun (W : World) (hW : Below w.heap.size w W) => ruHoles_any L B A1 c1 fr W hl1 (h1.below hW hB) (Nat.le_trans hB hW.size)
  have HH2 := Lib.hid fun (W : World) (hW : Below w.heap.size w W) => ruHoles_any L B A2 c2 to W hl2 (h2.below hW hB) (Nat.le_trans hB hW.size)
  clear hW1 h1 h2
  cases hs : isSide s
  · have hK : Hid (ruleOk fr to s = false) := by unfold Hid ruleOk; rw [hs]; rfl
    rw [hs] at HS0
    clear hs
    go_enter Try.func79, Try.ntmps79
    go_wp2_with (fail)
    rw [← e1.out]
    refine (HS0.out W1).mono ?_
    rintro e w2 ⟨rfl, hb⟩
    have b2 := Lib.hid (b1.out.trans (hb.mono b1.out.size))
    clear hb
    go_wp2
    go_ret
    exact ⟨ret_bool (by rw [hK.out]), b2.out⟩
  rw [hs] at HS0
  cases hw1 : walked fr
  · have hK : Hid (ruleOk fr to s = false) := by unfold Hid ruleOk; rw [hs, hw1]; rfl
    rw [hw1] at HW1
    clear hs hw1
    go_enter Try.func79, Try.ntmps79
    go_wp2_with (fail)
    rw [← e1.out]
    refine (HS0.out W1).mono ?_
    rintro e w2 ⟨rfl, hb⟩
    have b2 := Lib.hid (b1.out.trans (hb.mono b1.out.size))
    have x2 := x1.out.next hb
    clear hb k0 k1 k2
    obtain ⟨k0, k1, k2⟩ := x2.cells
    go_wp2_with (fail)
    refine (HW1.out w2 b2.out).mono ?_
    rintro e w3 ⟨rfl, hb⟩
    have b3 := Lib.hid (b2.out.trans (hb.mono b2.out.size))
    clear hb
    go_wp2
    go_ret
    exact ⟨ret_bool (by rw [hK.out]), b3.out⟩
  rw [hw1] at HW1
  cases hw2 : walked to
  · have hK : Hid (ruleOk fr to s = false) := by unfold Hid ruleOk; rw [hs, hw1, hw2]; rfl
    rw [hw2] at HW2
    clear hs hw1 hw2
    go_enter Try.func79, Try.ntmps79
    go_wp2_with (fail)
    rw [← e1.out]
    refine (HS0.out W1).mono ?_
    rintro e w2 ⟨rfl, hb⟩
    have b2 := Lib.hid (b1.out.trans (hb.mono b1.out.size))
    have x2 := x1.out.next hb
    clear hb k0 k1 k2
    obtain ⟨k0, k1, k2⟩ := x2.cells
    go_wp2_with (fail)
    refine (HW1.out w2 b2.out).mono ?_
    rintro e w3 ⟨rfl, hb⟩
    have b3 := Lib.hid (b2.out.trans (hb.mono b2.out.size))
    have x3 := x2.next hb
    clear hb k0 k1 k2
    obtain ⟨k0, k1, k2⟩ := x3.cells
    go_wp2_with (fail)
    refine (HW2.out w3 b3.out).mono ?_
    rintro e w4 ⟨rfl, hb⟩
    have b4 := Lib.hid (b3.out.trans (hb.mono b3.out.size))
    clear hb
    go_wp2
    go_ret
    exact ⟨ret_bool (by rw [hK.out]), b4.out⟩
  rw [hw2] at HW2
  have hg := walked_good hw1
  obtain ⟨hf1, hf24, hok⟩ := good_len hg
  obtain ⟨m, hm⟩ : ∃ m, fr.length = m + 1 := ⟨fr.length - 1, by omega⟩
  have hM := Lib.hid hm
  have hmi : (fr.length : Int) - 1 = (m : Int) := by omega
  have hMI := Lib.hid hmi
  have hmf : m < fr.length := by omega
  have hK0 : Hid (ruleOk fr to s = (!((parts fr[m]).length == 0) && holesOk fr to s)) := by
    unfold Hid ruleOk rootOp; rw [hs, hw1, hw2, show fr.length - 1 = m by omega, getD_nd hmf]; rfl
  have hCl := Lib.hid fun (W : World) (hW : Below w.heap.size w W) => (show ∃ b o, A1 = some ⟨b, o, none⟩ ∧ W.cell? ⟨b, o + m * 4, none⟩ = some (.string fr[m].op) ∧ W.cell? ⟨b, o + m * 4 + 1, none⟩ = some (.int .i64 fr[m].a) ∧ W.cell? ⟨b, o + m * 4 + 2, none⟩ = some (.int .i64 fr[m].b) ∧ W.cell? ⟨b, o + m * 4 + 3, none⟩ = some (.int .i64 fr[m].v) by
    obtain ⟨b, o, e, _, hc⟩ := (E1.out W hW) (by omega)
    exact ⟨b, o, e, hc m hmf⟩)
  have hPt := Lib.hid fun (W' : World) => exParts_any fr[m].op fr[m].a fr[m].b fr[m].v W'
  have hpe : parts ⟨fr[m].op, fr[m].a, fr[m].b, fr[m].v⟩ = parts fr[m] := rfl
  rw [hpe] at hPt
  have hpl := parts_le fr[m]
  have m0 : (0 : Int) ≤ (m : Int) := by omega
  have m1 : (m : Int) < (fr.length : Int) := by omega
  clear hs hw1 hw2 hg hok hm hmi hpe
  generalize parts fr[m] = ps at *
  generalize fr[m] = nd at *
  obtain ⟨op, a, bb, x⟩ := nd
  dsimp only at *
  have hAny : isAny s = (s.toList == [97, 110, 121]) := rfl
  go_enter Try.func79, Try.ntmps79
  go_wp2_with (fail)
  rw [← e1.out]
  refine (HS0.out W1).mono ?_
  rintro e w2 ⟨rfl, hb⟩
  have b2 := Lib.hid (b1.out.trans (hb.mono b1.out.size))
  have x2 := Lib.hid (x1.out.next hb)
  clear hb k0 k1 k2
  obtain ⟨k0, k1, k2⟩ := x2.out.cells
  go_wp2_with (fail)
  refine (HW1.out w2 b2.out).mono ?_
  rintro e w3 ⟨rfl, hb⟩
  have b3 := Lib.hid (b2.out.trans (hb.mono b2.out.size))
  have x3 := Lib.hid (x2.out.next hb)
  clear hb k0 k1 k2
  obtain ⟨k0, k1, k2⟩ := x3.out.cells
  go_wp2_with (fail)
  refine (HW2.out w3 b3.out).mono ?_
  rintro e w4 ⟨rfl, hb⟩
  have b4 := Lib.hid (b3.out.trans (hb.mono b3.out.size))
  have x4 := Lib.hid (x3.out.next hb)
  clear hb k0 k1 k2
  obtain ⟨k0, k1, k2⟩ := x4.out.cells
  obtain ⟨b', o', hA, q0, q1, q2, q3⟩ := hCl.out w4 b4.out
  subst hA
  have hmi := hMI.out
  go_wp2_with (fail)
  (with_reducible refine (hPt.out _).mono ?_)
  rintro e w5 ⟨A5, c5, rfl, _, hb⟩
  have b5 := Lib.hid (b4.out.trans (hb.mono b4.out.size))
  have x5 := Lib.hid (x4.out.next hb)
  clear hb k0 k1 k2 q0 q1 q2 q3
  obtain ⟨k0, k1, k2⟩ := x5.out.cells
  by_cases hp0 : ps.length = 0
  · have hK : Hid (ruleOk fr to s = false) := by rw [Hid, hK0.out, hp0]; rfl
    have hp0i : (ps.length : Int) = 0 := by omega
    clear hp0
    go_wp2
    go_ret
    exact ⟨ret_bool (by rw [hK.out]), b5.out⟩
  have hK : Hid (ruleOk fr to s = holesOk fr to s) := by
    have : (ps.length == 0) = false := by simpa using hp0
    rw [Hid, hK0.out, this]; rfl
  have hp0i : (ps.length : Int) ≠ 0 := by omega
  clear hp0
  go_wp2_with (fail)
  refine (HH1.out w5 b5.out).mono ?_
  rintro e w6 ⟨rfl, hb⟩
  have b6 := Lib.hid (b5.out.trans (hb.mono b5.out.size))
  have x6 := Lib.hid (x5.out.next hb)
  clear hb k0 k1 k2
  obtain ⟨k0, k1, k2⟩ := x6.out.cells
  go_wp2_with (fail)
  refine (HH2.out w6 b6.out).mono ?_
  rintro e w7 ⟨rfl, hb⟩
  have b7 := Lib.hid (b6.out.trans (hb.mono b6.out.size))
  have x7 := Lib.hid (x6.out.next hb)
  clear hb k0 k1 k2
  obtain ⟨k0, k1, k2⟩ := x7.out.cells
  have ha := Lib.hid (@cnt_pos fr 0)
  have ha' := Lib.hid (@cnt_zero fr 0)
  have hc := Lib.hid (@cnt_pos to 0)
  have hc' := Lib.hid (@cnt_zero to 0)
  have hbp := Lib.hid (@cnt_pos fr 1)
  have hbp' := Lib.hid (@cnt_zero fr 1)
  have hd := Lib.hid (@cnt_pos to 1)
  have hd' := Lib.hid (@cnt_zero to 1)
  have hHo : Hid (holesOk fr to s = ((hasIn fr 0 || !hasIn to 0) && (hasIn fr 1 || (!hasIn to 1 && isAny s)))) := rfl
  have n0 := (cntIn_bd fr fr.length 0).1
  have n1 := (cntIn_bd fr fr.length 1).1
  have n2 := (cntIn_bd to to.length 0).1
  have n3 := (cntIn_bd to to.length 1).1
  rw [List.take_length] at n0 n1 n2 n3
  generalize cntIn fr 0 = a0 at *
  generalize cntIn fr 1 = a1 at *
  generalize cntIn to 0 = a2 at *
  generalize cntIn to 1 = a3 at *
  generalize hasIn fr 0 = z0 at *
  generalize hasIn fr 1 = z1 at *
  generalize hasIn to 0 = z2 at *
  generalize hasIn to 1 = z3 at *
  have fin : ∀ (r : Bool), holesOk fr to s = r → ruleOk fr to s = r := fun r h => by rw [hK.out, h]
  have FIN := Lib.hid fin
  clear fin
  have tail : True := trivial
  by_cases hP : 0 < a0 ∨ a2 = 0
  · have hP1 : (z0 || !z2) = true := by
      rcases hP with h | h
      · rw [ha.out.2 h]; rfl
      · rw [hc'.out.2 h]; simp
    have hQ : Hid (holesOk fr to s = (z1 || (!z3 && isAny s))) := by rw [Hid, hHo.out, hP1]; rfl
    by_cases h1' : 0 < a1
    · have hr := Lib.hid (FIN.out true (by rw [hQ.out, hbp.out.2 h1']; rfl))
      rcases hP with h | h
      · go_wp2
        go_ret
        exact ⟨ret_bool (by first | (rw [hr.out]; done) | (rw [hr.out]; exact decide_eq_false (by omega))), b7.out⟩
      · by_cases hh : 0 < a0
        · go_wp2
          go_ret
          exact ⟨ret_bool (by first | (rw [hr.out]; done) | (rw [hr.out]; exact decide_eq_false (by omega))), b7.out⟩
        · go_wp2
          go_ret
          exact ⟨ret_bool (by first | (rw [hr.out]; done) | (rw [hr.out]; exact decide_eq_false (by omega))), b7.out⟩
    · have hz1 : z1 = false := hbp'.out.2 (by omega)
      by_cases h3' : a3 = 0
      · have hz3 : z3 = false := hd'.out.2 h3'
        cases hany : (s.toList == [97, 110, 121])
        · have hr := Lib.hid (FIN.out false (by rw [hQ.out, hz1, hz3, hAny, hany]; rfl))
          clear hz1 hz3 hAny
          by_cases hh : 0 < a0
          · go_wp2
            go_ret
            exact ⟨ret_bool (by first | (rw [hr.out]; done) | (rw [hr.out]; exact decide_eq_false (by omega))), b7.out⟩
          · have h2' : a2 = 0 := by omega
            go_wp2
            go_ret
            exact ⟨ret_bool (by first | (rw [hr.out]; done) | (rw [hr.out]; exact decide_eq_false (by omega))), b7.out⟩
        · have hr := Lib.hid (FIN.out true (by rw [hQ.out, hz1, hz3, hAny, hany]; rfl))
          have hs' : s.toList = [97, 110, 121] := by simpa using hany
          clear hz1 hz3 hAny hany
          by_cases hh : 0 < a0
          · go_wp2
            go_ret
            exact ⟨ret_bool (by first | (rw [hr.out]; done) | (rw [hr.out]; exact decide_eq_false (by omega))), b7.out⟩
          · have h2' : a2 = 0 := by omega
            go_wp2
            go_ret
            exact ⟨ret_bool (by first | (rw [hr.out]; done) | (rw [hr.out]; exact decide_eq_false (by omega))), b7.out⟩
      · have hz3 : z3 = true := hd.out.2 (by omega)
        have hr := Lib.hid (FIN.out false (by rw [hQ.out, hz1, hz3]; rfl))
        clear hz1 hz3
        by_cases hh : 0 < a0
        · go_wp2
          go_ret
          exact ⟨ret_bool (by first | (rw [hr.out]; done) | (rw [hr.out]; exact decide_eq_false (by omega))), b7.out⟩
        · have h2' : a2 = 0 := by omega
          go_wp2
          go_ret
          exact ⟨ret_bool (by first | (rw [hr.out]; done) | (rw [hr.out]; exact decide_eq_false (by omega))), b7.out⟩
  · have hn0 : ¬ 0 < a0 := fun h => hP (.inl h)
    have hn2 : ¬ a2 = 0 := fun h => hP (.inr h)
    have hz0 : z0 = false := ha'.out.2 (by omega)
    have hz2 : z2 = true := hc.out.2 (by omega)
    have hr := Lib.hid (FIN.out false (by rw [hHo.out, hz0, hz2]; rfl))
    clear hP hz0 hz2
    go_wp2
    go_ret
    exact ⟨ret_bool (by first | (rw [hr.out]; done) | (rw [hr.out]; exact decide_eq_false (by omega))), b7.out⟩

theorem sIsRule_k (L B : Nat) (A1 A2 : Option Addr) (c1 c2 : Nat) (fr to : List Nd) (s : ByteArray) (w : World) (hl1 : fr.length ≤ 1048576) (hl2 : to.length ≤ 1048576) (hl3 : s.size ≤ 1048576) (h1 : RS Nd.enc 4 w L B A1 fr) (h2 : RS Nd.enc 4 w L B A2 to) (hB : B ≤ w.heap.size) :
    Calls Try.prog 37 #[.agg #[.slice A1 fr.length c1, .slice A2 to.length c2, .string s]] w (ResIsRule (ruleOk fr to s) w) := by
  obtain ⟨W1, hW1⟩ : ∃ W1, W1 = w.alloc (.cells #[.slice A1 fr.length c1, .slice A2 to.length c2, .string s] 45) := ⟨_, rfl⟩
  have b1 : Hid (Below w.heap.size w W1) := by unfold Hid; rw [hW1]; exact (Below.refl _ _).alloc (Nat.le_refl _) _
  have x1 : RX 45 W1 w.heap.size (.slice A1 fr.length c1) (.slice A2 to.length c2) s := by rw [hW1]; exact rx_new _ _ _ _ _
  have H := Lib.hid (ruGood_any L B A1 A2 c1 c2 fr to s W1 hl1 hl2 (h1.below b1.out hB).ns (h2.below b1.out hB).ns (Nat.le_trans hB b1.out.size))
  obtain ⟨k0, k1, k2⟩ := x1.cells
  rw [hW1] at k0 k1 k2
  have e1 := Lib.hid hW1
  clear hW1 h1 h2 x1
  go_enter Try.func37, Try.ntmps37
  go_wp2_with (fail)
  rw [← e1.out]
  refine H.out.mono ?_
  rintro e w2 ⟨rfl, hb⟩
  have b2 := Lib.hid (b1.out.trans (hb.mono b1.out.size))
  clear hb
  go_wp2
  go_ret
  exact ⟨rfl, b2.out⟩
end Go.Proofs.Ytieljgfocgdngaa

/- IsRule: the program. -/
namespace Go.Proofs.Ytieljgfocgdngaa
open Go.RowKit
set_option linter.unusedVariables false
set_option maxRecDepth 100000

theorem fs_zero (s : ByteArray) : fsB s 0 = isSide s := by unfold fsB; rw [show isW 0 = true from rfl, Bool.true_and]
theorem parts_ar0 {n : Nd} {i : Int} (h : isNode n i = true) : ((parts n).length == 0) = (ar n.op == 0) := by
  rcases ar_cases_nd h with ⟨h1, h2, h3, -, -⟩ | ⟨h1, h2, h3, -, -, -⟩ | ⟨h1, h2, h3, -, -, -, -⟩
  · rw [parts_ar.2.2 h2 h3, h1]; rfl
  · rw [parts_ar.1 h1 h2, h1]; rfl
  · rw [parts_ar.2.1 h2 h3, h1]; rfl

set_option maxHeartbeats 4000000 in
theorem iIsRule_any (L B : Nat) (A1 A2 : Option Addr) (c1 c2 : Nat) (fr to : List Nd) (s : ByteArray) (w : World) (hl1 : fr.length ≤ 1048576) (hl2 : to.length ≤ 1048576) (h1 : NS w L B A1 fr) (h2 : NS w L B A2 to) (hB : B ≤ w.heap.size) :
    Calls Try.prog 39 #[.agg #[.slice A1 fr.length c1, .slice A2 to.length c2, .string s]] w (ResIsRule (ruleOk fr to s) w) := by
  obtain ⟨W1, hW1⟩ : ∃ W1, W1 = w.alloc (.cells #[.slice A1 fr.length c1, .slice A2 to.length c2, .string s] 45) := ⟨_, rfl⟩
  have b1 : Hid (Below w.heap.size w W1) := by unfold Hid; rw [hW1]; exact (Below.refl _ _).alloc (Nat.le_refl _) _
  have x1 : Hid (RX 45 W1 w.heap.size (.slice A1 fr.length c1) (.slice A2 to.length c2) s) := by unfold Hid; rw [hW1]; exact rx_new _ _ _ _ _
  have e1 := Lib.hid hW1
  obtain ⟨k0, k1, k2⟩ := x1.out.cells
  rw [hW1] at k0 k1 k2
  have E1 := Lib.hid fun (W : World) (hW : Below w.heap.size w W) => h1.below hW hB
  have HF := Lib.hid fun W => iFitsSide_any s 0 W
  rw [fs_zero] at HF
  have HW1 := Lib.hid fun (W : World) (hW : Below w.heap.size w W) => isWalked_any L B A1 c1 fr W hl1 (h1.below hW hB) (Nat.le_trans hB hW.size)
  have HW2 := Lib.hid fun (W : World) (hW : Below w.heap.size w W) => isWalked_any L B A2 c2 to W hl2 (h2.below hW hB) (Nat.le_trans hB hW.size)
  have HI1 := Lib.hid fun (k : Int) (W : World) (hW : Below w.heap.size w W) => hasInput_any L B A1 c1 fr k W hl1 (h1.below hW hB) (Nat.le_trans hB hW.size)
  have HI2 := Lib.hid fun (k : Int) (W : World) (hW : Below w.heap.size w W) => hasInput_any L B A2 c2 to k W hl2 (h2.below hW hB) (Nat.le_trans hB hW.size)
  generalize fsR s 0 = fr0 at *
  clear hW1 h1 h2
  cases hs : isSide s
  · have hK : Hid (ruleOk fr to s = false) := by unfold Hid ruleOk; rw [hs]; rfl
    rw [hs] at HF
    clear hs
    go_enter Try.func39, Try.ntmps39
    go_wp2_with (fail)
    rw [← e1.out]
    refine (HF.out W1).mono ?_
    rintro e w2 ⟨rfl, rfl⟩
    go_wp2
    go_ret
    unfold ResIsRule
    exact ⟨ret_bool (by rw [hK.out]), b1.out⟩
  rw [hs] at HF
  cases hw1 : walked fr
  · have hK : Hid (ruleOk fr to s = false) := by unfold Hid ruleOk; rw [hs, hw1]; rfl
    rw [hw1] at HW1
    clear hs hw1
    go_enter Try.func39, Try.ntmps39
    go_wp2_with (fail)
    rw [← e1.out]
    refine (HF.out W1).mono ?_
    rintro e w2 ⟨rfl, rfl⟩
    clear k0 k1 k2
    obtain ⟨k0, k1, k2⟩ := x1.out.cells
    go_wp2_with (fail)
    refine (HW1.out W1 b1.out).mono ?_
    rintro e w3 ⟨rfl, hb⟩
    have b3 := Lib.hid (b1.out.trans (hb.mono b1.out.size))
    clear hb
    go_wp2
    go_ret
    unfold ResIsRule
    exact ⟨ret_bool (by rw [hK.out]), b3.out⟩
  rw [hw1] at HW1
  cases hw2 : walked to
  · have hK : Hid (ruleOk fr to s = false) := by unfold Hid ruleOk; rw [hs, hw1, hw2]; rfl
    rw [hw2] at HW2
    clear hs hw1 hw2
    go_enter Try.func39, Try.ntmps39
    go_wp2_with (fail)
    rw [← e1.out]
    refine (HF.out W1).mono ?_
    rintro e w2 ⟨rfl, rfl⟩
    clear k0 k1 k2
    obtain ⟨k0, k1, k2⟩ := x1.out.cells
    go_wp2_with (fail)
    refine (HW1.out W1 b1.out).mono ?_
    rintro e w3 ⟨rfl, hb⟩
    have b3 := Lib.hid (b1.out.trans (hb.mono b1.out.size))
    have x3 := x1.out.next hb
    clear hb k0 k1 k2
    obtain ⟨k0, k1, k2⟩ := x3.cells
    go_wp2_with (fail)
    refine (HW2.out w3 b3.out).mono ?_
    rintro e w4 ⟨rfl, hb⟩
    have b4 := Lib.hid (b3.out.trans (hb.mono b3.out.size))
    clear hb
    go_wp2
    go_ret
    unfold ResIsRule
    exact ⟨ret_bool (by rw [hK.out]), b4.out⟩
  rw [hw2] at HW2
  have hg := walked_good hw1
  obtain ⟨hf1, hf24, hok⟩ := good_len hg
  obtain ⟨m, hm⟩ : ∃ m, fr.length = m + 1 := ⟨fr.length - 1, by omega⟩
  have hM := Lib.hid hm
  have hmi : (fr.length : Int) - 1 = (m : Int) := by omega
  have hMI := Lib.hid hmi
  have hmf : m < fr.length := by omega
  have hK0 : Hid (ruleOk fr to s = (!(ar fr[m].op == 0) && holesOk fr to s)) := by
    unfold Hid ruleOk rootOp; rw [hs, hw1, hw2, show fr.length - 1 = m by omega, getD_nd hmf, parts_ar0 (ok_get hok hmf)]; rfl
  have hCl := Lib.hid fun (W : World) (hW : Below w.heap.size w W) => (show ∃ b o, A1 = some ⟨b, o, none⟩ ∧ W.cell? ⟨b, o + m * 4, none⟩ = some (.string fr[m].op) by
    obtain ⟨b, o, e, _, hc⟩ := (E1.out W hW) (by omega)
    exact ⟨b, o, e, (hc m hmf).1⟩)
  have hOc := Lib.hid fun W => operandCount_any fr[m].op W
  have m0 : (0 : Int) ≤ (m : Int) := by omega
  have m1 : (m : Int) < (fr.length : Int) := by omega
  clear hs hw1 hw2 hg hok hm hmi
  generalize fr[m].op = op at *
  have hAny : isAny s = (s.toList == [97, 110, 121]) := rfl
  have hHo : Hid (holesOk fr to s = ((hasIn fr 0 || !hasIn to 0) && (hasIn fr 1 || (!hasIn to 1 && isAny s)))) := rfl
  go_enter Try.func39, Try.ntmps39
  go_wp2_with (fail)
  rw [← e1.out]
  refine (HF.out W1).mono ?_
  rintro e w2 ⟨rfl, rfl⟩
  clear k0 k1 k2
  obtain ⟨k0, k1, k2⟩ := x1.out.cells
  go_wp2_with (fail)
  refine (HW1.out W1 b1.out).mono ?_
  rintro e w3 ⟨rfl, hb⟩
  have b3 := Lib.hid (b1.out.trans (hb.mono b1.out.size))
  have x3 := Lib.hid (x1.out.next hb)
  clear hb k0 k1 k2
  obtain ⟨k0, k1, k2⟩ := x3.out.cells
  go_wp2_with (fail)
  refine (HW2.out w3 b3.out).mono ?_
  rintro e w4 ⟨rfl, hb⟩
  have b4 := Lib.hid (b3.out.trans (hb.mono b3.out.size))
  have x4 := Lib.hid (x3.out.next hb)
  clear hb k0 k1 k2
  obtain ⟨k0, k1, k2⟩ := x4.out.cells
  obtain ⟨b', o', hA, q0⟩ := hCl.out w4 b4.out
  subst hA
  have hmi := hMI.out
  go_wp2_with (fail)
  (with_reducible refine (hOc.out _).mono ?_)
  rintro e w5 ⟨rfl, rfl⟩
  by_cases hp0 : ar op = 0
  · have hK : Hid (ruleOk fr to s = false) := by rw [Hid, hK0.out, hp0]; rfl
    go_wp2
    go_ret
    unfold ResIsRule
    exact ⟨ret_bool (by rw [hK.out]), b4.out⟩
  have hK : Hid (ruleOk fr to s = holesOk fr to s) := by
    have : (ar op == 0) = false := by simpa using hp0
    rw [Hid, hK0.out, this]; rfl
  have hz9 : (ar op == 0) = false := by simpa using hp0
  have HZ9 := Lib.hid hz9
  clear hz9
  go_wp2
  rw [HZ9.out]
  clear hmi hp0 m0 m1
  go_loopw [39] (fun i wi => ∃ j : Nat, j ≤ 2 ∧ i = .int .i64 j ∧ (1 ≤ j → hasIn to 0 = true → hasIn fr 0 = true) ∧ (2 ≤ j → hasIn to 1 = true → hasIn fr 1 = true) ∧ RX 45 wi w.heap.size (.slice (some ⟨b', o', none⟩) fr.length c1) (.slice A2 to.length c2) s ∧ Below w.heap.size w wi) (fun i _ => 2 - (intOf i).toNat)
  case atStart => exact ⟨0, by omega, rfl, fun h => by omega, fun h => by omega, x4.out, b4.out⟩
  case round =>
    obtain ⟨j, hj, rfl, hh0, hh1, hx, hbel⟩ := hrel
    have H0 := Lib.hid hh0
    have H1 := Lib.hid hh1
    have X := Lib.hid hx
    have hBe := Lib.hid hbel
    clear hh0 hh1 hx hbel k0 k1 k2 q0
    obtain ⟨k0, k1, k2⟩ := X.out.cells
    by_cases hlt : j < 2
    · have j0 : (0 : Int) ≤ (j : Int) := by omega
      have j2 : (j : Int) < 2 := by omega
      have hT := Lib.hid (HI2.out (j : Int) wr hBe.out)
      have hNext : Hid (hasIn to (j : Int) = false ∨ hasIn fr (j : Int) = true → (1 ≤ j + 1 → hasIn to 0 = true → hasIn fr 0 = true) ∧ (2 ≤ j + 1 → hasIn to 1 = true → hasIn fr 1 = true)) := by
        intro hor
        have : j = 0 ∨ j = 1 := by omega
        rcases this with rfl | rfl
        · refine ⟨fun _ h => ?_, fun h => by omega⟩
          rcases hor with e | e
          · rw [show ((0 : Nat) : Int) = 0 from rfl, h] at e; cases e
          · exact e
        · refine ⟨fun _ => H0.out (by omega), fun _ h => ?_⟩
          rcases hor with e | e
          · rw [show ((1 : Nat) : Int) = 1 from rfl, h] at e; cases e
          · exact e
      have hStop : Hid (hasIn to (j : Int) = true → hasIn fr (j : Int) = false → holesOk fr to s = false) := by
        intro ht hf
        have : j = 0 ∨ j = 1 := by omega
        rcases this with rfl | rfl
        · rw [show ((0 : Nat) : Int) = 0 from rfl] at ht hf
          rw [hHo.out, ht, hf]; rfl
        · rw [show ((1 : Nat) : Int) = 1 from rfl] at ht hf
          rw [hHo.out, ht, hf]; simp
      have hF2 := Lib.hid fun (W : World) (hW : Below w.heap.size w W) => HI1.out (j : Int) W hW
      generalize hasIn to (j : Int) = zt at *
      generalize hasIn fr (j : Int) = zf at *
      cases zt
      · have hn := Lib.hid (hNext.out (.inl rfl))
        go_wp2_with (fail)
        refine hT.out.mono ?_
        rintro e w6 ⟨rfl, hb⟩
        have b6 := Lib.hid (hBe.out.trans (hb.mono hBe.out.size))
        have x6 := Lib.hid (X.out.next hb)
        clear hb
        go_wp2
        go_roundw
        case rel => exact ⟨j + 1, by omega, by go_num, hn.out.1, hn.out.2, x6.out, b6.out⟩
        case measure => simp [intOf]; omega
      · go_wp2_with (fail)
        refine hT.out.mono ?_
        rintro e w6 ⟨rfl, hb⟩
        have b6 := Lib.hid (hBe.out.trans (hb.mono hBe.out.size))
        have x6 := Lib.hid (X.out.next hb)
        clear hb k0 k1 k2
        obtain ⟨k0, k1, k2⟩ := x6.out.cells
        have hFF := Lib.hid (hF2.out w6 b6.out)
        cases zf
        · have hst := Lib.hid (hStop.out (by first | rfl | trivial) (by first | rfl | trivial))
          go_wp2_with (fail)
          refine hFF.out.mono ?_
          rintro e w7 ⟨rfl, hb⟩
          have b7 := Lib.hid (b6.out.trans (hb.mono b6.out.size))
          clear hb
          go_wp2
          go_ret
          unfold ResIsRule
          exact ⟨ret_bool (by rw [hK.out, hst.out]), b7.out⟩
        · have hn := Lib.hid (hNext.out (.inr rfl))
          go_wp2_with (fail)
          refine hFF.out.mono ?_
          rintro e w7 ⟨rfl, hb⟩
          have b7 := Lib.hid (b6.out.trans (hb.mono b6.out.size))
          have x7 := Lib.hid (x6.out.next hb)
          clear hb
          go_wp2
          go_roundw
          case rel => exact ⟨j + 1, by omega, by go_num, hn.out.1, hn.out.2, x7.out, b7.out⟩
          case measure => simp [intOf]; omega
    · obtain rfl : j = 2 := by omega
      have hF1 := Lib.hid (HI1.out 1 wr hBe.out)
      have hz0 : (hasIn fr 0 || !hasIn to 0) = true := by
        have := H0.out (by omega)
        cases ht : hasIn to 0
        · simp
        · rw [this ht]; rfl
      have hz1 := H1.out (by omega)
      have hFin : Hid (holesOk fr to s = (isAny s || hasIn fr 1)) := by
        rw [Hid, hHo.out, hz0]
        cases hf : hasIn fr 1
        · cases ht : hasIn to 1
          · simp
          · rw [hz1 ht] at hf; cases hf
        · simp
      clear hz0 hz1
      cases hany : (s.toList == [97, 110, 121])
      · have hr : Hid (ruleOk fr to s = hasIn fr 1) := by rw [Hid, hK.out, hFin.out, hAny, hany]; rfl
        clear hAny
        go_wp2_with (fail)
        refine hF1.out.mono ?_
        rintro e w7 ⟨rfl, hb⟩
        have b7 := Lib.hid (hBe.out.trans (hb.mono hBe.out.size))
        clear hb
        go_wp2
        go_ret
        unfold ResIsRule
        exact ⟨ret_bool (by rw [hr.out]), b7.out⟩
      · have hr : Hid (ruleOk fr to s = true) := by rw [Hid, hK.out, hFin.out, hAny, hany]; rfl
        have hs' : s.toList = [97, 110, 121] := by simpa using hany
        clear hAny hany
        go_wp2
        go_ret
        unfold ResIsRule
        exact ⟨ret_bool (by rw [hr.out]), hBe.out⟩
theorem iIsRule_k (L B : Nat) (A1 A2 : Option Addr) (c1 c2 : Nat) (fr to : List Nd) (s : ByteArray) (w : World) (hl1 : fr.length ≤ 1048576) (hl2 : to.length ≤ 1048576) (hl3 : s.size ≤ 1048576) (h1 : RS Nd.enc 4 w L B A1 fr) (h2 : RS Nd.enc 4 w L B A2 to) (hB : B ≤ w.heap.size) (hc1 : fr.length ≤ c1) (hc2 : to.length ≤ c2) :
    Calls Try.prog 39 #[.agg #[.slice A1 fr.length c1, .slice A2 to.length c2, .string s]] w (ResIsRule (ruleOk fr to s) w) := iIsRule_any L B A1 A2 c1 c2 fr to s w hl1 hl2 h1.ns h2.ns hB
end Go.Proofs.Ytieljgfocgdngaa

/- The cost of an expression. -/
namespace Go.Proofs.Ytieljgfocgdngaa
open Go.RowKit
set_option linter.unusedVariables false

theorem node4_b {w w2 : World} {a b c d : Value} {t : TypeId} {C : Nat} (hb : Below C (w.alloc (.cells #[a, b, c, d] t)) w2) (hC : w.heap.size < C) : w2.cell? ⟨w.heap.size, 0, none⟩ = some a ∧ w2.cell? ⟨w.heap.size, 1, none⟩ = some b ∧
    w2.cell? ⟨w.heap.size, 2, none⟩ = some c ∧ w2.cell? ⟨w.heap.size, 3, none⟩ = some d := by
  obtain ⟨h1, h2, h3, h4⟩ := node4 w a b c d t
  exact ⟨(hb.cell (by exact hC)).trans h1, (hb.cell (by exact hC)).trans h2, (hb.cell (by exact hC)).trans h3, (hb.cell (by exact hC)).trans h4⟩

def cst (s : ByteArray) : Int := if s.toList = [109,117,108] then 4 else if s.toList = [115,104,108] then 2 else if s.toList = [115,104,114] then 2 else 1
def cstI (s : ByteArray) : Int := if s.toList = [105,110] then 0 else if s.toList = [99,111,110,115,116] then 0 else cst s
def cstN (n : Nd) : Int := if 0 < (parts n).length then cst n.op else 0
theorem cst_bd (s : ByteArray) : 1 ≤ cst s ∧ cst s ≤ 4 := by unfold cst; split; · omega
                                                             split; · omega
                                                             split <;> omega
theorem cstI_bd (s : ByteArray) : 0 ≤ cstI s ∧ cstI s ≤ 4 := by
  have := cst_bd s
  unfold cstI; split; · omega
  split <;> omega
theorem cstN_bd (n : Nd) : 0 ≤ cstN n ∧ cstN n ≤ 4 := by
  have := cst_bd n.op
  unfold cstN; split <;> omega
theorem cstN_eq {n : Nd} (h : isOp n.op = true ∨ isIn n.op = true ∨ isConst n.op = true) : cstI n.op = cstN n := by
  unfold cstI cstN parts
  rcases op_cases n.op with h'|h'|h'|h'|h'|h'|h'|h'|h'|h'|h'|h'|h'|h'|h'
  iterate 14 (· simp [isOne, isTwo, twoOps, h'])
  · exfalso
    obtain ⟨h1, h2, h3, h4, h5, h6, h7, h8, h9, h10, h11, h12, h13, h14⟩ := h'
    have f : ∀ t : List UInt8, (n.op.toList == t) = false → (t == n.op.toList) = false := fun t h => by
      rw [beq_eq_false_iff_ne] at h ⊢; exact Ne.symm h
    simp only [isOp, isIn, isConst, isOne, isTwo, twoOps, List.any_cons, List.any_nil, h1, h2, h3, h4, f _ h5, f _ h6, f _ h7, f _ h8, f _ h9, f _ h10, f _ h11, f _ h12, f _ h13, f _ h14, Bool.or_false, Bool.false_eq_true, or_self] at h
theorem isNode_op {n : Nd} {i : Int} (h : isNode n i = true) : isOp n.op = true ∨ isIn n.op = true ∨ isConst n.op = true := by
  unfold isNode at h
  by_cases h1 : isIn n.op = true
  · exact .inr (.inl h1)
  by_cases h2 : isConst n.op = true
  · exact .inr (.inr h2)
  left
  simp only [Bool.not_eq_true] at h1 h2
  unfold isOp
  cases h3 : isOne n.op
  · cases h4 : isTwo n.op
    · simp [h1, h2, h3, h4] at h
    · rfl
  · rfl
theorem okFrom_mem : ∀ (es : List Nd) (i : Int), okFrom es i = true → ∀ n ∈ es, ∃ j, isNode n j = true := by
  intro es
  induction es with
  | nil => intro i _ n hn; simp at hn
  | cons e t ih =>
    intro i h n hn
    simp only [okFrom, Bool.and_eq_true] at h
    rcases List.mem_cons.mp hn with rfl | hn
    · exact ⟨i, h.1⟩
    · exact ih _ h.2 n hn
theorem good_cst {es : List Nd} (h : good es = true) : ∀ n ∈ es, cstI n.op = cstN n := fun n hn => by
  obtain ⟨j, hj⟩ := okFrom_mem es 0 (good_len h).2.2 n hn
  exact cstN_eq (isNode_op hj)

def sumAt (f : Nd → Int) (es : List Nd) (k : Nat) : Int := ((es.take k).map f).sum
theorem sumAt_succ (f : Nd → Int) {es : List Nd} {k : Nat} (h : k < es.length) : sumAt f es (k + 1) = sumAt f es k + f es[k] := by
  unfold sumAt; rw [List.take_succ_eq_append_getElem h, List.map_append, List.sum_append]; simp
theorem sumAt_bd {f : Nd → Int} (hf : ∀ n, 0 ≤ f n ∧ f n ≤ 4) (es : List Nd) (k : Nat) : 0 ≤ sumAt f es k ∧ sumAt f es k ≤ 4 * k := by
  have H : ∀ l : List Nd, 0 ≤ (l.map f).sum ∧ (l.map f).sum ≤ 4 * l.length := by
    intro l
    induction l with
    | nil => simp
    | cons a t ih => have := hf a; simp only [List.map_cons, List.sum_cons, List.length_cons]; push_cast; omega
  have h2 : (es.take k).length ≤ k := List.length_take_le _ _
  have := H (es.take k)
  unfold sumAt
  omega
theorem sumAt_congr {f g : Nd → Int} {es : List Nd} (h : ∀ n ∈ es, f n = g n) (k : Nat) : sumAt f es k = sumAt g es k := by
  unfold sumAt
  congr 1
  exact List.map_congr_left fun n hn => h n (List.mem_of_mem_take hn)
def cost (es : List Nd) : Int := sumAt cstN es es.length
def costR (es : List Nd) : Int := if good es = true then cost es else 0

set_option maxHeartbeats 1000000 in
theorem ruCdCost_any (s : ByteArray) (w : World) :
    Calls Try.prog 124 #[.string s] w fun e w' => e = .returned (.int .i64 (cst s)) ∧ w = w' := by
  by_cases h1 : s.toList = [109,117,108]
  · have H := Lib.hid (show cst s = 4 by simp [cst, h1])
    go_enter Try.func124, Try.ntmps124
    go_wp2
    go_ret
    exact ⟨by rw [H.out]; rfl, rfl⟩
  by_cases h2 : s.toList = [115,104,108]
  · have H := Lib.hid (show cst s = 2 by simp [cst, h2])
    go_enter Try.func124, Try.ntmps124
    go_wp2
    go_ret
    exact ⟨by rw [H.out]; rfl, rfl⟩
  by_cases h3 : s.toList = [115,104,114]
  · have H := Lib.hid (show cst s = 2 by simp [cst, h3])
    go_enter Try.func124, Try.ntmps124
    go_wp2
    go_ret
    exact ⟨by rw [H.out]; rfl, rfl⟩
  · have H := Lib.hid (show cst s = 1 by simp [cst, h1, h2, h3])
    have g1 : (s.toList == [109,117,108]) = false := by simpa using h1
    have g2 : (s.toList == [115,104,108]) = false := by simpa using h2
    have g3 : (s.toList == [115,104,114]) = false := by simpa using h3
    clear h1 h2 h3
    go_enter Try.func124, Try.ntmps124
    go_wp2
    go_ret
    exact ⟨by rw [H.out]; rfl, rfl⟩

set_option maxHeartbeats 1000000 in
theorem costOfNode_any (s : ByteArray) (a b v : Int) (w : World) :
    Calls Try.prog 88 #[.agg #[.string s, .int .i64 a, .int .i64 b, .int .i64 v]] w fun e w' => e = .returned (.int .i64 (cstI s)) ∧ Below w.heap.size w w' := by
  have hB1 := fun o => (Below.refl w.heap.size w).alloc (Nat.le_refl _) o
  by_cases h4 : s.toList = [105,110]
  · have H := Lib.hid (show cstI s = 0 by simp [cstI, h4])
    go_enter Try.func88, Try.ntmps88
    go_wp2
    go_ret
    exact ⟨by rw [H.out]; rfl, hB1 _⟩
  by_cases h5 : s.toList = [99,111,110,115,116]
  · have H := Lib.hid (show cstI s = 0 by simp [cstI, h5])
    go_enter Try.func88, Try.ntmps88
    go_wp2
    go_ret
    exact ⟨by rw [H.out]; rfl, hB1 _⟩
  by_cases h1 : s.toList = [109,117,108]
  · have H := Lib.hid (show cstI s = 4 by simp [cstI, cst, h1])
    go_enter Try.func88, Try.ntmps88
    go_wp2
    go_ret
    exact ⟨by rw [H.out]; rfl, hB1 _⟩
  by_cases h2 : s.toList = [115,104,108]
  · have H := Lib.hid (show cstI s = 2 by simp [cstI, cst, h2])
    go_enter Try.func88, Try.ntmps88
    go_wp2
    go_ret
    exact ⟨by rw [H.out]; rfl, hB1 _⟩
  by_cases h3 : s.toList = [115,104,114]
  · have H := Lib.hid (show cstI s = 2 by simp [cstI, cst, h3])
    go_enter Try.func88, Try.ntmps88
    go_wp2
    go_ret
    exact ⟨by rw [H.out]; rfl, hB1 _⟩
  · have H := Lib.hid (show cstI s = 1 by simp [cstI, cst, h1, h2, h3, h4, h5])
    have g1 : (s.toList == [109,117,108]) = false := by simpa using h1
    have g2 : (s.toList == [115,104,108]) = false := by simpa using h2
    have g3 : (s.toList == [115,104,114]) = false := by simpa using h3
    have g4 : (s.toList == [105,110]) = false := by simpa using h4
    have g5 : (s.toList == [99,111,110,115,116]) = false := by simpa using h5
    clear h1 h2 h3 h4 h5
    go_enter Try.func88, Try.ntmps88
    go_wp2
    go_ret
    exact ⟨by rw [H.out]; rfl, hB1 _⟩

set_option maxHeartbeats 1000000 in
theorem ruCost_any (L B : Nat) (A : Option Addr) (c : Nat) (es : List Nd) (w : World) (hl : es.length ≤ 1048576) (hes : NS w L B A es) (hB : B ≤ w.heap.size) :
    Calls Try.prog 87 #[.slice A es.length c] w fun e w' => e = .returned (.int .i64 (cost es)) ∧ Below w.heap.size w w' := by
  have hE := Lib.hid hes
  have hBB := Lib.hid hB
  have hBel0 := Lib.hid (Below.refl w.heap.size w)
  clear hes hB
  go_enter Try.func87, Try.ntmps87
  go_wp2
  go_loopw [3, 8] (fun x i wr => ∃ k : Nat, k ≤ es.length ∧ i = .int .i64 k ∧ x = .int .i64 (sumAt cstN es k) ∧ Below w.heap.size w wr) (fun _ i _ => es.length - (intOf i).toNat)
  case atStart => exact ⟨0, Nat.zero_le _, rfl, rfl, hBel0.out⟩
  case round =>
    obtain ⟨k, hk, rfl, rfl, hbel⟩ := hrel
    obtain ⟨hc0, hc1⟩ := sumAt_bd cstN_bd es k
    by_cases hlt : k < es.length
    · obtain ⟨b, o, rfl, ⟨_, hbB⟩, hc⟩ := (hE.out.below hbel hBB.out) (by omega)
      obtain ⟨c1, c2, c3, c4⟩ := hc k hlt
      clear hc
      have hS := Lib.hid (sumAt_succ cstN hlt)
      generalize hx : sumAt cstN es k = x at *
      have hX := Lib.hid hx; clear hx
      generalize es[k] = nd at *
      obtain ⟨s, a, bb, v⟩ := nd
      have hBelB := Lib.hid hbel
      have hP := Lib.hid (show cstN ⟨s, a, bb, v⟩ = if 0 < (parts ⟨s, a, bb, v⟩).length then cst s else 0 from rfl)
      have hcs := cst_bd s
      go_wp2_with (fail)
      refine (exParts_any _ _ _ _ _).mono ?_
      rintro e w2 ⟨A2, cc, rfl, _, hb2⟩
      have hbel2 := Lib.hid (hBelB.out.trans (((Below.refl _ _).alloc hBelB.out.size _).trans (hb2.mono (by simp; have := hBelB.out.size; omega))))
      have n4 := node4_b hb2 (by simp)
      obtain ⟨n1, n2, n3, n4⟩ := n4
      clear hb2 hbel c1 c2 c3 c4
      generalize parts ⟨s, a, bb, v⟩ = ps at *
      by_cases hp : 0 < ps.length
      · have HC := Lib.hid (ruCdCost_any s w2)
        rw [if_pos hp] at hP
        generalize cst s = cs at *
        go_wp2_with (fail)
        refine HC.out.mono ?_
        rintro e w' ⟨rfl, rfl⟩
        go_wp2
        go_roundw
        case rel => exact ⟨k + 1, by omega, by go_num, by rw [hS.out, hP.out], hbel2.out⟩
        case measure => simp [intOf]; omega
      · rw [if_neg hp] at hP
        go_wp2
        go_roundw
        case rel => exact ⟨k + 1, by omega, by go_num, by rw [hS.out, hP.out]; simp, hbel2.out⟩
        case measure => simp [intOf]; omega
    · obtain rfl : k = es.length := by omega
      go_wp2
      go_ret
      exact ⟨rfl, hbel⟩

theorem sCostOfExpr_any (L B : Nat) (A : Option Addr) (c : Nat) (es : List Nd) (w : World) (hl : es.length ≤ 1048576) (hes : NS w L B A es) (hB : B ≤ w.heap.size) :
    Calls Try.prog 43 #[.slice A es.length c] w fun e w' => e = .returned (.tuple #[.int .i64 (costR es), .bool (good es)]) ∧ Below w.heap.size w w' := by
  have H := Lib.hid (exGood_any L B A c es w hl hes hB)
  have hE := Lib.hid hes
  have hBB := Lib.hid hB
  clear hes hB
  go_enter Try.func43, Try.ntmps43
  go_wp2_with (fail)
  refine H.out.mono ?_
  rintro e w2 ⟨rfl, hb⟩
  have hbb := Lib.hid hb
  clear hb
  cases hg : good es
  · have hR2 : Hid (costR es = 0) := by simp [Hid, costR, hg]
    go_wp2_with (fail)
    go_ret2
    exact ⟨by rw [hR2.out, hg]; rfl, hbb.out⟩
  · have hR2 : Hid (costR es = cost es) := by simp [Hid, costR, hg]
    go_wp2_with (fail)
    refine (ruCost_any L B A c es _ hl (hE.out.below hbb.out hBB.out) (Nat.le_trans hBB.out hbb.out.size)).mono ?_
    rintro e w3 ⟨rfl, hb⟩
    go_wp2_with (fail)
    go_ret2
    exact ⟨by rw [hR2.out, hg]; rfl, hbb.out.trans (hb.mono hbb.out.size)⟩

set_option maxHeartbeats 1000000 in
theorem iCostOfExpr_any (L B : Nat) (A : Option Addr) (c : Nat) (es : List Nd) (w : World) (hl : es.length ≤ 1048576) (hes : NS w L B A es) (hB : B ≤ w.heap.size) :
    Calls Try.prog 44 #[.slice A es.length c] w fun e w' => e = .returned (.tuple #[.int .i64 (costR es), .bool (good es)]) ∧ Below w.heap.size w w' := by
  have H := Lib.hid (IsExpr_any L B A c es w hl hes hB)
  have hE := Lib.hid hes
  have hBB := Lib.hid hB
  clear hes hB
  go_enter Try.func44, Try.ntmps44
  go_wp2_with (fail)
  refine H.out.mono ?_
  rintro e w2 ⟨rfl, hb⟩
  have hbb := Lib.hid hb
  clear hb
  cases hg : good es
  · have hR2 : Hid (costR es = 0) := by simp [Hid, costR, hg]
    go_wp2_with (fail)
    go_ret2
    exact ⟨by rw [hR2.out, hg]; rfl, hbb.out⟩
  · have hR2 : Hid (costR es = sumAt (fun n => cstI n.op) es es.length) := by
      unfold Hid costR cost; rw [if_pos hg]; exact (sumAt_congr (good_cst hg) _).symm
    go_wp2_with (fail)
    go_loopw [4, 12] (fun x i wr => ∃ k : Nat, k ≤ es.length ∧ i = .int .i64 k ∧ x = .int .i64 (sumAt (fun n => cstI n.op) es k) ∧ Below w.heap.size w wr) (fun _ i _ => es.length - (intOf i).toNat)
    case atStart => exact ⟨0, Nat.zero_le _, rfl, rfl, hbb.out⟩
    case round =>
      obtain ⟨k, hk, rfl, rfl, hbel⟩ := hrel
      obtain ⟨hc0, hc1⟩ := sumAt_bd (f := fun n => cstI n.op) (fun n => cstI_bd n.op) es k
      by_cases hlt : k < es.length
      · obtain ⟨b, o, rfl, ⟨_, hbB⟩, hc⟩ := (hE.out.below hbel hBB.out) (by omega)
        obtain ⟨c1, c2, c3, c4⟩ := hc k hlt
        clear hc
        have hS := Lib.hid (sumAt_succ (fun n => cstI n.op) hlt)
        generalize hx : sumAt (fun n => cstI n.op) es k = x at *
        have hX := Lib.hid hx; clear hx
        generalize es[k] = nd at *
        obtain ⟨s, a, bb, v⟩ := nd
        have hBelB := Lib.hid hbel
        have hcs := cstI_bd s
        go_wp2_with (fail)
        refine (costOfNode_any _ _ _ _ _).mono ?_
        rintro e w2 ⟨rfl, hb2⟩
        have hbel2 := Lib.hid (hBelB.out.trans (((Below.refl _ _).alloc hBelB.out.size _).trans (hb2.mono (by simp; have := hBelB.out.size; omega))))
        clear hb2 hbel c1 c2 c3 c4
        generalize cstI s = cs at *
        go_wp2
        go_roundw
        case rel => exact ⟨k + 1, by omega, by go_num, by rw [hS.out], hbel2.out⟩
        case measure => simp [intOf]; omega
      · obtain rfl : k = es.length := by omega
        have hR3 := Lib.hid hR2.out.symm
        clear hR2
        go_wp2
        go_ret2
        exact ⟨by rw [← hR3.out, hg]; rfl, hbel⟩
end Go.Proofs.Ytieljgfocgdngaa

/- IsFalling: the model and the program. -/
namespace Go.Proofs.Ytieljgfocgdngaa
open Go.RowKit
set_option linter.unusedVariables false
set_option maxRecDepth 100000

set_option maxHeartbeats 1000000 in
theorem countInput_any (L B : Nat) (A : Option Addr) (c : Nat) (es : List Nd) (k : Int) (w : World) (hl : es.length ≤ 1048576) (hx : NS w L B A es) (hB : B ≤ w.heap.size) :
    Calls Try.prog 90 #[.slice A es.length c, .int .i64 k] w fun e w' => e = .returned (.int .i64 (cntIn es k)) ∧ Below w.heap.size w w' := by
  have hX := Lib.hid hx
  have hBel0 := Below.refl w.heap.size w
  have hS0 := Lib.hid fun j (hj : j < es.length) => cntIn_snoc (es := es) (j := j) hj k
  have hB0 := Lib.hid fun j => cntIn_bd es j k
  have hEnd := Lib.hid (show es.take es.length = es from List.take_length)
  clear hx
  go_enter Try.func90, Try.ntmps90
  go_wp2
  go_loopw [5, 10] (fun a i wr => ∃ j : Nat, j ≤ es.length ∧ i = .int .i64 j ∧ a = .int .i64 (cntIn (es.take j) k) ∧ Below w.heap.size w wr) (fun _ i _ => es.length - (intOf i).toNat)
  case atStart => exact ⟨0, Nat.zero_le _, rfl, rfl, hBel0⟩
  case round =>
    obtain ⟨j, hj, rfl, rfl, hbel⟩ := hrel
    have hBe := Lib.hid hbel
    by_cases hlt : j < es.length
    · obtain ⟨b, o, rfl, ⟨_, hbB⟩, hc⟩ := (hX.out.below hbel hB) (by omega)
      obtain ⟨c1, c2, c3, c4⟩ := hc j hlt
      have k0 : (0 : Int) ≤ (j : Int) := by omega
      have k1 : (j : Int) < (es.length : Int) := by omega
      have hXx := xn_new wr es[j]
      have hXb := (Below.refl wr.heap.size wr).alloc (Nat.le_refl _) (.cells #[.string es[j].op, .int .i64 es[j].a, .int .i64 es[j].b, .int .i64 es[j].v] 62)
      obtain ⟨X, hXe⟩ : ∃ X, X = wr.alloc (.cells #[.string es[j].op, .int .i64 es[j].a, .int .i64 es[j].b, .int .i64 es[j].v] 62) := ⟨_, rfl⟩
      rw [← hXe] at hXx hXb
      have xB := Lib.hid (hBe.out.trans (hXb.mono hBe.out.size))
      have HX := Lib.hid hXe
      obtain ⟨m0, m1, m2, m3⟩ := hXx.cells
      rw [hXe] at m0 m1 m2 m3
      obtain ⟨a0, a1⟩ := hB0.out j
      have s0 := hS0.out j hlt
      have hII := Lib.hid fun W => isInput_any es[j].op es[j].a es[j].b es[j].v k W
      have hisp : isInp es[j] k = (isIn es[j].op && es[j].v == k) := rfl
      rw [← hisp] at hII
      clear hc hbel hXx hXb hXe hisp
      generalize hx0 : cntIn (es.take (j + 1)) k = x0 at *
      have HX0 := Lib.hid hx0
      clear hx0
      generalize cntIn (es.take j) k = y0 at *
      generalize es[j] = nd at *
      obtain ⟨op, a, bb, v⟩ := nd
      dsimp only at *
      cases hin : isInp ⟨op, a, bb, v⟩ k
      · rw [hin] at hII s0
        have t0 : Hid (x0 = y0) := by rw [Hid, s0]; simp
        clear s0 hin
        go_wp2_with (fail)
        rw [← HX.out]
        refine (hII.out X).mono ?_
        rintro e w2 ⟨rfl, hb⟩
        have b2 := Lib.hid (xB.out.trans (hb.mono xB.out.size))
        clear hb
        go_wp2
        go_roundw
        case rel => exact ⟨j + 1, by omega, by go_num, by rw [HX0.out, t0.out], b2.out⟩
        case measure => simp [intOf]; omega
      · rw [hin] at hII s0
        have t0 : Hid (x0 = y0 + 1) := by rw [Hid, s0]; simp
        clear s0 hin
        go_wp2_with (fail)
        rw [← HX.out]
        refine (hII.out X).mono ?_
        rintro e w2 ⟨rfl, hb⟩
        have b2 := Lib.hid (xB.out.trans (hb.mono xB.out.size))
        clear hb
        go_wp2
        go_roundw
        case rel => exact ⟨j + 1, by omega, by go_num, by rw [HX0.out, t0.out], b2.out⟩
        case measure => simp [intOf]; omega
    · obtain rfl : j = es.length := by omega
      rw [hEnd.out]
      go_wp2
      go_ret
      exact ⟨rfl, hBe.out⟩

def fallB (fr to : List Nd) : Bool := decide (cost to < cost fr) && decide (cntIn to 0 ≤ cntIn fr 0) && decide (cntIn to 1 ≤ cntIn fr 1)
def fallR (fr to : List Nd) (s : ByteArray) : Bool := ruleOk fr to s && fallB fr to
theorem ruleOk_good {fr to : List Nd} {s : ByteArray} (h : ruleOk fr to s = true) : good fr = true ∧ good to = true := by
  unfold ruleOk at h
  simp only [Bool.and_eq_true] at h
  exact ⟨walked_good h.1.1.1.2, walked_good h.1.1.2⟩

set_option maxHeartbeats 4000000 in
theorem ruFalling_any (L B : Nat) (A1 A2 : Option Addr) (c1 c2 : Nat) (fr to : List Nd) (s : ByteArray) (w : World) (hl1 : fr.length ≤ 1048576) (hl2 : to.length ≤ 1048576) (h1 : NS w L B A1 fr) (h2 : NS w L B A2 to) (hB : B ≤ w.heap.size) :
    Calls Try.prog 89 #[.agg #[.slice A1 fr.length c1, .slice A2 to.length c2, .string s]] w fun e w' => e = .returned (.bool (fallB fr to)) ∧ Below w.heap.size w w' := by
  obtain ⟨W1, hW1⟩ : ∃ W1, W1 = w.alloc (.cells #[.slice A1 fr.length c1, .slice A2 to.length c2, .string s] 45) := ⟨_, rfl⟩
  have b1 : Hid (Below w.heap.size w W1) := by unfold Hid; rw [hW1]; exact (Below.refl _ _).alloc (Nat.le_refl _) _
  have x1 : Hid (RX 45 W1 w.heap.size (.slice A1 fr.length c1) (.slice A2 to.length c2) s) := by unfold Hid; rw [hW1]; exact rx_new _ _ _ _ _
  have e1 := Lib.hid hW1
  obtain ⟨k0, k1, k2⟩ := x1.out.cells
  rw [hW1] at k0 k1 k2
  have HH1 := Lib.hid fun (W : World) (hW : Below w.heap.size w W) => ruHoles_any L B A1 c1 fr W hl1 (h1.below hW hB) (Nat.le_trans hB hW.size)
  have HH2 := Lib.hid fun (W : World) (hW : Below w.heap.size w W) => ruHoles_any L B A2 c2 to W hl2 (h2.below hW hB) (Nat.le_trans hB hW.size)
  have HC1 := Lib.hid fun (W : World) (hW : Below w.heap.size w W) => ruCost_any L B A1 c1 fr W hl1 (h1.below hW hB) (Nat.le_trans hB hW.size)
  have HC2 := Lib.hid fun (W : World) (hW : Below w.heap.size w W) => ruCost_any L B A2 c2 to W hl2 (h2.below hW hB) (Nat.le_trans hB hW.size)
  clear hW1 h1 h2
  go_enter Try.func89, Try.ntmps89
  go_wp2_with (fail)
  rw [← e1.out]
  refine (HH1.out W1 b1.out).mono ?_
  rintro e w2 ⟨rfl, hb⟩
  have b2 := Lib.hid (b1.out.trans (hb.mono b1.out.size))
  have x2 := Lib.hid (x1.out.next hb)
  clear hb k0 k1 k2
  obtain ⟨k0, k1, k2⟩ := x2.out.cells
  go_wp2_with (fail)
  refine (HH2.out w2 b2.out).mono ?_
  rintro e w3 ⟨rfl, hb⟩
  have b3 := Lib.hid (b2.out.trans (hb.mono b2.out.size))
  have x3 := Lib.hid (x2.out.next hb)
  clear hb k0 k1 k2
  obtain ⟨k0, k1, k2⟩ := x3.out.cells
  have hFB : Hid (fallB fr to = (decide (cost to < cost fr) && decide (cntIn to 0 ≤ cntIn fr 0) && decide (cntIn to 1 ≤ cntIn fr 1))) := rfl
  generalize cntIn fr 0 = a0 at *
  generalize cntIn fr 1 = a1 at *
  generalize cntIn to 0 = a2 at *
  generalize cntIn to 1 = a3 at *
  generalize cost fr = p at *
  generalize cost to = q at *
  by_cases hpq : q < p
  · by_cases hca : a2 ≤ a0
    · by_cases hdb : a3 ≤ a1
      · have hr : Hid (fallB fr to = true) := by rw [Hid, hFB.out, decide_eq_true hpq, decide_eq_true hca, decide_eq_true hdb]; rfl
        go_wp2_with (fail)
        go_region_held3 (fun w' => w'.cell? ⟨w.heap.size, 0, none⟩ = some (.slice A1 fr.length c1) ∧ w'.cell? ⟨w.heap.size, 1, none⟩ = some (.slice A2 to.length c2) ∧ w'.cell? ⟨w.heap.size, 2, none⟩ = some (.string s))
          (first | exact KT | exact KF | assumption | go_keep)
          (first
            | (go_at_call 87; (first | (with_reducible refine (HC2.out wF bF).mono ?_) | (with_reducible refine (HC2.out w3.drew b3.out.drew).mono ?_) | (with_reducible refine (HC2.out w3 b3.out).mono ?_)); rintro e wT ⟨rfl, hbT⟩; have bT : Below w.heap.size w wT := (by first | exact bF.trans (hbT.mono bF.size) | exact b3.out.trans (hbT.mono b3.out.size) | exact b3.out.drew.trans (hbT.mono b3.out.size)); have xT : RX 45 wT w.heap.size (.slice A1 fr.length c1) (.slice A2 to.length c2) s := (by first | exact RX.next xF hbT | exact RX.next (w := w3.drew) x3.out hbT | exact RX.next x3.out hbT); have KT := xT.cells)
            | (go_at_call 87; (first | (with_reducible refine (HC1.out wT bT).mono ?_) | (with_reducible refine (HC1.out w3.drew b3.out.drew).mono ?_) | (with_reducible refine (HC1.out w3 b3.out).mono ?_)); rintro e wF ⟨rfl, hbF⟩; have bF : Below w.heap.size w wF := (by first | exact bT.trans (hbF.mono bT.size) | exact b3.out.trans (hbF.mono b3.out.size) | exact b3.out.drew.trans (hbF.mono b3.out.size)); have xF : RX 45 wF w.heap.size (.slice A1 fr.length c1) (.slice A2 to.length c2) s := (by first | exact RX.next xT hbF | exact RX.next (w := w3.drew) x3.out hbF | exact RX.next x3.out hbF); have KF := xF.cells))
        all_goals
          have BT := Lib.hid bT
          have BF := Lib.hid bF
          clear bT bF hbT hbF xT xF KT KF
          go_wp2
          go_ret
          exact ⟨ret_bool (by first | (rw [hr.out]; done) | (rw [hr.out]; exact decide_eq_false (by omega)) | (rw [hr.out]; simp; done) | (rw [hr.out]; simp; omega)), by first | exact BT.out | exact BF.out⟩
      · have hr : Hid (fallB fr to = false) := by rw [Hid, hFB.out, decide_eq_false hdb]; simp
        go_wp2_with (fail)
        go_region_held3 (fun w' => w'.cell? ⟨w.heap.size, 0, none⟩ = some (.slice A1 fr.length c1) ∧ w'.cell? ⟨w.heap.size, 1, none⟩ = some (.slice A2 to.length c2) ∧ w'.cell? ⟨w.heap.size, 2, none⟩ = some (.string s))
          (first | exact KT | exact KF | assumption | go_keep)
          (first
            | (go_at_call 87; (first | (with_reducible refine (HC2.out wF bF).mono ?_) | (with_reducible refine (HC2.out w3.drew b3.out.drew).mono ?_) | (with_reducible refine (HC2.out w3 b3.out).mono ?_)); rintro e wT ⟨rfl, hbT⟩; have bT : Below w.heap.size w wT := (by first | exact bF.trans (hbT.mono bF.size) | exact b3.out.trans (hbT.mono b3.out.size) | exact b3.out.drew.trans (hbT.mono b3.out.size)); have xT : RX 45 wT w.heap.size (.slice A1 fr.length c1) (.slice A2 to.length c2) s := (by first | exact RX.next xF hbT | exact RX.next (w := w3.drew) x3.out hbT | exact RX.next x3.out hbT); have KT := xT.cells)
            | (go_at_call 87; (first | (with_reducible refine (HC1.out wT bT).mono ?_) | (with_reducible refine (HC1.out w3.drew b3.out.drew).mono ?_) | (with_reducible refine (HC1.out w3 b3.out).mono ?_)); rintro e wF ⟨rfl, hbF⟩; have bF : Below w.heap.size w wF := (by first | exact bT.trans (hbF.mono bT.size) | exact b3.out.trans (hbF.mono b3.out.size) | exact b3.out.drew.trans (hbF.mono b3.out.size)); have xF : RX 45 wF w.heap.size (.slice A1 fr.length c1) (.slice A2 to.length c2) s := (by first | exact RX.next xT hbF | exact RX.next (w := w3.drew) x3.out hbF | exact RX.next x3.out hbF); have KF := xF.cells))
        all_goals
          have BT := Lib.hid bT
          have BF := Lib.hid bF
          clear bT bF hbT hbF xT xF KT KF
          go_wp2
          go_ret
          exact ⟨ret_bool (by first | (rw [hr.out]; done) | (rw [hr.out]; exact decide_eq_false (by omega)) | (rw [hr.out]; simp; done) | (rw [hr.out]; simp; omega)), by first | exact BT.out | exact BF.out⟩
    · have hr : Hid (fallB fr to = false) := by rw [Hid, hFB.out, decide_eq_false hca]; simp
      have g2 : decide (a2 ≤ a0) = false := decide_eq_false hca
      go_wp2_with (fail)
      refine wp_region_any (by kernel_rfl) ?_
      try (change wpAny _ _ _ _ _ _ _ (World.drew _))
      refine wpAny_take (i := 0) (v := ?_) rfl (by kernel_rfl) (by kernel_rfl) (by kernel_rfl) (fun _ _ _ h => h) (Or.inl ⟨by rfl, ?_⟩) ?_
      rotate_left 1
      · (intro w; go_simp; try with_reducible rfl)
      try simp only [Act.put, List.setIfInBounds_toArray, List.set_cons_zero, List.set_cons_succ, List.getElem_toArray, List.getElem_cons_zero, List.getElem_cons_succ]
      refine wpAny_take (i := 3) (v := ?_) rfl (by kernel_rfl) (by kernel_rfl) (by kernel_rfl) (fun _ _ _ h => h) (Or.inl ⟨by rfl, ?_⟩) ?_
      rotate_left 1
      · (intro w; go_simp; try with_reducible rfl)
      try simp only [Act.put, List.setIfInBounds_toArray, List.set_cons_zero, List.set_cons_succ, List.getElem_toArray, List.getElem_cons_zero, List.getElem_cons_succ]
      refine wpAny_ready (rs := [1, 4]) (by kernel_rfl) (by simp) ?_
      refine AllReady.cons rfl (fun K hK => ?_) (AllReady.cons rfl (fun K hK => ?_) (AllReady.nil))
      try simp only [List.setIfInBounds_toArray, List.set_cons_zero, List.set_cons_succ, List.getElem_toArray, List.getElem_cons_zero, List.getElem_cons_succ]
      go_simp
      try (refine hK _ _ ?_; clear hK K)
      refine wpAny_ready (rs := [2, 4]) (by kernel_rfl) (by simp) ?_
      refine AllReady.cons rfl (fun K hK => ?_) (AllReady.cons rfl (fun K hK => ?_) (AllReady.nil))
      try simp only [List.setIfInBounds_toArray, List.set_cons_zero, List.set_cons_succ, List.getElem_toArray, List.getElem_cons_zero, List.getElem_cons_succ]
      (go_simp; first | (go_at_call 87; (first | (with_reducible refine (HC2.out wF bF).mono ?_) | (with_reducible refine (HC2.out w3.drew b3.out.drew).mono ?_) | (with_reducible refine (HC2.out w3 b3.out).mono ?_)); rintro e wT ⟨rfl, hbT⟩; have bT : Below w.heap.size w wT := (by first | exact bF.trans (hbT.mono bF.size) | exact b3.out.trans (hbT.mono b3.out.size) | exact b3.out.drew.trans (hbT.mono b3.out.size)); have xT : RX 45 wT w.heap.size (.slice A1 fr.length c1) (.slice A2 to.length c2) s := (by first | exact RX.next xF hbT | exact RX.next (w := w3.drew) x3.out hbT | exact RX.next x3.out hbT); obtain ⟨kt0, kt1, kt2⟩ := xT.cells) | (go_at_call 87; (first | (with_reducible refine (HC1.out wT bT).mono ?_) | (with_reducible refine (HC1.out w3.drew b3.out.drew).mono ?_) | (with_reducible refine (HC1.out w3 b3.out).mono ?_)); rintro e wF ⟨rfl, hbF⟩; have bF : Below w.heap.size w wF := (by first | exact bT.trans (hbF.mono bT.size) | exact b3.out.trans (hbF.mono b3.out.size) | exact b3.out.drew.trans (hbF.mono b3.out.size)); have xF : RX 45 wF w.heap.size (.slice A1 fr.length c1) (.slice A2 to.length c2) s := (by first | exact RX.next xT hbF | exact RX.next (w := w3.drew) x3.out hbF | exact RX.next x3.out hbF); obtain ⟨kf0, kf1, kf2⟩ := xF.cells))
      try go_simp
      try (refine hK _ _ ?_; clear hK K)
      refine wpAny_ready (rs := [4]) (by kernel_rfl) (by simp) ?_
      refine AllReady.cons rfl (fun K hK => ?_) (AllReady.nil)
      try simp only [List.setIfInBounds_toArray, List.set_cons_zero, List.set_cons_succ, List.getElem_toArray, List.getElem_cons_zero, List.getElem_cons_succ]
      go_simp
      try (refine hK _ _ ?_; clear hK K)
      refine wpAny_ready (rs := [5]) (by kernel_rfl) (by simp) ?_
      refine AllReady.cons rfl (fun K hK => ?_) (AllReady.nil)
      try simp only [List.setIfInBounds_toArray, List.set_cons_zero, List.set_cons_succ, List.getElem_toArray, List.getElem_cons_zero, List.getElem_cons_succ]
      (go_simp; first | (go_at_call 87; (first | (with_reducible refine (HC2.out wF bF).mono ?_) | (with_reducible refine (HC2.out w3.drew b3.out.drew).mono ?_) | (with_reducible refine (HC2.out w3 b3.out).mono ?_)); rintro e wT ⟨rfl, hbT⟩; have bT : Below w.heap.size w wT := (by first | exact bF.trans (hbT.mono bF.size) | exact b3.out.trans (hbT.mono b3.out.size) | exact b3.out.drew.trans (hbT.mono b3.out.size)); have xT : RX 45 wT w.heap.size (.slice A1 fr.length c1) (.slice A2 to.length c2) s := (by first | exact RX.next xF hbT | exact RX.next (w := w3.drew) x3.out hbT | exact RX.next x3.out hbT); obtain ⟨kt0, kt1, kt2⟩ := xT.cells) | (go_at_call 87; (first | (with_reducible refine (HC1.out wT bT).mono ?_) | (with_reducible refine (HC1.out w3.drew b3.out.drew).mono ?_) | (with_reducible refine (HC1.out w3 b3.out).mono ?_)); rintro e wF ⟨rfl, hbF⟩; have bF : Below w.heap.size w wF := (by first | exact bT.trans (hbF.mono bT.size) | exact b3.out.trans (hbF.mono b3.out.size) | exact b3.out.drew.trans (hbF.mono b3.out.size)); have xF : RX 45 wF w.heap.size (.slice A1 fr.length c1) (.slice A2 to.length c2) s := (by first | exact RX.next xT hbF | exact RX.next (w := w3.drew) x3.out hbF | exact RX.next x3.out hbF); obtain ⟨kf0, kf1, kf2⟩ := xF.cells))
      try go_simp
      try (refine hK _ _ ?_; clear hK K)
      refine wpAny_take (i := 6) (v := ?_) rfl (by kernel_rfl) (by kernel_rfl) (by kernel_rfl) (fun _ _ _ h => h) (Or.inl ⟨by rfl, ?_⟩) ?_
      rotate_left 1
      · (intro w; go_simp; try with_reducible rfl)
      try simp only [Act.put, List.setIfInBounds_toArray, List.set_cons_zero, List.set_cons_succ, List.getElem_toArray, List.getElem_cons_zero, List.getElem_cons_succ]
      refine wpAny_take (i := 7) (v := ?_) rfl (by kernel_rfl) (by kernel_rfl) (by kernel_rfl) (fun _ _ _ h => h) (Or.inl ⟨by rfl, ?_⟩) ?_
      rotate_left 1
      · (intro w; go_simp; try with_reducible rfl)
      try simp only [Act.put, List.setIfInBounds_toArray, List.set_cons_zero, List.set_cons_succ, List.getElem_toArray, List.getElem_cons_zero, List.getElem_cons_succ]
      refine wpAny_take (i := 8) (v := ?_) rfl (by kernel_rfl) (by kernel_rfl) (by kernel_rfl) (fun _ _ _ h => h) (Or.inl ⟨by rfl, ?_⟩) ?_
      rotate_left 1
      · (intro w; go_simp; try with_reducible rfl)
      try simp only [Act.put, List.setIfInBounds_toArray, List.set_cons_zero, List.set_cons_succ, List.getElem_toArray, List.getElem_cons_zero, List.getElem_cons_succ]
      refine wpAny_take (i := 9) (v := ?_) rfl (by kernel_rfl) (by kernel_rfl) (by kernel_rfl) (fun _ _ _ h => h) (Or.inl ⟨by rfl, ?_⟩) ?_
      rotate_left 1
      · (intro w; go_simp; try with_reducible rfl)
      try simp only [Act.put, List.setIfInBounds_toArray, List.set_cons_zero, List.set_cons_succ, List.getElem_toArray, List.getElem_cons_zero, List.getElem_cons_succ]
      refine wpAny_take (i := 10) (v := ?_) rfl (by kernel_rfl) (by kernel_rfl) (by kernel_rfl) (fun _ _ _ h => h) (Or.inl ⟨by rfl, ?_⟩) ?_
      rotate_left 1
      · (intro w; go_simp; try with_reducible rfl)
      try simp only [Act.put, List.setIfInBounds_toArray, List.set_cons_zero, List.set_cons_succ, List.getElem_toArray, List.getElem_cons_zero, List.getElem_cons_succ]
      refine wpAny_take (i := 11) (v := ?_) rfl (by kernel_rfl) (by kernel_rfl) (by kernel_rfl) (fun _ _ _ h => h) (Or.inl ⟨by rfl, ?_⟩) ?_
      rotate_left 1
      · (intro w; go_simp; try with_reducible rfl)
      try simp only [Act.put, List.setIfInBounds_toArray, List.set_cons_zero, List.set_cons_succ, List.getElem_toArray, List.getElem_cons_zero, List.getElem_cons_succ]
      refine wpAny_take (i := 12) (v := ?_) rfl (by kernel_rfl) (by kernel_rfl) (by kernel_rfl) (fun _ _ _ h => h) (Or.inl ⟨by rfl, ?_⟩) ?_
      rotate_left 1
      · (intro w; go_simp; try with_reducible rfl)
      try simp only [Act.put, List.setIfInBounds_toArray, List.set_cons_zero, List.set_cons_succ, List.getElem_toArray, List.getElem_cons_zero, List.getElem_cons_succ]
      refine wpAny_take (i := 13) (v := undef) rfl (by kernel_rfl) (by kernel_rfl) (by kernel_rfl) (fun _ _ _ h => h) (Or.inr ⟨by rfl, rfl⟩) ?_
      try simp only [Act.put, List.setIfInBounds_toArray, List.set_cons_zero, List.set_cons_succ, List.getElem_toArray, List.getElem_cons_zero, List.getElem_cons_succ]
      refine wpAny_take (i := 14) (v := undef) rfl (by kernel_rfl) (by kernel_rfl) (by kernel_rfl) (fun _ _ _ h => h) (Or.inr ⟨by rfl, rfl⟩) ?_
      try simp only [Act.put, List.setIfInBounds_toArray, List.set_cons_zero, List.set_cons_succ, List.getElem_toArray, List.getElem_cons_zero, List.getElem_cons_succ]
      refine wpAny_take (i := 15) (v := undef) rfl (by kernel_rfl) (by kernel_rfl) (by kernel_rfl) (fun _ _ _ h => h) (Or.inr ⟨by rfl, rfl⟩) ?_
      try simp only [Act.put, List.setIfInBounds_toArray, List.set_cons_zero, List.set_cons_succ, List.getElem_toArray, List.getElem_cons_zero, List.getElem_cons_succ]
      refine wpAny_take (i := 16) (v := ?_) rfl (by kernel_rfl) (by kernel_rfl) (by kernel_rfl) (fun _ _ _ h => h) (Or.inl ⟨by rfl, ?_⟩) ?_
      rotate_left 1
      · (intro w; go_simp; try with_reducible rfl)
      try simp only [Act.put, List.setIfInBounds_toArray, List.set_cons_zero, List.set_cons_succ, List.getElem_toArray, List.getElem_cons_zero, List.getElem_cons_succ]
      refine wpAny_take (i := 17) (v := ?_) rfl (by kernel_rfl) (by kernel_rfl) (by kernel_rfl) (fun _ _ _ h => h) (Or.inl ⟨by rfl, ?_⟩) ?_
      rotate_left 1
      · (intro w; go_simp; try with_reducible rfl)
      try simp only [Act.put, List.setIfInBounds_toArray, List.set_cons_zero, List.set_cons_succ, List.getElem_toArray, List.getElem_cons_zero, List.getElem_cons_succ]
      refine wpAny_done (by kernel_rfl) ?_ _
      rotate_left 1
      try simp only [List.setIfInBounds_toArray, List.set_cons_zero, List.set_cons_succ, List.getElem_toArray, List.getElem_cons_zero, List.getElem_cons_succ]
      go_simp
      try (refine hK _ _ ?_; clear hK K)
      refine wpAny_ready (rs := [2]) (by kernel_rfl) (by simp) ?_
      refine AllReady.cons rfl (fun K hK => ?_) (AllReady.nil)
      try simp only [List.setIfInBounds_toArray, List.set_cons_zero, List.set_cons_succ, List.getElem_toArray, List.getElem_cons_zero, List.getElem_cons_succ]
      (go_simp; first | (go_at_call 87; (first | (with_reducible refine (HC2.out wF bF).mono ?_) | (with_reducible refine (HC2.out w3.drew b3.out.drew).mono ?_) | (with_reducible refine (HC2.out w3 b3.out).mono ?_)); rintro e wT ⟨rfl, hbT⟩; have bT : Below w.heap.size w wT := (by first | exact bF.trans (hbT.mono bF.size) | exact b3.out.trans (hbT.mono b3.out.size) | exact b3.out.drew.trans (hbT.mono b3.out.size)); have xT : RX 45 wT w.heap.size (.slice A1 fr.length c1) (.slice A2 to.length c2) s := (by first | exact RX.next xF hbT | exact RX.next (w := w3.drew) x3.out hbT | exact RX.next x3.out hbT); obtain ⟨kt0, kt1, kt2⟩ := xT.cells) | (go_at_call 87; (first | (with_reducible refine (HC1.out wT bT).mono ?_) | (with_reducible refine (HC1.out w3.drew b3.out.drew).mono ?_) | (with_reducible refine (HC1.out w3 b3.out).mono ?_)); rintro e wF ⟨rfl, hbF⟩; have bF : Below w.heap.size w wF := (by first | exact bT.trans (hbF.mono bT.size) | exact b3.out.trans (hbF.mono b3.out.size) | exact b3.out.drew.trans (hbF.mono b3.out.size)); have xF : RX 45 wF w.heap.size (.slice A1 fr.length c1) (.slice A2 to.length c2) s := (by first | exact RX.next xT hbF | exact RX.next (w := w3.drew) x3.out hbF | exact RX.next x3.out hbF); obtain ⟨kf0, kf1, kf2⟩ := xF.cells))
      try go_simp
      try (refine hK _ _ ?_; clear hK K)
      refine wpAny_ready (rs := [5]) (by kernel_rfl) (by simp) ?_
      refine AllReady.cons rfl (fun K hK => ?_) (AllReady.nil)
      try simp only [List.setIfInBounds_toArray, List.set_cons_zero, List.set_cons_succ, List.getElem_toArray, List.getElem_cons_zero, List.getElem_cons_succ]
      (go_simp; first | (go_at_call 87; (first | (with_reducible refine (HC2.out wF bF).mono ?_) | (with_reducible refine (HC2.out w3.drew b3.out.drew).mono ?_) | (with_reducible refine (HC2.out w3 b3.out).mono ?_)); rintro e wT ⟨rfl, hbT⟩; have bT : Below w.heap.size w wT := (by first | exact bF.trans (hbT.mono bF.size) | exact b3.out.trans (hbT.mono b3.out.size) | exact b3.out.drew.trans (hbT.mono b3.out.size)); have xT : RX 45 wT w.heap.size (.slice A1 fr.length c1) (.slice A2 to.length c2) s := (by first | exact RX.next xF hbT | exact RX.next (w := w3.drew) x3.out hbT | exact RX.next x3.out hbT); obtain ⟨kt0, kt1, kt2⟩ := xT.cells) | (go_at_call 87; (first | (with_reducible refine (HC1.out wT bT).mono ?_) | (with_reducible refine (HC1.out w3.drew b3.out.drew).mono ?_) | (with_reducible refine (HC1.out w3 b3.out).mono ?_)); rintro e wF ⟨rfl, hbF⟩; have bF : Below w.heap.size w wF := (by first | exact bT.trans (hbF.mono bT.size) | exact b3.out.trans (hbF.mono b3.out.size) | exact b3.out.drew.trans (hbF.mono b3.out.size)); have xF : RX 45 wF w.heap.size (.slice A1 fr.length c1) (.slice A2 to.length c2) s := (by first | exact RX.next xT hbF | exact RX.next (w := w3.drew) x3.out hbF | exact RX.next x3.out hbF); obtain ⟨kf0, kf1, kf2⟩ := xF.cells))
      try go_simp
      try (refine hK _ _ ?_; clear hK K)
      refine wpAny_take (i := 6) (v := ?_) rfl (by kernel_rfl) (by kernel_rfl) (by kernel_rfl) (fun _ _ _ h => h) (Or.inl ⟨by rfl, ?_⟩) ?_
      rotate_left 1
      · (intro w; go_simp; try with_reducible rfl)
      try simp only [Act.put, List.setIfInBounds_toArray, List.set_cons_zero, List.set_cons_succ, List.getElem_toArray, List.getElem_cons_zero, List.getElem_cons_succ]
      refine wpAny_take (i := 7) (v := ?_) rfl (by kernel_rfl) (by kernel_rfl) (by kernel_rfl) (fun _ _ _ h => h) (Or.inl ⟨by rfl, ?_⟩) ?_
      rotate_left 1
      · (intro w; go_simp; try with_reducible rfl)
      try simp only [Act.put, List.setIfInBounds_toArray, List.set_cons_zero, List.set_cons_succ, List.getElem_toArray, List.getElem_cons_zero, List.getElem_cons_succ]
      refine wpAny_take (i := 8) (v := ?_) rfl (by kernel_rfl) (by kernel_rfl) (by kernel_rfl) (fun _ _ _ h => h) (Or.inl ⟨by rfl, ?_⟩) ?_
      rotate_left 1
      · (intro w; go_simp; try with_reducible rfl)
      try simp only [Act.put, List.setIfInBounds_toArray, List.set_cons_zero, List.set_cons_succ, List.getElem_toArray, List.getElem_cons_zero, List.getElem_cons_succ]
      refine wpAny_take (i := 9) (v := ?_) rfl (by kernel_rfl) (by kernel_rfl) (by kernel_rfl) (fun _ _ _ h => h) (Or.inl ⟨by rfl, ?_⟩) ?_
      rotate_left 1
      · (intro w; go_simp; try with_reducible rfl)
      try simp only [Act.put, List.setIfInBounds_toArray, List.set_cons_zero, List.set_cons_succ, List.getElem_toArray, List.getElem_cons_zero, List.getElem_cons_succ]
      refine wpAny_take (i := 10) (v := ?_) rfl (by kernel_rfl) (by kernel_rfl) (by kernel_rfl) (fun _ _ _ h => h) (Or.inl ⟨by rfl, ?_⟩) ?_
      rotate_left 1
      · (intro w; go_simp; try with_reducible rfl)
      try simp only [Act.put, List.setIfInBounds_toArray, List.set_cons_zero, List.set_cons_succ, List.getElem_toArray, List.getElem_cons_zero, List.getElem_cons_succ]
      refine wpAny_take (i := 11) (v := ?_) rfl (by kernel_rfl) (by kernel_rfl) (by kernel_rfl) (fun _ _ _ h => h) (Or.inl ⟨by rfl, ?_⟩) ?_
      rotate_left 1
      · (intro w; go_simp; try with_reducible rfl)
      try simp only [Act.put, List.setIfInBounds_toArray, List.set_cons_zero, List.set_cons_succ, List.getElem_toArray, List.getElem_cons_zero, List.getElem_cons_succ]
      refine wpAny_take (i := 12) (v := ?_) rfl (by kernel_rfl) (by kernel_rfl) (by kernel_rfl) (fun _ _ _ h => h) (Or.inl ⟨by rfl, ?_⟩) ?_
      rotate_left 1
      · (intro w; go_simp; try with_reducible rfl)
      try simp only [Act.put, List.setIfInBounds_toArray, List.set_cons_zero, List.set_cons_succ, List.getElem_toArray, List.getElem_cons_zero, List.getElem_cons_succ]
      refine wpAny_take (i := 13) (v := undef) rfl (by kernel_rfl) (by kernel_rfl) (by kernel_rfl) (fun _ _ _ h => h) (Or.inr ⟨by rfl, rfl⟩) ?_
      try simp only [Act.put, List.setIfInBounds_toArray, List.set_cons_zero, List.set_cons_succ, List.getElem_toArray, List.getElem_cons_zero, List.getElem_cons_succ]
      refine wpAny_take (i := 14) (v := undef) rfl (by kernel_rfl) (by kernel_rfl) (by kernel_rfl) (fun _ _ _ h => h) (Or.inr ⟨by rfl, rfl⟩) ?_
      try simp only [Act.put, List.setIfInBounds_toArray, List.set_cons_zero, List.set_cons_succ, List.getElem_toArray, List.getElem_cons_zero, List.getElem_cons_succ]
      refine wpAny_take (i := 15) (v := undef) rfl (by kernel_rfl) (by kernel_rfl) (by kernel_rfl) (fun _ _ _ h => h) (Or.inr ⟨by rfl, rfl⟩) ?_
      try simp only [Act.put, List.setIfInBounds_toArray, List.set_cons_zero, List.set_cons_succ, List.getElem_toArray, List.getElem_cons_zero, List.getElem_cons_succ]
      refine wpAny_take (i := 16) (v := ?_) rfl (by kernel_rfl) (by kernel_rfl) (by kernel_rfl) (fun _ _ _ h => h) (Or.inl ⟨by rfl, ?_⟩) ?_
      rotate_left 1
      · (intro w; go_simp; try with_reducible rfl)
      try simp only [Act.put, List.setIfInBounds_toArray, List.set_cons_zero, List.set_cons_succ, List.getElem_toArray, List.getElem_cons_zero, List.getElem_cons_succ]
      refine wpAny_take (i := 17) (v := ?_) rfl (by kernel_rfl) (by kernel_rfl) (by kernel_rfl) (fun _ _ _ h => h) (Or.inl ⟨by rfl, ?_⟩) ?_
      rotate_left 1
      · (intro w; go_simp; try with_reducible rfl)
      try simp only [Act.put, List.setIfInBounds_toArray, List.set_cons_zero, List.set_cons_succ, List.getElem_toArray, List.getElem_cons_zero, List.getElem_cons_succ]
      refine wpAny_done (by kernel_rfl) ?_ _
      rotate_left 1
      try simp only [List.setIfInBounds_toArray, List.set_cons_zero, List.set_cons_succ, List.getElem_toArray, List.getElem_cons_zero, List.getElem_cons_succ]
      go_simp
      try (refine hK _ _ ?_; clear hK K)
      refine wpAny_ready (rs := [1]) (by kernel_rfl) (by simp) ?_
      refine AllReady.cons rfl (fun K hK => ?_) (AllReady.nil)
      try simp only [List.setIfInBounds_toArray, List.set_cons_zero, List.set_cons_succ, List.getElem_toArray, List.getElem_cons_zero, List.getElem_cons_succ]
      go_simp
      try (refine hK _ _ ?_; clear hK K)
      refine wpAny_ready (rs := [2]) (by kernel_rfl) (by simp) ?_
      refine AllReady.cons rfl (fun K hK => ?_) (AllReady.nil)
      try simp only [List.setIfInBounds_toArray, List.set_cons_zero, List.set_cons_succ, List.getElem_toArray, List.getElem_cons_zero, List.getElem_cons_succ]
      (go_simp; first | (go_at_call 87; (first | (with_reducible refine (HC2.out wF bF).mono ?_) | (with_reducible refine (HC2.out w3.drew b3.out.drew).mono ?_) | (with_reducible refine (HC2.out w3 b3.out).mono ?_)); rintro e wT ⟨rfl, hbT⟩; have bT : Below w.heap.size w wT := (by first | exact bF.trans (hbT.mono bF.size) | exact b3.out.trans (hbT.mono b3.out.size) | exact b3.out.drew.trans (hbT.mono b3.out.size)); have xT : RX 45 wT w.heap.size (.slice A1 fr.length c1) (.slice A2 to.length c2) s := (by first | exact RX.next xF hbT | exact RX.next (w := w3.drew) x3.out hbT | exact RX.next x3.out hbT); obtain ⟨kt0, kt1, kt2⟩ := xT.cells) | (go_at_call 87; (first | (with_reducible refine (HC1.out wT bT).mono ?_) | (with_reducible refine (HC1.out w3.drew b3.out.drew).mono ?_) | (with_reducible refine (HC1.out w3 b3.out).mono ?_)); rintro e wF ⟨rfl, hbF⟩; have bF : Below w.heap.size w wF := (by first | exact bT.trans (hbF.mono bT.size) | exact b3.out.trans (hbF.mono b3.out.size) | exact b3.out.drew.trans (hbF.mono b3.out.size)); have xF : RX 45 wF w.heap.size (.slice A1 fr.length c1) (.slice A2 to.length c2) s := (by first | exact RX.next xT hbF | exact RX.next (w := w3.drew) x3.out hbF | exact RX.next x3.out hbF); obtain ⟨kf0, kf1, kf2⟩ := xF.cells))
      try go_simp
      try (refine hK _ _ ?_; clear hK K)
      refine wpAny_ready (rs := [5]) (by kernel_rfl) (by simp) ?_
      refine AllReady.cons rfl (fun K hK => ?_) (AllReady.nil)
      try simp only [List.setIfInBounds_toArray, List.set_cons_zero, List.set_cons_succ, List.getElem_toArray, List.getElem_cons_zero, List.getElem_cons_succ]
      (go_simp; first | (go_at_call 87; (first | (with_reducible refine (HC2.out wF bF).mono ?_) | (with_reducible refine (HC2.out w3.drew b3.out.drew).mono ?_) | (with_reducible refine (HC2.out w3 b3.out).mono ?_)); rintro e wT ⟨rfl, hbT⟩; have bT : Below w.heap.size w wT := (by first | exact bF.trans (hbT.mono bF.size) | exact b3.out.trans (hbT.mono b3.out.size) | exact b3.out.drew.trans (hbT.mono b3.out.size)); have xT : RX 45 wT w.heap.size (.slice A1 fr.length c1) (.slice A2 to.length c2) s := (by first | exact RX.next xF hbT | exact RX.next (w := w3.drew) x3.out hbT | exact RX.next x3.out hbT); obtain ⟨kt0, kt1, kt2⟩ := xT.cells) | (go_at_call 87; (first | (with_reducible refine (HC1.out wT bT).mono ?_) | (with_reducible refine (HC1.out w3.drew b3.out.drew).mono ?_) | (with_reducible refine (HC1.out w3 b3.out).mono ?_)); rintro e wF ⟨rfl, hbF⟩; have bF : Below w.heap.size w wF := (by first | exact bT.trans (hbF.mono bT.size) | exact b3.out.trans (hbF.mono b3.out.size) | exact b3.out.drew.trans (hbF.mono b3.out.size)); have xF : RX 45 wF w.heap.size (.slice A1 fr.length c1) (.slice A2 to.length c2) s := (by first | exact RX.next xT hbF | exact RX.next (w := w3.drew) x3.out hbF | exact RX.next x3.out hbF); obtain ⟨kf0, kf1, kf2⟩ := xF.cells))
      try go_simp
      try (refine hK _ _ ?_; clear hK K)
      refine wpAny_take (i := 6) (v := ?_) rfl (by kernel_rfl) (by kernel_rfl) (by kernel_rfl) (fun _ _ _ h => h) (Or.inl ⟨by rfl, ?_⟩) ?_
      rotate_left 1
      · (intro w; go_simp; try with_reducible rfl)
      try simp only [Act.put, List.setIfInBounds_toArray, List.set_cons_zero, List.set_cons_succ, List.getElem_toArray, List.getElem_cons_zero, List.getElem_cons_succ]
      refine wpAny_take (i := 7) (v := ?_) rfl (by kernel_rfl) (by kernel_rfl) (by kernel_rfl) (fun _ _ _ h => h) (Or.inl ⟨by rfl, ?_⟩) ?_
      rotate_left 1
      · (intro w; go_simp; try with_reducible rfl)
      try simp only [Act.put, List.setIfInBounds_toArray, List.set_cons_zero, List.set_cons_succ, List.getElem_toArray, List.getElem_cons_zero, List.getElem_cons_succ]
      refine wpAny_take (i := 8) (v := ?_) rfl (by kernel_rfl) (by kernel_rfl) (by kernel_rfl) (fun _ _ _ h => h) (Or.inl ⟨by rfl, ?_⟩) ?_
      rotate_left 1
      · (intro w; go_simp; try with_reducible rfl)
      try simp only [Act.put, List.setIfInBounds_toArray, List.set_cons_zero, List.set_cons_succ, List.getElem_toArray, List.getElem_cons_zero, List.getElem_cons_succ]
      refine wpAny_take (i := 9) (v := ?_) rfl (by kernel_rfl) (by kernel_rfl) (by kernel_rfl) (fun _ _ _ h => h) (Or.inl ⟨by rfl, ?_⟩) ?_
      rotate_left 1
      · (intro w; go_simp; try with_reducible rfl)
      try simp only [Act.put, List.setIfInBounds_toArray, List.set_cons_zero, List.set_cons_succ, List.getElem_toArray, List.getElem_cons_zero, List.getElem_cons_succ]
      refine wpAny_take (i := 10) (v := ?_) rfl (by kernel_rfl) (by kernel_rfl) (by kernel_rfl) (fun _ _ _ h => h) (Or.inl ⟨by rfl, ?_⟩) ?_
      rotate_left 1
      · (intro w; go_simp; try with_reducible rfl)
      try simp only [Act.put, List.setIfInBounds_toArray, List.set_cons_zero, List.set_cons_succ, List.getElem_toArray, List.getElem_cons_zero, List.getElem_cons_succ]
      refine wpAny_take (i := 11) (v := ?_) rfl (by kernel_rfl) (by kernel_rfl) (by kernel_rfl) (fun _ _ _ h => h) (Or.inl ⟨by rfl, ?_⟩) ?_
      rotate_left 1
      · (intro w; go_simp; try with_reducible rfl)
      try simp only [Act.put, List.setIfInBounds_toArray, List.set_cons_zero, List.set_cons_succ, List.getElem_toArray, List.getElem_cons_zero, List.getElem_cons_succ]
      refine wpAny_take (i := 12) (v := ?_) rfl (by kernel_rfl) (by kernel_rfl) (by kernel_rfl) (fun _ _ _ h => h) (Or.inl ⟨by rfl, ?_⟩) ?_
      rotate_left 1
      · (intro w; go_simp; try with_reducible rfl)
      try simp only [Act.put, List.setIfInBounds_toArray, List.set_cons_zero, List.set_cons_succ, List.getElem_toArray, List.getElem_cons_zero, List.getElem_cons_succ]
      refine wpAny_take (i := 13) (v := undef) rfl (by kernel_rfl) (by kernel_rfl) (by kernel_rfl) (fun _ _ _ h => h) (Or.inr ⟨by rfl, rfl⟩) ?_
      try simp only [Act.put, List.setIfInBounds_toArray, List.set_cons_zero, List.set_cons_succ, List.getElem_toArray, List.getElem_cons_zero, List.getElem_cons_succ]
      refine wpAny_take (i := 14) (v := undef) rfl (by kernel_rfl) (by kernel_rfl) (by kernel_rfl) (fun _ _ _ h => h) (Or.inr ⟨by rfl, rfl⟩) ?_
      try simp only [Act.put, List.setIfInBounds_toArray, List.set_cons_zero, List.set_cons_succ, List.getElem_toArray, List.getElem_cons_zero, List.getElem_cons_succ]
      refine wpAny_take (i := 15) (v := undef) rfl (by kernel_rfl) (by kernel_rfl) (by kernel_rfl) (fun _ _ _ h => h) (Or.inr ⟨by rfl, rfl⟩) ?_
      try simp only [Act.put, List.setIfInBounds_toArray, List.set_cons_zero, List.set_cons_succ, List.getElem_toArray, List.getElem_cons_zero, List.getElem_cons_succ]
      refine wpAny_take (i := 16) (v := ?_) rfl (by kernel_rfl) (by kernel_rfl) (by kernel_rfl) (fun _ _ _ h => h) (Or.inl ⟨by rfl, ?_⟩) ?_
      rotate_left 1
      · (intro w; go_simp; try with_reducible rfl)
      try simp only [Act.put, List.setIfInBounds_toArray, List.set_cons_zero, List.set_cons_succ, List.getElem_toArray, List.getElem_cons_zero, List.getElem_cons_succ]
      refine wpAny_take (i := 17) (v := ?_) rfl (by kernel_rfl) (by kernel_rfl) (by kernel_rfl) (fun _ _ _ h => h) (Or.inl ⟨by rfl, ?_⟩) ?_
      rotate_left 1
      · (intro w; go_simp; try with_reducible rfl)
      try simp only [Act.put, List.setIfInBounds_toArray, List.set_cons_zero, List.set_cons_succ, List.getElem_toArray, List.getElem_cons_zero, List.getElem_cons_succ]
      refine wpAny_done (by kernel_rfl) ?_ _
      rotate_left 1
      all_goals
        have BT := Lib.hid bT
        have BF := Lib.hid bF
        clear bT bF hbT hbF xT xF
        go_wp2
        go_ret
        exact ⟨ret_bool (by first | (rw [hr.out]; done) | (rw [hr.out]; exact decide_eq_false (by omega)) | (rw [hr.out]; simp; done) | (rw [hr.out]; simp; omega)), by first | exact BT.out | exact BF.out⟩
  · have hr : Hid (fallB fr to = false) := by rw [Hid, hFB.out, decide_eq_false hpq]; simp
    have g2 : decide (q < p) = false := decide_eq_false hpq
    go_wp2_with (fail)
    refine wp_region_any (by kernel_rfl) ?_
    try (change wpAny _ _ _ _ _ _ _ (World.drew _))
    refine wpAny_take (i := 0) (v := ?_) rfl (by kernel_rfl) (by kernel_rfl) (by kernel_rfl) (fun _ _ _ h => h) (Or.inl ⟨by rfl, ?_⟩) ?_
    rotate_left 1
    · (intro w; go_simp; try with_reducible rfl)
    try simp only [Act.put, List.setIfInBounds_toArray, List.set_cons_zero, List.set_cons_succ, List.getElem_toArray, List.getElem_cons_zero, List.getElem_cons_succ]
    refine wpAny_take (i := 3) (v := ?_) rfl (by kernel_rfl) (by kernel_rfl) (by kernel_rfl) (fun _ _ _ h => h) (Or.inl ⟨by rfl, ?_⟩) ?_
    rotate_left 1
    · (intro w; go_simp; try with_reducible rfl)
    try simp only [Act.put, List.setIfInBounds_toArray, List.set_cons_zero, List.set_cons_succ, List.getElem_toArray, List.getElem_cons_zero, List.getElem_cons_succ]
    refine wpAny_ready (rs := [1, 4]) (by kernel_rfl) (by simp) ?_
    refine AllReady.cons rfl (fun K hK => ?_) (AllReady.cons rfl (fun K hK => ?_) (AllReady.nil))
    try simp only [List.setIfInBounds_toArray, List.set_cons_zero, List.set_cons_succ, List.getElem_toArray, List.getElem_cons_zero, List.getElem_cons_succ]
    go_simp
    try (refine hK _ _ ?_; clear hK K)
    refine wpAny_ready (rs := [2, 4]) (by kernel_rfl) (by simp) ?_
    refine AllReady.cons rfl (fun K hK => ?_) (AllReady.cons rfl (fun K hK => ?_) (AllReady.nil))
    try simp only [List.setIfInBounds_toArray, List.set_cons_zero, List.set_cons_succ, List.getElem_toArray, List.getElem_cons_zero, List.getElem_cons_succ]
    (go_simp; first | (go_at_call 87; (first | (with_reducible refine (HC2.out wF bF).mono ?_) | (with_reducible refine (HC2.out w3.drew b3.out.drew).mono ?_) | (with_reducible refine (HC2.out w3 b3.out).mono ?_)); rintro e wT ⟨rfl, hbT⟩; have bT : Below w.heap.size w wT := (by first | exact bF.trans (hbT.mono bF.size) | exact b3.out.trans (hbT.mono b3.out.size) | exact b3.out.drew.trans (hbT.mono b3.out.size)); have xT : RX 45 wT w.heap.size (.slice A1 fr.length c1) (.slice A2 to.length c2) s := (by first | exact RX.next xF hbT | exact RX.next (w := w3.drew) x3.out hbT | exact RX.next x3.out hbT); obtain ⟨kt0, kt1, kt2⟩ := xT.cells) | (go_at_call 87; (first | (with_reducible refine (HC1.out wT bT).mono ?_) | (with_reducible refine (HC1.out w3.drew b3.out.drew).mono ?_) | (with_reducible refine (HC1.out w3 b3.out).mono ?_)); rintro e wF ⟨rfl, hbF⟩; have bF : Below w.heap.size w wF := (by first | exact bT.trans (hbF.mono bT.size) | exact b3.out.trans (hbF.mono b3.out.size) | exact b3.out.drew.trans (hbF.mono b3.out.size)); have xF : RX 45 wF w.heap.size (.slice A1 fr.length c1) (.slice A2 to.length c2) s := (by first | exact RX.next xT hbF | exact RX.next (w := w3.drew) x3.out hbF | exact RX.next x3.out hbF); obtain ⟨kf0, kf1, kf2⟩ := xF.cells))
    try go_simp
    try (refine hK _ _ ?_; clear hK K)
    refine wpAny_ready (rs := [4]) (by kernel_rfl) (by simp) ?_
    refine AllReady.cons rfl (fun K hK => ?_) (AllReady.nil)
    try simp only [List.setIfInBounds_toArray, List.set_cons_zero, List.set_cons_succ, List.getElem_toArray, List.getElem_cons_zero, List.getElem_cons_succ]
    go_simp
    try (refine hK _ _ ?_; clear hK K)
    refine wpAny_ready (rs := [5]) (by kernel_rfl) (by simp) ?_
    refine AllReady.cons rfl (fun K hK => ?_) (AllReady.nil)
    try simp only [List.setIfInBounds_toArray, List.set_cons_zero, List.set_cons_succ, List.getElem_toArray, List.getElem_cons_zero, List.getElem_cons_succ]
    (go_simp; first | (go_at_call 87; (first | (with_reducible refine (HC2.out wF bF).mono ?_) | (with_reducible refine (HC2.out w3.drew b3.out.drew).mono ?_) | (with_reducible refine (HC2.out w3 b3.out).mono ?_)); rintro e wT ⟨rfl, hbT⟩; have bT : Below w.heap.size w wT := (by first | exact bF.trans (hbT.mono bF.size) | exact b3.out.trans (hbT.mono b3.out.size) | exact b3.out.drew.trans (hbT.mono b3.out.size)); have xT : RX 45 wT w.heap.size (.slice A1 fr.length c1) (.slice A2 to.length c2) s := (by first | exact RX.next xF hbT | exact RX.next (w := w3.drew) x3.out hbT | exact RX.next x3.out hbT); obtain ⟨kt0, kt1, kt2⟩ := xT.cells) | (go_at_call 87; (first | (with_reducible refine (HC1.out wT bT).mono ?_) | (with_reducible refine (HC1.out w3.drew b3.out.drew).mono ?_) | (with_reducible refine (HC1.out w3 b3.out).mono ?_)); rintro e wF ⟨rfl, hbF⟩; have bF : Below w.heap.size w wF := (by first | exact bT.trans (hbF.mono bT.size) | exact b3.out.trans (hbF.mono b3.out.size) | exact b3.out.drew.trans (hbF.mono b3.out.size)); have xF : RX 45 wF w.heap.size (.slice A1 fr.length c1) (.slice A2 to.length c2) s := (by first | exact RX.next xT hbF | exact RX.next (w := w3.drew) x3.out hbF | exact RX.next x3.out hbF); obtain ⟨kf0, kf1, kf2⟩ := xF.cells))
    try go_simp
    try (refine hK _ _ ?_; clear hK K)
    refine wpAny_take (i := 6) (v := ?_) rfl (by kernel_rfl) (by kernel_rfl) (by kernel_rfl) (fun _ _ _ h => h) (Or.inl ⟨by rfl, ?_⟩) ?_
    rotate_left 1
    · (intro w; go_simp; try with_reducible rfl)
    try simp only [Act.put, List.setIfInBounds_toArray, List.set_cons_zero, List.set_cons_succ, List.getElem_toArray, List.getElem_cons_zero, List.getElem_cons_succ]
    refine wpAny_take (i := 7) (v := ?_) rfl (by kernel_rfl) (by kernel_rfl) (by kernel_rfl) (fun _ _ _ h => h) (Or.inl ⟨by rfl, ?_⟩) ?_
    rotate_left 1
    · (intro w; go_simp; try with_reducible rfl)
    try simp only [Act.put, List.setIfInBounds_toArray, List.set_cons_zero, List.set_cons_succ, List.getElem_toArray, List.getElem_cons_zero, List.getElem_cons_succ]
    refine wpAny_take (i := 8) (v := undef) rfl (by kernel_rfl) (by kernel_rfl) (by kernel_rfl) (fun _ _ _ h => h) (Or.inr ⟨by rfl, rfl⟩) ?_
    try simp only [Act.put, List.setIfInBounds_toArray, List.set_cons_zero, List.set_cons_succ, List.getElem_toArray, List.getElem_cons_zero, List.getElem_cons_succ]
    refine wpAny_take (i := 9) (v := undef) rfl (by kernel_rfl) (by kernel_rfl) (by kernel_rfl) (fun _ _ _ h => h) (Or.inr ⟨by rfl, rfl⟩) ?_
    try simp only [Act.put, List.setIfInBounds_toArray, List.set_cons_zero, List.set_cons_succ, List.getElem_toArray, List.getElem_cons_zero, List.getElem_cons_succ]
    refine wpAny_take (i := 10) (v := undef) rfl (by kernel_rfl) (by kernel_rfl) (by kernel_rfl) (fun _ _ _ h => h) (Or.inr ⟨by rfl, rfl⟩) ?_
    try simp only [Act.put, List.setIfInBounds_toArray, List.set_cons_zero, List.set_cons_succ, List.getElem_toArray, List.getElem_cons_zero, List.getElem_cons_succ]
    refine wpAny_take (i := 11) (v := ?_) rfl (by kernel_rfl) (by kernel_rfl) (by kernel_rfl) (fun _ _ _ h => h) (Or.inl ⟨by rfl, ?_⟩) ?_
    rotate_left 1
    · (intro w; go_simp; try with_reducible rfl)
    try simp only [Act.put, List.setIfInBounds_toArray, List.set_cons_zero, List.set_cons_succ, List.getElem_toArray, List.getElem_cons_zero, List.getElem_cons_succ]
    refine wpAny_take (i := 12) (v := ?_) rfl (by kernel_rfl) (by kernel_rfl) (by kernel_rfl) (fun _ _ _ h => h) (Or.inl ⟨by rfl, ?_⟩) ?_
    rotate_left 1
    · (intro w; go_simp; try with_reducible rfl)
    try simp only [Act.put, List.setIfInBounds_toArray, List.set_cons_zero, List.set_cons_succ, List.getElem_toArray, List.getElem_cons_zero, List.getElem_cons_succ]
    refine wpAny_take (i := 13) (v := undef) rfl (by kernel_rfl) (by kernel_rfl) (by kernel_rfl) (fun _ _ _ h => h) (Or.inr ⟨by rfl, rfl⟩) ?_
    try simp only [Act.put, List.setIfInBounds_toArray, List.set_cons_zero, List.set_cons_succ, List.getElem_toArray, List.getElem_cons_zero, List.getElem_cons_succ]
    refine wpAny_take (i := 14) (v := undef) rfl (by kernel_rfl) (by kernel_rfl) (by kernel_rfl) (fun _ _ _ h => h) (Or.inr ⟨by rfl, rfl⟩) ?_
    try simp only [Act.put, List.setIfInBounds_toArray, List.set_cons_zero, List.set_cons_succ, List.getElem_toArray, List.getElem_cons_zero, List.getElem_cons_succ]
    refine wpAny_take (i := 15) (v := undef) rfl (by kernel_rfl) (by kernel_rfl) (by kernel_rfl) (fun _ _ _ h => h) (Or.inr ⟨by rfl, rfl⟩) ?_
    try simp only [Act.put, List.setIfInBounds_toArray, List.set_cons_zero, List.set_cons_succ, List.getElem_toArray, List.getElem_cons_zero, List.getElem_cons_succ]
    refine wpAny_take (i := 16) (v := ?_) rfl (by kernel_rfl) (by kernel_rfl) (by kernel_rfl) (fun _ _ _ h => h) (Or.inl ⟨by rfl, ?_⟩) ?_
    rotate_left 1
    · (intro w; go_simp; try with_reducible rfl)
    try simp only [Act.put, List.setIfInBounds_toArray, List.set_cons_zero, List.set_cons_succ, List.getElem_toArray, List.getElem_cons_zero, List.getElem_cons_succ]
    refine wpAny_take (i := 17) (v := ?_) rfl (by kernel_rfl) (by kernel_rfl) (by kernel_rfl) (fun _ _ _ h => h) (Or.inl ⟨by rfl, ?_⟩) ?_
    rotate_left 1
    · (intro w; go_simp; try with_reducible rfl)
    try simp only [Act.put, List.setIfInBounds_toArray, List.set_cons_zero, List.set_cons_succ, List.getElem_toArray, List.getElem_cons_zero, List.getElem_cons_succ]
    refine wpAny_done (by kernel_rfl) ?_ _
    rotate_left 1
    try simp only [List.setIfInBounds_toArray, List.set_cons_zero, List.set_cons_succ, List.getElem_toArray, List.getElem_cons_zero, List.getElem_cons_succ]
    go_simp
    try (refine hK _ _ ?_; clear hK K)
    refine wpAny_ready (rs := [2]) (by kernel_rfl) (by simp) ?_
    refine AllReady.cons rfl (fun K hK => ?_) (AllReady.nil)
    try simp only [List.setIfInBounds_toArray, List.set_cons_zero, List.set_cons_succ, List.getElem_toArray, List.getElem_cons_zero, List.getElem_cons_succ]
    (go_simp; first | (go_at_call 87; (first | (with_reducible refine (HC2.out wF bF).mono ?_) | (with_reducible refine (HC2.out w3.drew b3.out.drew).mono ?_) | (with_reducible refine (HC2.out w3 b3.out).mono ?_)); rintro e wT ⟨rfl, hbT⟩; have bT : Below w.heap.size w wT := (by first | exact bF.trans (hbT.mono bF.size) | exact b3.out.trans (hbT.mono b3.out.size) | exact b3.out.drew.trans (hbT.mono b3.out.size)); have xT : RX 45 wT w.heap.size (.slice A1 fr.length c1) (.slice A2 to.length c2) s := (by first | exact RX.next xF hbT | exact RX.next (w := w3.drew) x3.out hbT | exact RX.next x3.out hbT); obtain ⟨kt0, kt1, kt2⟩ := xT.cells) | (go_at_call 87; (first | (with_reducible refine (HC1.out wT bT).mono ?_) | (with_reducible refine (HC1.out w3.drew b3.out.drew).mono ?_) | (with_reducible refine (HC1.out w3 b3.out).mono ?_)); rintro e wF ⟨rfl, hbF⟩; have bF : Below w.heap.size w wF := (by first | exact bT.trans (hbF.mono bT.size) | exact b3.out.trans (hbF.mono b3.out.size) | exact b3.out.drew.trans (hbF.mono b3.out.size)); have xF : RX 45 wF w.heap.size (.slice A1 fr.length c1) (.slice A2 to.length c2) s := (by first | exact RX.next xT hbF | exact RX.next (w := w3.drew) x3.out hbF | exact RX.next x3.out hbF); obtain ⟨kf0, kf1, kf2⟩ := xF.cells))
    try go_simp
    try (refine hK _ _ ?_; clear hK K)
    refine wpAny_ready (rs := [5]) (by kernel_rfl) (by simp) ?_
    refine AllReady.cons rfl (fun K hK => ?_) (AllReady.nil)
    try simp only [List.setIfInBounds_toArray, List.set_cons_zero, List.set_cons_succ, List.getElem_toArray, List.getElem_cons_zero, List.getElem_cons_succ]
    (go_simp; first | (go_at_call 87; (first | (with_reducible refine (HC2.out wF bF).mono ?_) | (with_reducible refine (HC2.out w3.drew b3.out.drew).mono ?_) | (with_reducible refine (HC2.out w3 b3.out).mono ?_)); rintro e wT ⟨rfl, hbT⟩; have bT : Below w.heap.size w wT := (by first | exact bF.trans (hbT.mono bF.size) | exact b3.out.trans (hbT.mono b3.out.size) | exact b3.out.drew.trans (hbT.mono b3.out.size)); have xT : RX 45 wT w.heap.size (.slice A1 fr.length c1) (.slice A2 to.length c2) s := (by first | exact RX.next xF hbT | exact RX.next (w := w3.drew) x3.out hbT | exact RX.next x3.out hbT); obtain ⟨kt0, kt1, kt2⟩ := xT.cells) | (go_at_call 87; (first | (with_reducible refine (HC1.out wT bT).mono ?_) | (with_reducible refine (HC1.out w3.drew b3.out.drew).mono ?_) | (with_reducible refine (HC1.out w3 b3.out).mono ?_)); rintro e wF ⟨rfl, hbF⟩; have bF : Below w.heap.size w wF := (by first | exact bT.trans (hbF.mono bT.size) | exact b3.out.trans (hbF.mono b3.out.size) | exact b3.out.drew.trans (hbF.mono b3.out.size)); have xF : RX 45 wF w.heap.size (.slice A1 fr.length c1) (.slice A2 to.length c2) s := (by first | exact RX.next xT hbF | exact RX.next (w := w3.drew) x3.out hbF | exact RX.next x3.out hbF); obtain ⟨kf0, kf1, kf2⟩ := xF.cells))
    try go_simp
    try (refine hK _ _ ?_; clear hK K)
    refine wpAny_take (i := 6) (v := ?_) rfl (by kernel_rfl) (by kernel_rfl) (by kernel_rfl) (fun _ _ _ h => h) (Or.inl ⟨by rfl, ?_⟩) ?_
    rotate_left 1
    · (intro w; go_simp; try with_reducible rfl)
    try simp only [Act.put, List.setIfInBounds_toArray, List.set_cons_zero, List.set_cons_succ, List.getElem_toArray, List.getElem_cons_zero, List.getElem_cons_succ]
    refine wpAny_take (i := 7) (v := ?_) rfl (by kernel_rfl) (by kernel_rfl) (by kernel_rfl) (fun _ _ _ h => h) (Or.inl ⟨by rfl, ?_⟩) ?_
    rotate_left 1
    · (intro w; go_simp; try with_reducible rfl)
    try simp only [Act.put, List.setIfInBounds_toArray, List.set_cons_zero, List.set_cons_succ, List.getElem_toArray, List.getElem_cons_zero, List.getElem_cons_succ]
    refine wpAny_take (i := 8) (v := undef) rfl (by kernel_rfl) (by kernel_rfl) (by kernel_rfl) (fun _ _ _ h => h) (Or.inr ⟨by rfl, rfl⟩) ?_
    try simp only [Act.put, List.setIfInBounds_toArray, List.set_cons_zero, List.set_cons_succ, List.getElem_toArray, List.getElem_cons_zero, List.getElem_cons_succ]
    refine wpAny_take (i := 9) (v := undef) rfl (by kernel_rfl) (by kernel_rfl) (by kernel_rfl) (fun _ _ _ h => h) (Or.inr ⟨by rfl, rfl⟩) ?_
    try simp only [Act.put, List.setIfInBounds_toArray, List.set_cons_zero, List.set_cons_succ, List.getElem_toArray, List.getElem_cons_zero, List.getElem_cons_succ]
    refine wpAny_take (i := 10) (v := undef) rfl (by kernel_rfl) (by kernel_rfl) (by kernel_rfl) (fun _ _ _ h => h) (Or.inr ⟨by rfl, rfl⟩) ?_
    try simp only [Act.put, List.setIfInBounds_toArray, List.set_cons_zero, List.set_cons_succ, List.getElem_toArray, List.getElem_cons_zero, List.getElem_cons_succ]
    refine wpAny_take (i := 11) (v := ?_) rfl (by kernel_rfl) (by kernel_rfl) (by kernel_rfl) (fun _ _ _ h => h) (Or.inl ⟨by rfl, ?_⟩) ?_
    rotate_left 1
    · (intro w; go_simp; try with_reducible rfl)
    try simp only [Act.put, List.setIfInBounds_toArray, List.set_cons_zero, List.set_cons_succ, List.getElem_toArray, List.getElem_cons_zero, List.getElem_cons_succ]
    refine wpAny_take (i := 12) (v := ?_) rfl (by kernel_rfl) (by kernel_rfl) (by kernel_rfl) (fun _ _ _ h => h) (Or.inl ⟨by rfl, ?_⟩) ?_
    rotate_left 1
    · (intro w; go_simp; try with_reducible rfl)
    try simp only [Act.put, List.setIfInBounds_toArray, List.set_cons_zero, List.set_cons_succ, List.getElem_toArray, List.getElem_cons_zero, List.getElem_cons_succ]
    refine wpAny_take (i := 13) (v := undef) rfl (by kernel_rfl) (by kernel_rfl) (by kernel_rfl) (fun _ _ _ h => h) (Or.inr ⟨by rfl, rfl⟩) ?_
    try simp only [Act.put, List.setIfInBounds_toArray, List.set_cons_zero, List.set_cons_succ, List.getElem_toArray, List.getElem_cons_zero, List.getElem_cons_succ]
    refine wpAny_take (i := 14) (v := undef) rfl (by kernel_rfl) (by kernel_rfl) (by kernel_rfl) (fun _ _ _ h => h) (Or.inr ⟨by rfl, rfl⟩) ?_
    try simp only [Act.put, List.setIfInBounds_toArray, List.set_cons_zero, List.set_cons_succ, List.getElem_toArray, List.getElem_cons_zero, List.getElem_cons_succ]
    refine wpAny_take (i := 15) (v := undef) rfl (by kernel_rfl) (by kernel_rfl) (by kernel_rfl) (fun _ _ _ h => h) (Or.inr ⟨by rfl, rfl⟩) ?_
    try simp only [Act.put, List.setIfInBounds_toArray, List.set_cons_zero, List.set_cons_succ, List.getElem_toArray, List.getElem_cons_zero, List.getElem_cons_succ]
    refine wpAny_take (i := 16) (v := ?_) rfl (by kernel_rfl) (by kernel_rfl) (by kernel_rfl) (fun _ _ _ h => h) (Or.inl ⟨by rfl, ?_⟩) ?_
    rotate_left 1
    · (intro w; go_simp; try with_reducible rfl)
    try simp only [Act.put, List.setIfInBounds_toArray, List.set_cons_zero, List.set_cons_succ, List.getElem_toArray, List.getElem_cons_zero, List.getElem_cons_succ]
    refine wpAny_take (i := 17) (v := ?_) rfl (by kernel_rfl) (by kernel_rfl) (by kernel_rfl) (fun _ _ _ h => h) (Or.inl ⟨by rfl, ?_⟩) ?_
    rotate_left 1
    · (intro w; go_simp; try with_reducible rfl)
    try simp only [Act.put, List.setIfInBounds_toArray, List.set_cons_zero, List.set_cons_succ, List.getElem_toArray, List.getElem_cons_zero, List.getElem_cons_succ]
    refine wpAny_done (by kernel_rfl) ?_ _
    rotate_left 1
    try simp only [List.setIfInBounds_toArray, List.set_cons_zero, List.set_cons_succ, List.getElem_toArray, List.getElem_cons_zero, List.getElem_cons_succ]
    go_simp
    try (refine hK _ _ ?_; clear hK K)
    refine wpAny_ready (rs := [1]) (by kernel_rfl) (by simp) ?_
    refine AllReady.cons rfl (fun K hK => ?_) (AllReady.nil)
    try simp only [List.setIfInBounds_toArray, List.set_cons_zero, List.set_cons_succ, List.getElem_toArray, List.getElem_cons_zero, List.getElem_cons_succ]
    go_simp
    try (refine hK _ _ ?_; clear hK K)
    refine wpAny_ready (rs := [2]) (by kernel_rfl) (by simp) ?_
    refine AllReady.cons rfl (fun K hK => ?_) (AllReady.nil)
    try simp only [List.setIfInBounds_toArray, List.set_cons_zero, List.set_cons_succ, List.getElem_toArray, List.getElem_cons_zero, List.getElem_cons_succ]
    (go_simp; first | (go_at_call 87; (first | (with_reducible refine (HC2.out wF bF).mono ?_) | (with_reducible refine (HC2.out w3.drew b3.out.drew).mono ?_) | (with_reducible refine (HC2.out w3 b3.out).mono ?_)); rintro e wT ⟨rfl, hbT⟩; have bT : Below w.heap.size w wT := (by first | exact bF.trans (hbT.mono bF.size) | exact b3.out.trans (hbT.mono b3.out.size) | exact b3.out.drew.trans (hbT.mono b3.out.size)); have xT : RX 45 wT w.heap.size (.slice A1 fr.length c1) (.slice A2 to.length c2) s := (by first | exact RX.next xF hbT | exact RX.next (w := w3.drew) x3.out hbT | exact RX.next x3.out hbT); obtain ⟨kt0, kt1, kt2⟩ := xT.cells) | (go_at_call 87; (first | (with_reducible refine (HC1.out wT bT).mono ?_) | (with_reducible refine (HC1.out w3.drew b3.out.drew).mono ?_) | (with_reducible refine (HC1.out w3 b3.out).mono ?_)); rintro e wF ⟨rfl, hbF⟩; have bF : Below w.heap.size w wF := (by first | exact bT.trans (hbF.mono bT.size) | exact b3.out.trans (hbF.mono b3.out.size) | exact b3.out.drew.trans (hbF.mono b3.out.size)); have xF : RX 45 wF w.heap.size (.slice A1 fr.length c1) (.slice A2 to.length c2) s := (by first | exact RX.next xT hbF | exact RX.next (w := w3.drew) x3.out hbF | exact RX.next x3.out hbF); obtain ⟨kf0, kf1, kf2⟩ := xF.cells))
    try go_simp
    try (refine hK _ _ ?_; clear hK K)
    refine wpAny_ready (rs := [5]) (by kernel_rfl) (by simp) ?_
    refine AllReady.cons rfl (fun K hK => ?_) (AllReady.nil)
    try simp only [List.setIfInBounds_toArray, List.set_cons_zero, List.set_cons_succ, List.getElem_toArray, List.getElem_cons_zero, List.getElem_cons_succ]
    (go_simp; first | (go_at_call 87; (first | (with_reducible refine (HC2.out wF bF).mono ?_) | (with_reducible refine (HC2.out w3.drew b3.out.drew).mono ?_) | (with_reducible refine (HC2.out w3 b3.out).mono ?_)); rintro e wT ⟨rfl, hbT⟩; have bT : Below w.heap.size w wT := (by first | exact bF.trans (hbT.mono bF.size) | exact b3.out.trans (hbT.mono b3.out.size) | exact b3.out.drew.trans (hbT.mono b3.out.size)); have xT : RX 45 wT w.heap.size (.slice A1 fr.length c1) (.slice A2 to.length c2) s := (by first | exact RX.next xF hbT | exact RX.next (w := w3.drew) x3.out hbT | exact RX.next x3.out hbT); obtain ⟨kt0, kt1, kt2⟩ := xT.cells) | (go_at_call 87; (first | (with_reducible refine (HC1.out wT bT).mono ?_) | (with_reducible refine (HC1.out w3.drew b3.out.drew).mono ?_) | (with_reducible refine (HC1.out w3 b3.out).mono ?_)); rintro e wF ⟨rfl, hbF⟩; have bF : Below w.heap.size w wF := (by first | exact bT.trans (hbF.mono bT.size) | exact b3.out.trans (hbF.mono b3.out.size) | exact b3.out.drew.trans (hbF.mono b3.out.size)); have xF : RX 45 wF w.heap.size (.slice A1 fr.length c1) (.slice A2 to.length c2) s := (by first | exact RX.next xT hbF | exact RX.next (w := w3.drew) x3.out hbF | exact RX.next x3.out hbF); obtain ⟨kf0, kf1, kf2⟩ := xF.cells))
    try go_simp
    try (refine hK _ _ ?_; clear hK K)
    refine wpAny_take (i := 6) (v := ?_) rfl (by kernel_rfl) (by kernel_rfl) (by kernel_rfl) (fun _ _ _ h => h) (Or.inl ⟨by rfl, ?_⟩) ?_
    rotate_left 1
    · (intro w; go_simp; try with_reducible rfl)
    try simp only [Act.put, List.setIfInBounds_toArray, List.set_cons_zero, List.set_cons_succ, List.getElem_toArray, List.getElem_cons_zero, List.getElem_cons_succ]
    refine wpAny_take (i := 7) (v := ?_) rfl (by kernel_rfl) (by kernel_rfl) (by kernel_rfl) (fun _ _ _ h => h) (Or.inl ⟨by rfl, ?_⟩) ?_
    rotate_left 1
    · (intro w; go_simp; try with_reducible rfl)
    try simp only [Act.put, List.setIfInBounds_toArray, List.set_cons_zero, List.set_cons_succ, List.getElem_toArray, List.getElem_cons_zero, List.getElem_cons_succ]
    refine wpAny_take (i := 8) (v := undef) rfl (by kernel_rfl) (by kernel_rfl) (by kernel_rfl) (fun _ _ _ h => h) (Or.inr ⟨by rfl, rfl⟩) ?_
    try simp only [Act.put, List.setIfInBounds_toArray, List.set_cons_zero, List.set_cons_succ, List.getElem_toArray, List.getElem_cons_zero, List.getElem_cons_succ]
    refine wpAny_take (i := 9) (v := undef) rfl (by kernel_rfl) (by kernel_rfl) (by kernel_rfl) (fun _ _ _ h => h) (Or.inr ⟨by rfl, rfl⟩) ?_
    try simp only [Act.put, List.setIfInBounds_toArray, List.set_cons_zero, List.set_cons_succ, List.getElem_toArray, List.getElem_cons_zero, List.getElem_cons_succ]
    refine wpAny_take (i := 10) (v := undef) rfl (by kernel_rfl) (by kernel_rfl) (by kernel_rfl) (fun _ _ _ h => h) (Or.inr ⟨by rfl, rfl⟩) ?_
    try simp only [Act.put, List.setIfInBounds_toArray, List.set_cons_zero, List.set_cons_succ, List.getElem_toArray, List.getElem_cons_zero, List.getElem_cons_succ]
    refine wpAny_take (i := 11) (v := ?_) rfl (by kernel_rfl) (by kernel_rfl) (by kernel_rfl) (fun _ _ _ h => h) (Or.inl ⟨by rfl, ?_⟩) ?_
    rotate_left 1
    · (intro w; go_simp; try with_reducible rfl)
    try simp only [Act.put, List.setIfInBounds_toArray, List.set_cons_zero, List.set_cons_succ, List.getElem_toArray, List.getElem_cons_zero, List.getElem_cons_succ]
    refine wpAny_take (i := 12) (v := ?_) rfl (by kernel_rfl) (by kernel_rfl) (by kernel_rfl) (fun _ _ _ h => h) (Or.inl ⟨by rfl, ?_⟩) ?_
    rotate_left 1
    · (intro w; go_simp; try with_reducible rfl)
    try simp only [Act.put, List.setIfInBounds_toArray, List.set_cons_zero, List.set_cons_succ, List.getElem_toArray, List.getElem_cons_zero, List.getElem_cons_succ]
    refine wpAny_take (i := 13) (v := undef) rfl (by kernel_rfl) (by kernel_rfl) (by kernel_rfl) (fun _ _ _ h => h) (Or.inr ⟨by rfl, rfl⟩) ?_
    try simp only [Act.put, List.setIfInBounds_toArray, List.set_cons_zero, List.set_cons_succ, List.getElem_toArray, List.getElem_cons_zero, List.getElem_cons_succ]
    refine wpAny_take (i := 14) (v := undef) rfl (by kernel_rfl) (by kernel_rfl) (by kernel_rfl) (fun _ _ _ h => h) (Or.inr ⟨by rfl, rfl⟩) ?_
    try simp only [Act.put, List.setIfInBounds_toArray, List.set_cons_zero, List.set_cons_succ, List.getElem_toArray, List.getElem_cons_zero, List.getElem_cons_succ]
    refine wpAny_take (i := 15) (v := undef) rfl (by kernel_rfl) (by kernel_rfl) (by kernel_rfl) (fun _ _ _ h => h) (Or.inr ⟨by rfl, rfl⟩) ?_
    try simp only [Act.put, List.setIfInBounds_toArray, List.set_cons_zero, List.set_cons_succ, List.getElem_toArray, List.getElem_cons_zero, List.getElem_cons_succ]
    refine wpAny_take (i := 16) (v := ?_) rfl (by kernel_rfl) (by kernel_rfl) (by kernel_rfl) (fun _ _ _ h => h) (Or.inl ⟨by rfl, ?_⟩) ?_
    rotate_left 1
    · (intro w; go_simp; try with_reducible rfl)
    try simp only [Act.put, List.setIfInBounds_toArray, List.set_cons_zero, List.set_cons_succ, List.getElem_toArray, List.getElem_cons_zero, List.getElem_cons_succ]
    refine wpAny_take (i := 17) (v := ?_) rfl (by kernel_rfl) (by kernel_rfl) (by kernel_rfl) (fun _ _ _ h => h) (Or.inl ⟨by rfl, ?_⟩) ?_
    rotate_left 1
    · (intro w; go_simp; try with_reducible rfl)
    try simp only [Act.put, List.setIfInBounds_toArray, List.set_cons_zero, List.set_cons_succ, List.getElem_toArray, List.getElem_cons_zero, List.getElem_cons_succ]
    refine wpAny_done (by kernel_rfl) ?_ _
    rotate_left 1
    all_goals
      have BT := Lib.hid bT
      have BF := Lib.hid bF
      clear bT bF hbT hbF xT xF
      go_wp2
      go_ret
      exact ⟨ret_bool (by first | (rw [hr.out]; done) | (rw [hr.out]; exact decide_eq_false (by omega)) | (rw [hr.out]; simp; done) | (rw [hr.out]; simp; omega)), by first | exact BT.out | exact BF.out⟩
end Go.Proofs.Ytieljgfocgdngaa

/- IsFalling: the contracts as the law takes them. -/
namespace Go.Proofs.Ytieljgfocgdngaa
open Go.RowKit
set_option linter.unusedVariables false
set_option maxRecDepth 100000

set_option maxHeartbeats 1000000 in
theorem sIsFalling_k (L B : Nat) (A1 A2 : Option Addr) (c1 c2 : Nat) (fr to : List Nd) (s : ByteArray) (w : World) (hl1 : fr.length ≤ 1048576) (hl2 : to.length ≤ 1048576) (hl3 : s.size ≤ 1048576) (h1 : RS Nd.enc 4 w L B A1 fr) (h2 : RS Nd.enc 4 w L B A2 to) (hB : B ≤ w.heap.size) :
    Calls Try.prog 45 #[.agg #[.slice A1 fr.length c1, .slice A2 to.length c2, .string s]] w (ResIsFalling (fallR fr to s) (ruleOk fr to s) w) := by
  obtain ⟨W1, hW1⟩ : ∃ W1, W1 = w.alloc (.cells #[.slice A1 fr.length c1, .slice A2 to.length c2, .string s] 45) := ⟨_, rfl⟩
  have b1 : Hid (Below w.heap.size w W1) := by unfold Hid; rw [hW1]; exact (Below.refl _ _).alloc (Nat.le_refl _) _
  have x1 : Hid (RX 45 W1 w.heap.size (.slice A1 fr.length c1) (.slice A2 to.length c2) s) := by unfold Hid; rw [hW1]; exact rx_new _ _ _ _ _
  have HG := Lib.hid (ruGood_any L B A1 A2 c1 c2 fr to s W1 hl1 hl2 (h1.below b1.out hB).ns (h2.below b1.out hB).ns (Nat.le_trans hB b1.out.size))
  have HF := Lib.hid fun (W : World) (hW : Below w.heap.size w W) => ruFalling_any L B A1 A2 c1 c2 fr to s W hl1 hl2 (h1.below hW hB).ns (h2.below hW hB).ns (Nat.le_trans hB hW.size)
  obtain ⟨k0, k1, k2⟩ := x1.out.cells
  rw [hW1] at k0 k1 k2
  have e1 := Lib.hid hW1
  have hFR : Hid (fallR fr to s = (ruleOk fr to s && fallB fr to)) := rfl
  clear hW1 h1 h2
  cases hg : ruleOk fr to s
  · rw [hg] at HG hFR
    clear hg
    go_enter Try.func45, Try.ntmps45
    go_wp2_with (fail)
    rw [← e1.out]
    refine HG.out.mono ?_
    rintro e w2 ⟨rfl, hb⟩
    have b2 := Lib.hid (b1.out.trans (hb.mono b1.out.size))
    clear hb
    go_wp2
    go_ret2
    unfold ResIsFalling
    exact ⟨by rw [hFR.out]; rfl, b2.out⟩
  · rw [hg] at HG hFR
    clear hg
    go_enter Try.func45, Try.ntmps45
    go_wp2_with (fail)
    rw [← e1.out]
    refine HG.out.mono ?_
    rintro e w2 ⟨rfl, hb⟩
    have b2 := Lib.hid (b1.out.trans (hb.mono b1.out.size))
    have x2 := x1.out.next hb
    clear hb k0 k1 k2
    obtain ⟨k0, k1, k2⟩ := x2.cells
    go_wp2_with (fail)
    refine (HF.out w2 b2.out).mono ?_
    rintro e w3 ⟨rfl, hb⟩
    have b3 := Lib.hid (b2.out.trans (hb.mono b2.out.size))
    clear hb
    go_wp2
    go_ret2
    unfold ResIsFalling
    exact ⟨by rw [hFR.out]; rfl, b3.out⟩

set_option maxHeartbeats 4000000 in
theorem iIsFalling_any (L B : Nat) (A1 A2 : Option Addr) (c1 c2 : Nat) (fr to : List Nd) (s : ByteArray) (w : World) (hl1 : fr.length ≤ 1048576) (hl2 : to.length ≤ 1048576) (h1 : NS w L B A1 fr) (h2 : NS w L B A2 to) (hB : B ≤ w.heap.size) :
    Calls Try.prog 46 #[.agg #[.slice A1 fr.length c1, .slice A2 to.length c2, .string s]] w (ResIsFalling (fallR fr to s) (ruleOk fr to s) w) := by
  obtain ⟨W1, hW1⟩ : ∃ W1, W1 = w.alloc (.cells #[.slice A1 fr.length c1, .slice A2 to.length c2, .string s] 45) := ⟨_, rfl⟩
  have b1 : Hid (Below w.heap.size w W1) := by unfold Hid; rw [hW1]; exact (Below.refl _ _).alloc (Nat.le_refl _) _
  have x1 : Hid (RX 45 W1 w.heap.size (.slice A1 fr.length c1) (.slice A2 to.length c2) s) := by unfold Hid; rw [hW1]; exact rx_new _ _ _ _ _
  have HG := Lib.hid (iIsRule_any L B A1 A2 c1 c2 fr to s W1 hl1 hl2 (h1.below b1.out hB) (h2.below b1.out hB) (Nat.le_trans hB b1.out.size))
  have HT := Lib.hid fun (k : Int) (W : World) (hW : Below w.heap.size w W) => countInput_any L B A2 c2 to k W hl2 (h2.below hW hB) (Nat.le_trans hB hW.size)
  have HF := Lib.hid fun (k : Int) (W : World) (hW : Below w.heap.size w W) => countInput_any L B A1 c1 fr k W hl1 (h1.below hW hB) (Nat.le_trans hB hW.size)
  have HC1 := Lib.hid fun (W : World) (hW : Below w.heap.size w W) => iCostOfExpr_any L B A1 c1 fr W hl1 (h1.below hW hB) (Nat.le_trans hB hW.size)
  have HC2 := Lib.hid fun (W : World) (hW : Below w.heap.size w W) => iCostOfExpr_any L B A2 c2 to W hl2 (h2.below hW hB) (Nat.le_trans hB hW.size)
  obtain ⟨k0, k1, k2⟩ := x1.out.cells
  rw [hW1] at k0 k1 k2
  have e1 := Lib.hid hW1
  have hFR : Hid (fallR fr to s = (ruleOk fr to s && (decide (cost to < cost fr) && decide (cntIn to 0 ≤ cntIn fr 0) && decide (cntIn to 1 ≤ cntIn fr 1)))) := rfl
  clear hW1 h1 h2
  unfold ResIsRule at HG
  cases hg : ruleOk fr to s
  · rw [hg] at HG hFR
    clear hg
    go_enter Try.func46, Try.ntmps46
    go_wp2_with (fail)
    rw [← e1.out]
    refine HG.out.mono ?_
    rintro e w2 ⟨rfl, hb⟩
    have b2 := Lib.hid (b1.out.trans (hb.mono b1.out.size))
    clear hb
    go_wp2
    go_ret2
    unfold ResIsFalling
    exact ⟨by rw [hFR.out]; rfl, b2.out⟩
  · have hgg := ruleOk_good hg
    have hr1 : costR fr = cost fr := by unfold costR; rw [if_pos hgg.1]
    have hr2 : costR to = cost to := by unfold costR; rw [if_pos hgg.2]
    rw [hr1, hgg.1] at HC1
    rw [hr2, hgg.2] at HC2
    rw [hg] at HG hFR
    rw [Bool.true_and] at hFR
    clear hg hgg hr1 hr2
    go_enter Try.func46, Try.ntmps46
    go_wp2_with (fail)
    rw [← e1.out]
    refine HG.out.mono ?_
    rintro e w2 ⟨rfl, hb⟩
    have b2 := Lib.hid (b1.out.trans (hb.mono b1.out.size))
    have x2 := Lib.hid (x1.out.next hb)
    clear hb k0 k1 k2
    go_wp2
    go_loopw [12] (fun i wi => ∃ j : Nat, j ≤ 2 ∧ i = .int .i64 j ∧ (1 ≤ j → cntIn to 0 ≤ cntIn fr 0) ∧ (2 ≤ j → cntIn to 1 ≤ cntIn fr 1) ∧ RX 45 wi w.heap.size (.slice A1 fr.length c1) (.slice A2 to.length c2) s ∧ Below w.heap.size w wi) (fun i _ => 2 - (intOf i).toNat)
    case atStart => exact ⟨0, by omega, rfl, fun h => by omega, fun h => by omega, x2.out, b2.out⟩
    case round =>
      obtain ⟨j, hj, rfl, hh0, hh1, hx, hbel⟩ := hrel
      have H0 := Lib.hid hh0
      have H1 := Lib.hid hh1
      have X := Lib.hid hx
      have b3 := Lib.hid hbel
      clear hh0 hh1 hx hbel
      obtain ⟨k0, k1, k2⟩ := X.out.cells
      by_cases hlt : j < 2
      · have j0 : (0 : Int) ≤ (j : Int) := by omega
        have j2 : (j : Int) < 2 := by omega
        have hNext : Hid (cntIn to (j : Int) ≤ cntIn fr (j : Int) → (1 ≤ j + 1 → cntIn to 0 ≤ cntIn fr 0) ∧ (2 ≤ j + 1 → cntIn to 1 ≤ cntIn fr 1)) := by
          intro hor
          have : j = 0 ∨ j = 1 := by omega
          rcases this with rfl | rfl
          · exact ⟨fun _ => hor, fun h => by omega⟩
          · exact ⟨fun _ => H0.out (by omega), fun _ => hor⟩
        have hStop : Hid (¬ cntIn to (j : Int) ≤ cntIn fr (j : Int) → fallR fr to s = false) := by
          intro hn
          have : j = 0 ∨ j = 1 := by omega
          rcases this with rfl | rfl
          · rw [hFR.out, decide_eq_false (p := cntIn to 0 ≤ cntIn fr 0) hn]; simp
          · rw [hFR.out, decide_eq_false (p := cntIn to 1 ≤ cntIn fr 1) hn]; simp
        have HTj := Lib.hid fun W => HT.out (j : Int) W
        have HFj := Lib.hid fun W => HF.out (j : Int) W
        generalize cntIn to (j : Int) = p at *
        generalize cntIn fr (j : Int) = q at *
        by_cases hpq : p ≤ q
        · have hn := Lib.hid (hNext.out hpq)
          go_wp2_with (fail)
          go_region_held3 (fun w' => w'.cell? ⟨w.heap.size, 0, none⟩ = some (.slice A1 fr.length c1) ∧ w'.cell? ⟨w.heap.size, 1, none⟩ = some (.slice A2 to.length c2) ∧ w'.cell? ⟨w.heap.size, 2, none⟩ = some (.string s))
            (first | exact KT | exact KF | assumption | go_keep)
            (first
              | (go_at_call 90; (first | (with_reducible refine (HTj.out wF bF).mono ?_) | (with_reducible refine (HTj.out wr.drew b3.out.drew).mono ?_) | (with_reducible refine (HTj.out wr b3.out).mono ?_)); rintro e wT ⟨rfl, hbT⟩; have bT : Below w.heap.size w wT := (by first | exact bF.trans (hbT.mono bF.size) | exact b3.out.trans (hbT.mono b3.out.size) | exact b3.out.drew.trans (hbT.mono b3.out.size)); have xT : RX 45 wT w.heap.size (.slice A1 fr.length c1) (.slice A2 to.length c2) s := (by first | exact RX.next xF hbT | exact RX.next (w := wr.drew) X.out hbT | exact RX.next X.out hbT); have KT := xT.cells)
              | (go_at_call 90; (first | (with_reducible refine (HFj.out wT bT).mono ?_) | (with_reducible refine (HFj.out wr.drew b3.out.drew).mono ?_) | (with_reducible refine (HFj.out wr b3.out).mono ?_)); rintro e wF ⟨rfl, hbF⟩; have bF : Below w.heap.size w wF := (by first | exact bT.trans (hbF.mono bT.size) | exact b3.out.trans (hbF.mono b3.out.size) | exact b3.out.drew.trans (hbF.mono b3.out.size)); have xF : RX 45 wF w.heap.size (.slice A1 fr.length c1) (.slice A2 to.length c2) s := (by first | exact RX.next xT hbF | exact RX.next (w := wr.drew) X.out hbF | exact RX.next X.out hbF); have KF := xF.cells))
          all_goals
            have BT := Lib.hid bT
            have BF := Lib.hid bF
            have XT := Lib.hid xT
            have XF := Lib.hid xF
            clear bT bF hbT hbF xT xF KT KF
            go_wp2
          all_goals go_roundw
          case rel => exact ⟨j + 1, by omega, by go_num, hn.out.1, hn.out.2, by first | exact XT.out | exact XF.out, by first | exact BT.out | exact BF.out⟩
          case measure => simp [intOf]; omega
        · have hst := Lib.hid (hStop.out hpq)
          go_wp2_with (fail)
          go_region_held3 (fun w' => w'.cell? ⟨w.heap.size, 0, none⟩ = some (.slice A1 fr.length c1) ∧ w'.cell? ⟨w.heap.size, 1, none⟩ = some (.slice A2 to.length c2) ∧ w'.cell? ⟨w.heap.size, 2, none⟩ = some (.string s))
            (first | exact KT | exact KF | assumption | go_keep)
            (first
              | (go_at_call 90; (first | (with_reducible refine (HTj.out wF bF).mono ?_) | (with_reducible refine (HTj.out wr.drew b3.out.drew).mono ?_) | (with_reducible refine (HTj.out wr b3.out).mono ?_)); rintro e wT ⟨rfl, hbT⟩; have bT : Below w.heap.size w wT := (by first | exact bF.trans (hbT.mono bF.size) | exact b3.out.trans (hbT.mono b3.out.size) | exact b3.out.drew.trans (hbT.mono b3.out.size)); have xT : RX 45 wT w.heap.size (.slice A1 fr.length c1) (.slice A2 to.length c2) s := (by first | exact RX.next xF hbT | exact RX.next (w := wr.drew) X.out hbT | exact RX.next X.out hbT); have KT := xT.cells)
              | (go_at_call 90; (first | (with_reducible refine (HFj.out wT bT).mono ?_) | (with_reducible refine (HFj.out wr.drew b3.out.drew).mono ?_) | (with_reducible refine (HFj.out wr b3.out).mono ?_)); rintro e wF ⟨rfl, hbF⟩; have bF : Below w.heap.size w wF := (by first | exact bT.trans (hbF.mono bT.size) | exact b3.out.trans (hbF.mono b3.out.size) | exact b3.out.drew.trans (hbF.mono b3.out.size)); have xF : RX 45 wF w.heap.size (.slice A1 fr.length c1) (.slice A2 to.length c2) s := (by first | exact RX.next xT hbF | exact RX.next (w := wr.drew) X.out hbF | exact RX.next X.out hbF); have KF := xF.cells))
          all_goals
            have BT := Lib.hid bT
            have BF := Lib.hid bF
            clear bT bF hbT hbF xT xF KT KF
            go_wp2
            go_ret2
            unfold ResIsFalling
            exact ⟨by first | (rw [hst.out]; done) | (rw [hst.out]; rfl), by first | exact BT.out | exact BF.out⟩
      · obtain rfl : j = 2 := by omega
        have hFin : Hid (fallR fr to s = decide (cost to < cost fr)) := by
          rw [Hid, hFR.out, decide_eq_true (p := cntIn to 0 ≤ cntIn fr 0) (H0.out (by omega)), decide_eq_true (p := cntIn to 1 ≤ cntIn fr 1) (H1.out (by omega))]; simp
        generalize cost fr = p at *
        generalize cost to = q at *
        go_wp2_with (fail)
        refine (HC1.out wr b3.out).mono ?_
        rintro e w4 ⟨rfl, hb⟩
        have b4 := Lib.hid (b3.out.trans (hb.mono b3.out.size))
        have x4 := Lib.hid (X.out.next hb)
        clear hb k0 k1 k2
        obtain ⟨k0, k1, k2⟩ := x4.out.cells
        go_wp2_with (fail)
        refine (HC2.out w4 b4.out).mono ?_
        rintro e w5 ⟨rfl, hb⟩
        have b5 := Lib.hid (b4.out.trans (hb.mono b4.out.size))
        clear hb
        go_wp2
        go_ret2
        unfold ResIsFalling
        exact ⟨by first | (rw [hFin.out]; done) | (rw [hFin.out]; rfl), b5.out⟩
theorem iIsFalling_k (L B : Nat) (A1 A2 : Option Addr) (c1 c2 : Nat) (fr to : List Nd) (s : ByteArray) (w : World) (hl1 : fr.length ≤ 1048576) (hl2 : to.length ≤ 1048576) (hl3 : s.size ≤ 1048576) (h1 : RS Nd.enc 4 w L B A1 fr) (h2 : RS Nd.enc 4 w L B A2 to) (hB : B ≤ w.heap.size) (hc1 : fr.length ≤ c1) (hc2 : to.length ≤ c2) :
    Calls Try.prog 46 #[.agg #[.slice A1 fr.length c1, .slice A2 to.length c2, .string s]] w (ResIsFalling (fallR fr to s) (ruleOk fr to s) w) := iIsFalling_any L B A1 A2 c1 c2 fr to s w hl1 hl2 h1.ns h2.ns hB
end Go.Proofs.Ytieljgfocgdngaa
