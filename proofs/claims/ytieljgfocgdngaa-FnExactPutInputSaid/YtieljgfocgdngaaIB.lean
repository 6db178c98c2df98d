import Derived.Test.YtieljgfocgdngaaTM
import Derived.Test.YtieljgfocgdngaaK2
import Derived.Outline
namespace Go.Proofs.Ytieljgfocgdngaa
open Go.RowKit
set_option linter.unusedVariables false
set_option maxRecDepth 100000

theorem hasInput1_any (s : ByteArray) (a b v k : Int) (bk : Nat) (w : World) (hc : w.cell? ⟨bk, 0, none⟩ = some (.int .i64 k)) (hbk : bk < w.heap.size) :
    Calls Try.prog 109 #[.agg #[.string s, .int .i64 a, .int .i64 b, .int .i64 v], .pointer (some ⟨bk, 0, none⟩)] w fun e w' => e = .returned (.bool (isInp ⟨s, a, b, v⟩ k)) ∧ Below w.heap.size w w' := by
  have hB1 := Lib.hid (fun o => (Below.refl w.heap.size w).alloc (Nat.le_refl _) o)
  go_enter Try.func109, Try.ntmps109
  go_wp2_with (fail)
  refine (isInput_any _ _ _ _ _ _).mono ?_
  rintro e w2 ⟨rfl, hb⟩
  have hb2 := Lib.hid ((hB1.out _).trans (hb.mono (by simp)))
  clear hb
  go_wp2
  go_ret
  exact ⟨rfl, hb2.out⟩
theorem hasIn_of {es : List Nd} {k : Int} {j : Nat} (h : hasIn (es.take j) k = true) : hasIn es k = true := by
  unfold hasIn at *
  rw [List.any_eq_true] at *
  obtain ⟨x, hx, hp⟩ := h
  exact ⟨x, List.mem_of_mem_take hx, hp⟩
def SomeIn (es : List Nd) (k : Int) (w : World) (e : Ending) (w' : World) : Prop := ∃ j : Int, e = .returned (.int .i64 j) ∧ decide (0 ≤ j) = hasIn es k ∧ Below w.heap.size w w'
set_option maxHeartbeats 1000000 in
theorem IndexFuncH_any (L B : Nat) (A : Option Addr) (c : Nat) (es : List Nd) (k : Int) (bk : Nat) (w : World) (hl : es.length ≤ 1048576) (hes : NS w L B A es) (hB : B ≤ w.heap.size) (hc : w.cell? ⟨bk, 0, none⟩ = some (.int .i64 k)) (hbk : bk < w.heap.size) :
    Calls Try.prog 135 #[.slice A es.length c, .func (.func 109) #[] #[.pointer (some ⟨bk, 0, none⟩)]] w (SomeIn es k w) := by
  have hE := Lib.hid hes
  have hBB := Lib.hid hB
  have hC := Lib.hid (And.intro hc hbk)
  have hBel0 := Below.refl w.heap.size w
  clear hes hB hc hbk
  go_enter Try.func135, Try.ntmps135
  go_wp2
  go_loopw [5, 8] (fun _ i wr => ∃ j : Nat, j ≤ es.length ∧ i = .int .i64 j ∧ hasIn (es.take j) k = false ∧ Below w.heap.size w wr) (fun _ i _ => es.length - (intOf i).toNat)
  case atStart => exact ⟨0, Nat.zero_le _, rfl, rfl, hBel0⟩
  case round =>
    obtain ⟨j, hj, rfl, hno, hbel⟩ := hrel
    have hNo := Lib.hid hno
    have hBL := Lib.hid hbel
    clear hno
    by_cases hlt : j < es.length
    · obtain ⟨b, o, rfl, ⟨_, hbB⟩, hcc⟩ := (hE.out.below hbel hBB.out) (by omega)
      obtain ⟨c1, c2, c3, c4⟩ := hcc j hlt
      have hck := Lib.hid ((hbel.cell (p := ⟨bk, 0, none⟩) hC.out.2).trans hC.out.1)
      have hbk2 := Lib.hid (Nat.lt_of_lt_of_le hC.out.2 hbel.size)
      clear hcc hbel
      have hS := Lib.hid (hasIn_snoc hlt k)
      have hOf := Lib.hid (fun h => hasIn_of (es := es) (k := k) (j := j + 1) h)
      generalize es[j] = nd at *
      obtain ⟨s, a, bb, v⟩ := nd
      have hcl := Lib.hid (hasInput1_any s a bb v k bk wr hck.out hbk2.out)
      cases hp : isInp ⟨s, a, bb, v⟩ k
      · rw [hp] at hcl
        have hx : Hid (hasIn (es.take (j + 1)) k = false) := by rw [Hid, hS.out, hNo.out, hp]; rfl
        clear hp
        go_wp2_with (go_at_call 109; (with_reducible refine hcl.out.mono ?_); rintro e w3 ⟨rfl, hb3⟩)
        have hB3 := Lib.hid (hBL.out.trans (hb3.mono hBL.out.size))
        clear hb3
        go_roundw
        case rel => exact ⟨j + 1, by omega, by go_num, hx.out, hB3.out⟩
        case measure => simp [intOf]; omega
      · rw [hp] at hcl
        have hx : Hid (hasIn es k = true) := hOf.out (by rw [hS.out, hp]; simp)
        clear hp
        go_wp2_with (go_at_call 109; (with_reducible refine hcl.out.mono ?_); rintro e w3 ⟨rfl, hb3⟩)
        have hB3 := Lib.hid (hBL.out.trans (hb3.mono hBL.out.size))
        clear hb3
        go_ret
        exact ⟨j, rfl, by rw [hx.out]; simp, hB3.out⟩
    · obtain rfl : j = es.length := by omega
      go_wp2
      go_ret
      exact ⟨-1, rfl, by have := hNo.out; rw [List.take_length] at this; rw [this]; rfl, hbel⟩
theorem ContainsFuncH_any (L B : Nat) (A : Option Addr) (c : Nat) (es : List Nd) (k : Int) (bk : Nat) (w : World) (hl : es.length ≤ 1048576) (hes : NS w L B A es) (hB : B ≤ w.heap.size) (hc : w.cell? ⟨bk, 0, none⟩ = some (.int .i64 k)) (hbk : bk < w.heap.size) :
    Calls Try.prog 108 #[.slice A es.length c, .func (.func 109) #[] #[.pointer (some ⟨bk, 0, none⟩)]] w fun e w' => e = .returned (.bool (hasIn es k)) ∧ Below w.heap.size w w' := by
  have H := Lib.hid (IndexFuncH_any L B A c es k bk w hl hes hB hc hbk)
  clear hes hB hc hbk
  go_enter Try.func108, Try.ntmps108
  go_wp2_with (fail)
  refine H.out.mono ?_
  rintro e w' ⟨j, rfl, hk, hb⟩
  have hK := Lib.hid hk; clear hk
  go_wp2
  go_ret
  exact ⟨ret_bool hK.out, hb⟩
theorem hasInput_any (L B : Nat) (A : Option Addr) (c : Nat) (es : List Nd) (k : Int) (w : World) (hl : es.length ≤ 1048576) (hes : NS w L B A es) (hB : B ≤ w.heap.size) :
    Calls Try.prog 70 #[.slice A es.length c, .int .i64 k] w fun e w' => e = .returned (.bool (hasIn es k)) ∧ Below w.heap.size w w' := by
  have hb1 := Lib.hid ((Below.refl w.heap.size w).alloc (Nat.le_refl _) (.cells #[.int .i64 k] 3))
  have H := Lib.hid (ContainsFuncH_any L B A c es k w.heap.size (w.alloc (.cells #[.int .i64 k] 3)) hl (hes.below hb1.out hB) (Nat.le_trans hB hb1.out.size) (by simp) (by simp))
  clear hes hB
  go_enter Try.func70, Try.ntmps70
  go_wp2_with (fail)
  refine H.out.mono ?_
  rintro e w' ⟨rfl, hb⟩
  have hb2 := Lib.hid (hb1.out.trans (hb.mono hb1.out.size))
  clear hb
  go_wp2
  go_ret
  exact ⟨rfl, hb2.out⟩
end Go.Proofs.Ytieljgfocgdngaa
