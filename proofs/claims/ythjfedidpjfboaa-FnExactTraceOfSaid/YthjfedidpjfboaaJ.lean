import Derived.Test.YthjfedidpjfboaaG
import Derived.WalkKit
import Derived.WalkSpells
import Derived.WalkLawsBesides
import Derived.Lib.Hide
namespace Go.Proofs.Ythjfedidpjfboaa
open Go.RowKit
set_option linter.unusedVariables false

theorem good_len {es : List Nd} (h : good es = true) : 1 ≤ es.length ∧ es.length ≤ 24 ∧ okFrom es 0 = true := by
  simp only [good, Bool.and_eq_true, decide_eq_true_eq] at h
  exact ⟨h.1.1.1, h.1.1.2, h.1.2⟩

/-! ### CountOps -/
def isOpN (n : Nd) : Bool := isOp n.op
theorem isOpN_ar (n : Nd) : isOpN n = decide (0 < ar n.op) := by
  rcases ar_cases n.op with ⟨h, h3, h4⟩|⟨h, h3, h4⟩|⟨h, h3, h4⟩|⟨h, h3, h4⟩ <;> simp [isOpN, isOp, h, h3, h4]
theorem isOpN_parts (n : Nd) : isOpN n = decide (0 < (parts n).length) := by
  unfold parts isOpN isOp
  cases h1 : isOne n.op <;> cases h2 : isTwo n.op <;> simp
def cntAt (es : List Nd) (k : Nat) : Int := ((es.take k).filter isOpN).length
def cnt (es : List Nd) : Int := cntAt es es.length
theorem cntAt_succ {es : List Nd} {k : Nat} (h : k < es.length) : cntAt es (k + 1) = cntAt es k + if isOpN es[k] = true then 1 else 0 := by
  unfold cntAt; rw [List.take_succ_eq_append_getElem h, List.filter_append, List.length_append]
  cases h1 : isOpN es[k] <;> simp [h1]
theorem cntAt_bd (es : List Nd) (k : Nat) : 0 ≤ cntAt es k ∧ cntAt es k ≤ k := by
  unfold cntAt
  have h1 := List.length_filter_le isOpN (es.take k)
  have h2 : (es.take k).length ≤ k := List.length_take_le _ _
  omega
def cntR (es : List Nd) : Int := if good es = true then cnt es else 0

def allR (xs : List Int) (lo hi : Int) : Bool := xs.all fun x => inR x lo hi
theorem allR_take {xs : List Int} {lo hi : Int} {k : Nat} (h : k < xs.length) : allR (xs.take (k + 1)) lo hi = (allR (xs.take k) lo hi && inR xs[k] lo hi) := by
  unfold allR; rw [List.take_succ_eq_append_getElem h, List.all_append]; simp
theorem allR_of_take {xs : List Int} {lo hi : Int} {k : Nat} (h : allR (xs.take k) lo hi = false) : allR xs lo hi = false := by
  cases hh : allR xs lo hi
  · rfl
  · exfalso
    unfold allR at h hh
    rw [List.all_eq_true] at hh
    rw [List.all_eq_false] at h
    obtain ⟨x, hx, h⟩ := h
    exact h (hh x (List.mem_of_mem_take hx))
def tree (es : List Nd) : Bool := allR (uses es) 0 1
def treeR (es : List Nd) : Bool := good es && tree es

theorem l1AllR_any (L B : Nat) (A : Option Addr) (m c : Nat) (xs : List Int) (lo hi : Int) (w : World) (hm : m = xs.length) (hl : xs.length ≤ 1000000) (hx : IS w L B A xs) :
    Calls Try.prog 80 #[.slice A m c, .int .i64 lo, .int .i64 hi] w fun e w' => e = .returned (.bool (allR xs lo hi)) ∧ w = w' := by
  subst hm
  have hX := Lib.hid hx; clear hx
  go_enter Try.func80, Try.ntmps80
  go_wp2
  go_loop [8, 11] (fun _ i => ∃ k : Nat, k ≤ xs.length ∧ i = .int .i64 k ∧ allR (xs.take k) lo hi = true) (fun _ i => xs.length - (intOf i).toNat)
  case atStart => exact ⟨0, Nat.zero_le _, rfl, rfl⟩
  case round =>
    obtain ⟨k, hk, rfl, hh⟩ := hrel
    have hH := Lib.hid hh; clear hh
    by_cases hlt : k < xs.length
    · obtain ⟨b, o, rfl, _, hc⟩ := hX.out (by omega)
      have hcell := hc k hlt
      clear hc
      have hS := Lib.hid (allR_take (lo := lo) (hi := hi) hlt)
      generalize xs[k] = x at *
      cases hr : inR x lo hi
      · have hF : Hid (allR xs lo hi = false) := allR_of_take (k := k + 1) (by rw [hS.out, hr]; simp)
        go_wp2_with (go_at_call 137; refine (l1In_r _ _ _ _).mono ?_; rintro e w' ⟨rfl, rfl⟩)
        go_ret
        exact ⟨ret_bool hF.out.symm, rfl⟩
      · have hR := Lib.hid hr
        go_wp2_with (go_at_call 137; refine (l1In_r _ _ _ _).mono ?_; rintro e w' ⟨rfl, rfl⟩)
        go_round
        case rel => exact ⟨k + 1, by omega, by go_num, by rw [hS.out, hH.out, hR.out]; rfl⟩
        case measure => simp [intOf]; omega
    · obtain rfl : k = xs.length := by omega
      go_wp2
      go_ret
      exact ⟨ret_bool (by have := hH.out; rw [List.take_length] at this; rw [this]), rfl⟩

end Go.Proofs.Ythjfedidpjfboaa
