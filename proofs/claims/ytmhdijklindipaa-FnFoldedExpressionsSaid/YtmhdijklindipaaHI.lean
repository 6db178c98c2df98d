import Derived.Test.YtmhdijklindipaaRows
import Derived.Test.YtmhdijklindipaaN
import Derived.WalkKit
import Derived.WalkSpells
import Derived.WalkLawsBesides
import Derived.Lib.Hide
namespace Go.Proofs.Ytmhdijklindipaa
open Go.RowKit
set_option linter.unusedVariables false

/-- l1Has and slices.Contains over a slice of ints. -/
def hasI (xs : List Int) (n : Int) : Bool := xs.any fun x => x == n
theorem hasI_snoc {xs : List Int} {n : Int} {k : Nat} (hlt : k < xs.length) : hasI (xs.take (k+1)) n = (hasI (xs.take k) n || (xs[k] == n)) := by
  unfold hasI; rw [List.take_succ_eq_append_getElem hlt, List.any_append]; simp
theorem hasI_of {xs : List Int} {n : Int} {k : Nat} (h : hasI (xs.take k) n = true) : hasI xs n = true := by
  unfold hasI at *; rw [List.any_eq_true] at h ⊢; obtain ⟨x, hx, h⟩ := h; exact ⟨x, List.mem_of_mem_take hx, h⟩

theorem l1Has_any (L B : Nat) (A : Option Addr) (c : Nat) (xs : List Int) (n : Int) (w : World) (hl : xs.length ≤ 1000000) (hx : IS w L B A xs) :
    Calls Try.prog 179 #[.slice A xs.length c, .int .i64 n] w fun e w' => e = .returned (.bool (hasI xs n)) ∧ w = w' := by
  have hX := Lib.hid hx; clear hx
  go_enter Try.func179, Try.ntmps179
  go_wp2
  go_loop [6, 9] (fun _ i => ∃ k : Nat, k ≤ xs.length ∧ i = .int .i64 k ∧ hasI (xs.take k) n = false) (fun _ i => xs.length - (intOf i).toNat)
  case atStart => exact ⟨0, Nat.zero_le _, rfl, rfl⟩
  case round =>
    obtain ⟨k, hk, rfl, hh⟩ := hrel
    have hH := Lib.hid hh; clear hh
    by_cases hlt : k < xs.length
    · obtain ⟨b, o, rfl, _, hc⟩ := hX.out (by omega)
      have hcell := hc k hlt
      clear hc
      have hS := Lib.hid (hasI_snoc (n := n) hlt)
      go_wp2
      · go_ret
        exact ⟨ret_bool (hasI_of (k := k + 1) (by rw [hS.out, hH.out]; simp [*])).symm, rfl⟩
      · go_round
        case rel => exact ⟨k + 1, by omega, by go_num, by rw [hS.out, hH.out]; simp [*]⟩
        case measure => simp [intOf]; omega
    · obtain rfl : k = xs.length := by omega
      go_wp2
      go_ret
      exact ⟨ret_bool (by have := hH.out; rw [List.take_length] at this; rw [this]), rfl⟩

def SomeIdx (xs : List Int) (n : Int) (w : World) (e : Ending) (w' : World) : Prop := ∃ k : Int, e = .returned (.int .i64 k) ∧ decide (0 ≤ k) = hasI xs n ∧ w = w'
theorem Index_any (L B : Nat) (A : Option Addr) (c : Nat) (xs : List Int) (n : Int) (w : World) (hl : xs.length ≤ 1000000) (hx : IS w L B A xs) :
    Calls Try.prog 229 #[.slice A xs.length c, .int .i64 n] w (SomeIdx xs n w) := by
  have hX := Lib.hid hx; clear hx
  go_enter Try.func229, Try.ntmps229
  go_wp2
  go_loop [5, 8] (fun _ i => ∃ k : Nat, k ≤ xs.length ∧ i = .int .i64 k ∧ hasI (xs.take k) n = false) (fun _ i => xs.length - (intOf i).toNat)
  case atStart => exact ⟨0, Nat.zero_le _, rfl, rfl⟩
  case round =>
    obtain ⟨k, hk, rfl, hh⟩ := hrel
    have hH := Lib.hid hh; clear hh
    by_cases hlt : k < xs.length
    · obtain ⟨b, o, rfl, _, hc⟩ := hX.out (by omega)
      have hcell := hc k hlt
      clear hc
      have hS := Lib.hid (hasI_snoc (n := n) hlt)
      go_wp2
      · go_ret
        refine ⟨k, rfl, ?_, rfl⟩
        have : hasI xs n = true := hasI_of (k := k + 1) (by rw [hS.out, hH.out]; simp_all <;> omega)
        rw [this]; simp
      · go_round
        case rel => exact ⟨k + 1, by omega, by go_num, by rw [hS.out, hH.out]; simp_all <;> omega⟩
        case measure => simp [intOf]; omega
    · obtain rfl : k = xs.length := by omega
      go_wp2
      go_ret
      exact ⟨-1, rfl, by have := hH.out; rw [List.take_length] at this; rw [this]; rfl, rfl⟩
theorem Contains_any (L B : Nat) (A : Option Addr) (c : Nat) (xs : List Int) (n : Int) (w : World) (hl : xs.length ≤ 1000000) (hx : IS w L B A xs) :
    Calls Try.prog 123 #[.slice A xs.length c, .int .i64 n] w fun e w' => e = .returned (.bool (hasI xs n)) ∧ w = w' := by
  have H := Lib.hid (Index_any L B A c xs n w hl hx); clear hx
  go_enter Try.func123, Try.ntmps123
  go_wp2_with (fail)
  refine H.out.mono ?_
  rintro e w' ⟨k, rfl, hk, rfl⟩
  have hK := Lib.hid hk; clear hk
  go_wp2
  go_ret
  exact ⟨ret_bool hK.out, rfl⟩

theorem l1Has_eq (L B : Nat) (A : Option Addr) (m c : Nat) (xs : List Int) (n : Int) (w : World) (hm : m = xs.length) (hl : xs.length ≤ 1000000) (hx : IS w L B A xs) :
    Calls Try.prog 179 #[.slice A m c, .int .i64 n] w fun e w' => e = .returned (.bool (hasI xs n)) ∧ w = w' := by
  subst hm; exact l1Has_any L B A c xs n w hl hx
theorem Contains_eq (L B : Nat) (A : Option Addr) (m c : Nat) (xs : List Int) (n : Int) (w : World) (hm : m = xs.length) (hl : xs.length ≤ 1000000) (hx : IS w L B A xs) :
    Calls Try.prog 123 #[.slice A m c, .int .i64 n] w fun e w' => e = .returned (.bool (hasI xs n)) ∧ w = w' := by
  subst hm; exact Contains_any L B A c xs n w hl hx
end Go.Proofs.Ytmhdijklindipaa
