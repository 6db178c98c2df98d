import Derived.Test.YthjfedidpjfboaaCG
import Derived.WalkKit
import Derived.WalkSpells
import Derived.WalkLawsBesides
import Derived.Lib.Hide
namespace Go.Proofs.Ythjfedidpjfboaa
open Go.RowKit
set_option linter.unusedVariables false
set_option maxRecDepth 100000

theorem isNoWord_any (n : Int) (w : World) :
    Calls Try.prog 135 #[.int .i64 n] w fun e w' => e = .returned (.bool (!isW n)) ∧ w = w' := by
  go_enter Try.func135, Try.ntmps135
  go_wp2_with (go_at_call 160; refine (isWord_any _ _).mono ?_; rintro e w' ⟨rfl, rfl⟩)
  go_ret
  exact ⟨rfl, rfl⟩
def SomeIdxN (xs : List Int) (w : World) (e : Ending) (w' : World) : Prop := ∃ k : Int, e = .returned (.int .i64 k) ∧ decide (0 ≤ k) = !allIn xs 0 63 ∧ w = w'
theorem IndexFuncN_any (L B : Nat) (A : Option Addr) (c : Nat) (xs : List Int) (w : World) (hl : xs.length ≤ 1048576) (hx : IS w L B A xs) :
    Calls Try.prog 171 #[.slice A xs.length c, .func (.func 135) #[] #[]] w (SomeIdxN xs w) := by
  have hX := Lib.hid hx; clear hx
  go_enter Try.func171, Try.ntmps171
  go_wp2
  go_loop [5, 8] (fun _ i => ∃ k : Nat, k ≤ xs.length ∧ i = .int .i64 k ∧ allIn (xs.take k) 0 63 = true) (fun _ i => xs.length - (intOf i).toNat)
  case atStart => exact ⟨0, Nat.zero_le _, rfl, rfl⟩
  case round =>
    obtain ⟨k, hk, rfl, hh⟩ := hrel
    have hH := Lib.hid hh; clear hh
    by_cases hlt : k < xs.length
    · obtain ⟨b, o, rfl, _, hc⟩ := hX.out (by omega)
      have hcell := hc k hlt
      clear hc
      have hS := Lib.hid (allIn_snoc (lo := 0) (hi := 63) hlt)
      generalize xs[k] = x at *
      have hW : Hid (isW x = inR x 0 63) := rfl
      cases hb : isW x
      · have hF : Hid (allIn xs 0 63 = false) := allIn_of (k := k + 1) (by rw [hS.out, ← hW.out, hb]; simp)
        go_wp2_with (go_at_call 135; refine (isNoWord_any _ _).mono ?_; rintro e w' ⟨rfl, rfl⟩)
        go_ret
        exact ⟨k, rfl, by rw [hF.out]; simp, rfl⟩
      · have hb' := Lib.hid hb
        go_wp2_with (go_at_call 135; refine (isNoWord_any _ _).mono ?_; rintro e w' ⟨rfl, rfl⟩)
        go_round
        case rel => exact ⟨k + 1, by omega, by go_num, by rw [hS.out, hH.out, ← hW.out, hb'.out]; rfl⟩
        case measure => simp [intOf]; omega
    · obtain rfl : k = xs.length := by omega
      go_wp2
      go_ret
      exact ⟨-1, rfl, by have := hH.out; rw [List.take_length] at this; rw [this]; rfl, rfl⟩
theorem ContainsFuncN_any (L B : Nat) (A : Option Addr) (c : Nat) (xs : List Int) (w : World) (hl : xs.length ≤ 1048576) (hx : IS w L B A xs) :
    Calls Try.prog 134 #[.slice A xs.length c, .func (.func 135) #[] #[]] w fun e w' => e = .returned (.bool (!allIn xs 0 63)) ∧ w = w' := by
  have H := Lib.hid (IndexFuncN_any L B A c xs w hl hx); clear hx
  go_enter Try.func134, Try.ntmps134
  go_wp2_with (fail)
  refine H.out.mono ?_
  rintro e w' ⟨k, rfl, hk, rfl⟩
  have hK := Lib.hid hk; clear hk
  go_wp2
  go_ret
  exact ⟨ret_bool hK.out, rfl⟩
theorem areWords_any (L B : Nat) (A : Option Addr) (c : Nat) (xs : List Int) (w : World) (hl : xs.length ≤ 1048576) (hx : IS w L B A xs) :
    Calls Try.prog 105 #[.slice A xs.length c] w fun e w' => e = .returned (.bool (regsOk xs)) ∧ w = w' := by
  have H := Lib.hid (ContainsFuncN_any L B A c xs w hl hx); clear hx
  by_cases h6 : xs.length = 6
  · have hR : Hid (regsOk xs = allIn xs 0 63) := by simp [Hid, regsOk, h6]
    have h6' : ((xs.length : Int) == 6) = true := by simp; omega
    have h6'' : decide ((xs.length : Int) = 6) = true := by simp; omega
    clear h6
    go_enter Try.func105, Try.ntmps105
    go_wp2_with (fail)
    refine H.out.mono ?_
    rintro e w' ⟨rfl, rfl⟩
    go_wp2
    go_ret
    exact ⟨ret_bool (by rw [hR.out]; first | done | simp), rfl⟩
  · have hR : Hid (regsOk xs = false) := by simp [Hid, regsOk, h6]
    have h6' : ((xs.length : Int) == 6) = false := by simp; omega
    have h6'' : decide ((xs.length : Int) = 6) = false := by simp; omega
    clear h6
    go_enter Try.func105, Try.ntmps105
    go_wp2
    go_ret
    exact ⟨ret_bool hR.out.symm, rfl⟩
end Go.Proofs.Ythjfedidpjfboaa
