import Derived.Test.YtaaloepoegehkaaCG
import Derived.WalkKit
import Derived.WalkSpells
import Derived.WalkLawsBesides
import Derived.Lib.Hide
namespace Go.Proofs.Ytaaloepoegehkaa
open Go.RowKit
set_option linter.unusedVariables false
set_option maxRecDepth 100000

theorem isNoWord_any (n : Int) (w : World) :
    Calls Try.prog 114 #[.int .i64 n] w fun e w' => e = .returned (.bool (!isW n)) ∧ w = w' := by
  go_enter Try.func114, Try.ntmps114
  go_wp2_with (go_at_call 137; refine (isWord_any _ _).mono ?_; rintro e w' ⟨rfl, rfl⟩)
  go_ret
  exact ⟨rfl, rfl⟩
def SomeIdxN (xs : List Int) (w : World) (e : Ending) (w' : World) : Prop := ∃ k : Int, e = .returned (.int .i64 k) ∧ decide (0 ≤ k) = !allIn xs 0 63 ∧ w = w'
theorem IndexFuncN_any (L B : Nat) (A : Option Addr) (c : Nat) (xs : List Int) (w : World) (hl : xs.length ≤ 1048576) (hx : IS w L B A xs) :
    Calls Try.prog 181 #[.slice A xs.length c, .func (.func 114) #[] #[]] w (SomeIdxN xs w) := by
  have hX := Lib.hid hx; clear hx
  go_enter Try.func181, Try.ntmps181
  go_wp2
  go_loop [5, 8] (fun _ i => ∃ k : Nat, k ≤ xs.length ∧ i = .int .i64 k ∧ allIn (xs.take k) 0 63 = true) (fun _ i => xs.length - (intOf i).toNat)
  case atStart => exact ⟨0, Nat.zero_le _, rfl, rfl⟩
  case round =>
    obtain ⟨k, hk, rfl, hh⟩ := hrel
    have hH := Lib.hid hh; clear hh
    by_cases hlt : k < xs.length
    · obtain ⟨b, o, rfl, _, hc⟩ := hX.out (by omega)
      have hcell := hc k hlt
      clear hc
      have hS := Lib.hid (allIn_snoc (lo := 0) (hi := 63) hlt)
      generalize xs[k] = x at *
      have hW : Hid (isW x = inR x 0 63) := rfl
      cases hb : isW x
      · have hF : Hid (allIn xs 0 63 = false) := allIn_of (k := k + 1) (by rw [hS.out, ← hW.out, hb]; simp)
        go_wp2_with (go_at_call 114; refine (isNoWord_any _ _).mono ?_; rintro e w' ⟨rfl, rfl⟩)
        go_ret
        exact ⟨k, rfl, by rw [hF.out]; simp, rfl⟩
      · have hb' := Lib.hid hb
        go_wp2_with (go_at_call 114; refine (isNoWord_any _ _).mono ?_; rintro e w' ⟨rfl, rfl⟩)
        go_round
        case rel => exact ⟨k + 1, by omega, by go_num, by rw [hS.out, hH.out, ← hW.out, hb'.out]; rfl⟩
        case measure => simp [intOf]; omega
    · obtain rfl : k = xs.length := by omega
      go_wp2
      go_ret
      exact ⟨-1, rfl, by have := hH.out; rw [List.take_length] at this; rw [this]; rfl, rfl⟩
theorem ContainsFuncN_any (L B : Nat) (A : Option Addr) (c : Nat) (xs : List Int) (w : World) (hl : xs.length ≤ 1048576) (hx : IS w L B A xs) :
    Calls Try.prog 113 #[.slice A xs.length c, .func (.func 114) #[] #[]] w fun e w' => e = .returned (.bool (!allIn xs 0 63)) ∧ w = w' := by
  have H := Lib.hid (IndexFuncN_any L B A c xs w hl hx); clear hx
  go_enter Try.func113, Try.ntmps113
  go_wp2_with (fail)
  refine H.out.mono ?_
  rintro e w' ⟨k, rfl, hk, rfl⟩
  have hK := Lib.hid hk; clear hk
  go_wp2
  go_ret
  exact ⟨ret_bool hK.out, rfl⟩
end Go.Proofs.Ytaaloepoegehkaa
