import Derived.Test.YtmhdijklindipaaCA
import Derived.WalkKit
import Derived.WalkSpells
import Derived.WalkLawsBesides
import Derived.Lib.Hide
namespace Go.Proofs.Ytmhdijklindipaa
open Go.RowKit

theorem l1In_any (n lo hi : Int) (w : World) :
    Calls Try.prog 169 #[.int .i64 n, .int .i64 lo, .int .i64 hi] w fun e w' => e = .returned (.bool (decide (lo ≤ n) && decide (n ≤ hi))) ∧ w = w' := by
  by_cases h1 : lo ≤ n
  · by_cases h2 : n ≤ hi
    all_goals
      go_enter Try.func169, Try.ntmps169
      go_wp2
      go_ret
      exact ⟨by simp [*], rfl⟩
  · go_enter Try.func169, Try.ntmps169
    go_wp2
    go_ret
    exact ⟨by simp; omega, rfl⟩

theorem exOne_any (s : ByteArray) (w : World) :
    Calls Try.prog 127 #[.string s] w fun e w' => e = .returned (.bool (isOne s)) ∧ w = w' := by
  unfold isOne
  go_enter Try.func127, Try.ntmps127
  go_wp2
  all_goals go_ret
  all_goals exact ⟨by simp [*], rfl⟩

theorem exWord_any (n : Int) (w : World) :
    Calls Try.prog 118 #[.int .i64 n] w fun e w' => e = .returned (.bool (decide (0 ≤ n) && decide (n ≤ 63))) ∧ w = w' := by
  go_enter Try.func118, Try.ntmps118
  go_wp2_with (go_at_call 169; refine (l1In_any _ _ _ _).mono ?_; rintro e w' ⟨rfl, rfl⟩)
  go_ret
  exact ⟨by simp, rfl⟩

set_option maxHeartbeats 4000000 in
theorem operandCount_any (s : ByteArray) (w : World) :
    Calls Try.prog 130 #[.string s] w fun e w' => e = .returned (.int .i64 (ar s)) ∧ w = w' := by
  have H0 : ∀ k : Int, (ar s = k) → Hid (ar s = k) := fun _ h => h
  rcases op_cases s with h|h|h|h|h|h|h|h|h|h|h|h|h|h|h
  · have H := H0 0 (by simp [ar, isIn, isConst, h]); clear H0
    go_enter Try.func130, Try.ntmps130
    go_wp2
    go_ret
    exact ⟨by rw [H.out]; rfl, rfl⟩
  · have H := H0 0 (by simp [ar, isIn, isConst, h]); clear H0
    go_enter Try.func130, Try.ntmps130
    go_wp2
    go_ret
    exact ⟨by rw [H.out]; rfl, rfl⟩
  · have H := H0 1 (by simp [ar, isIn, isConst, isOne, h]); clear H0
    go_enter Try.func130, Try.ntmps130
    go_wp2
    go_ret
    exact ⟨by rw [H.out]; rfl, rfl⟩
  · have H := H0 1 (by simp [ar, isIn, isConst, isOne, h]); clear H0
    go_enter Try.func130, Try.ntmps130
    go_wp2
    go_ret
    exact ⟨by rw [H.out]; rfl, rfl⟩
  · have H := H0 2 (by simp [ar, isIn, isConst, isOne, isTwo, twoOps, h]); clear H0
    go_enter Try.func130, Try.ntmps130
    go_wp2
    go_ret
    exact ⟨by rw [H.out]; rfl, rfl⟩
  iterate 9
    · have H := H0 2 (by simp [ar, isIn, isConst, isOne, isTwo, twoOps, h]); clear H0
      go_enter Try.func130, Try.ntmps130
      go_wp2
      go_ret
      exact ⟨by rw [H.out]; rfl, rfl⟩
  · obtain ⟨h1, h2, h3, h4, h5, h6, h7, h8, h9, h10, h11, h12, h13, h14⟩ := h
    have H := H0 (-1) (by
      have f : ∀ t : List UInt8, (s.toList == t) = false → (t == s.toList) = false := fun t h => by
        rw [beq_eq_false_iff_ne] at h ⊢; exact Ne.symm h
      simp only [ar, isIn, isConst, isOne, isTwo, twoOps, List.any_cons, List.any_nil, h1, h2, h3, h4, f _ h5, f _ h6, f _ h7, f _ h8, f _ h9, f _ h10, f _ h11, f _ h12, f _ h13, f _ h14, Bool.or_false, Bool.false_eq_true, if_false]); clear H0
    go_enter Try.func130, Try.ntmps130
    go_wp2
    go_ret
    exact ⟨by rw [H.out]; rfl, rfl⟩

/-- l1HasS over a slice of strings. -/
def hasS (ss : List ByteArray) (s : ByteArray) : Bool := ss.any fun t => t.toList == s.toList
theorem l1HasS_any (b o c : Nat) (ss : List ByteArray) (s : ByteArray) (w : World) (hl : ss.length ≤ 1000) (hc : ∀ k (h : k < ss.length), w.cell? ⟨b, o + k, none⟩ = some (.string ss[k])) :
    Calls Try.prog 232 #[.slice (some ⟨b, o, none⟩) ss.length c, .string s] w fun e w' => e = .returned (.bool (hasS ss s)) ∧ w = w' := by
  go_enter Try.func232, Try.ntmps232
  go_wp2
  go_loop [6, 9] (fun _ i => ∃ k : Nat, k ≤ ss.length ∧ i = .int .i64 k ∧ hasS (ss.take k) s = false) (fun _ i => ss.length - (intOf i).toNat)
  case atStart => exact ⟨0, Nat.zero_le _, rfl, rfl⟩
  case round =>
    obtain ⟨k, hk, rfl, hh⟩ := hrel
    have hH := Lib.hid hh; clear hh
    by_cases hlt : k < ss.length
    · have hcell := hc k hlt
      have hs : hasS (ss.take (k+1)) s = (hasS (ss.take k) s || (ss[k].toList == s.toList)) := by
        unfold hasS; rw [List.take_succ_eq_append_getElem hlt, List.any_append]; simp
      have hle : hasS (ss.take (k+1)) s = true → hasS ss s = true := by
        unfold hasS; intro h; rw [List.any_eq_true] at h ⊢; obtain ⟨x, hx, h⟩ := h; exact ⟨x, List.mem_of_mem_take hx, h⟩
      have hS := Lib.hid hs; have hL := Lib.hid hle; clear hs hle
      go_wp2
      · go_ret
        exact ⟨ret_bool (hL.out (by rw [hS.out, hH.out]; simp [*])).symm, rfl⟩
      · go_round
        case rel => exact ⟨k + 1, by omega, by go_num, by rw [hS.out, hH.out]; simp [*]⟩
        case measure => simp [intOf]; omega
    · obtain rfl : k = ss.length := by omega
      go_wp2
      go_ret
      exact ⟨ret_bool (by have := hH.out; rw [List.take_length] at this; rw [this]), rfl⟩
end Go.Proofs.Ytmhdijklindipaa
