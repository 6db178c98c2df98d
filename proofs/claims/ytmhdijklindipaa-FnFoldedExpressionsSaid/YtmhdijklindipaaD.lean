import Derived.Test.YtmhdijklindipaaC
import Derived.WalkKit
import Derived.WalkSpells
import Derived.WalkLawsBesides
import Derived.Lib.Hide
namespace Go.Proofs.Ytmhdijklindipaa
open Go.RowKit

theorem two_not_one (s : ByteArray) (h : isTwo s = true) : isOne s = false := by
  rcases ar_cases s with ⟨_, h3, h4⟩|⟨_, h3, h4⟩|⟨_, h3, h4⟩|⟨_, h3, h4⟩ <;> simp_all

set_option maxHeartbeats 4000000 in
theorem exNode_any (s : ByteArray) (a b v i : Int) (w : World) (hi : -1000000 ≤ i) (hi2 : i ≤ 1000000) :
    Calls Try.prog 225 #[.agg #[.string s, .int .i64 a, .int .i64 b, .int .i64 v], .int .i64 i] w fun e w' => e = .returned (.bool (isNode ⟨s, a, b, v⟩ i)) ∧ Below w.heap.size w w' := by
  have hB := Below.refl w.heap.size w
  have hB1 := fun o => hB.alloc (Nat.le_refl _) o
  have hB2 := fun o o' => (hB1 o).alloc (by simp) o'
  by_cases hin : isIn s = true
  · have h' : s.toList = [105, 110] := by simpa [isIn] using hin
    have hr : Hid (∀ a b v, isNode ⟨s, a, b, v⟩ i = (a == 0 && b == 0 && inR v 0 1)) := by intro a b v; simp [isNode, hin]
    clear hin
    go_enter Try.func225, Try.ntmps225
    go_wp2_with (first | (go_at_call 169; refine (l1In_r _ _ _ _).mono ?_; rintro e w' ⟨rfl, rfl⟩))
    all_goals go_ret
    all_goals exact ⟨ret_bool (by rw [hr.out]; simp_all), hB1 _⟩
  have hin' : (s.toList == [105, 110]) = false := by simpa [isIn] using hin
  by_cases hco : isConst s = true
  · have h' : s.toList = [99,111,110,115,116] := by simpa [isConst] using hco
    have hr : Hid (∀ a b v, isNode ⟨s, a, b, v⟩ i = (a == 0 && b == 0 && isW v)) := by intro a b v; simp [isNode, hin, hco]
    clear hin hin' hco
    go_enter Try.func225, Try.ntmps225
    go_wp2_with (first | (go_at_call 118; refine (exWord_w _ _).mono ?_; rintro e w' ⟨rfl, rfl⟩))
    all_goals go_ret
    all_goals exact ⟨ret_bool (by rw [hr.out]; simp_all), hB1 _⟩
  have hco' : (s.toList == [99,111,110,115,116]) = false := by simpa [isConst] using hco
  by_cases hon : isOne s = true
  · have hr : Hid (∀ a b v, isNode ⟨s, a, b, v⟩ i = (inR a 0 (i - 1) && b == 0 && v == 0)) := by intro a b v; simp [isNode, hin, hco, hon]
    clear hin hco
    go_enter Try.func225, Try.ntmps225
    go_wp2_with (first | (go_at_call 127; refine (exOne_any _ _).mono ?_; rintro e w' ⟨rfl, rfl⟩) | (go_at_call 169; refine (l1In_r _ _ _ _).mono ?_; rintro e w' ⟨rfl, rfl⟩))
    all_goals go_ret
    all_goals exact ⟨ret_bool (by rw [hr.out]; simp_all), hB1 _⟩
  · simp at hon
    have hr : Hid (∀ a b v, isNode ⟨s, a, b, v⟩ i = (isTwo s && inR a 0 (i - 1) && inR b 0 (i - 1) && v == 0)) := by intro a b v; simp [isNode, hin, hco, hon]
    clear hin hco
    go_enter Try.func225, Try.ntmps225
    go_wp2_with (first | (go_at_call 127; refine (exOne_any _ _).mono ?_; rintro e w' ⟨rfl, rfl⟩) | (go_at_call 132; refine (exTwo_any _ _).mono ?_; rintro e w' ⟨rfl, rfl⟩) | (go_at_call 169; refine (l1In_r _ _ _ _).mono ?_; rintro e w' ⟨rfl, rfl⟩))
    all_goals go_ret
    all_goals exact ⟨ret_bool (by rw [hr.out]; simp_all), hB2 _ _⟩
end Go.Proofs.Ytmhdijklindipaa
