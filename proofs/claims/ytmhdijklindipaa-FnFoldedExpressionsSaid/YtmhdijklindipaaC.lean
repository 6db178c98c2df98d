import Derived.Test.YtmhdijklindipaaB2
import Derived.Test.YtmhdijklindipaaN
import Derived.WalkKit
import Derived.WalkSpells
import Derived.WalkLawsBesides
import Derived.Lib.Hide
namespace Go.Proofs.Ytmhdijklindipaa
open Go.RowKit

set_option maxHeartbeats 1000000 in
theorem isLeafValue_any (s : ByteArray) (a b v : Int) (w : World) :
    Calls Try.prog 228 #[.agg #[.string s, .int .i64 a, .int .i64 b, .int .i64 v]] w fun e w' => e = .returned (.bool (leafV s v)) ∧ Below w.heap.size w w' := by
  have hB := Below.refl w.heap.size w
  have hB1 := fun o => hB.alloc (Nat.le_refl _) o
  cases h : isIn s
  · have h' : (s.toList == [105, 110]) = false := h
    have hr : Hid (leafV s v = isW v) := by simp [Hid, leafV, h]
    rw [hr.out]
    go_enter Try.func228, Try.ntmps228
    go_wp2_with (go_at_call 115; refine (isWord_any _ _).mono ?_; rintro e w' ⟨rfl, rfl⟩)
    go_ret
    exact ⟨rfl, hB1 _⟩
  · have h' : s.toList = [105, 110] := by simpa [isIn] using h
    have hr : Hid (leafV s v = inR v 0 1) := by simp [Hid, leafV, h]
    go_enter Try.func228, Try.ntmps228
    go_wp2
    all_goals go_ret
    all_goals exact ⟨ret_bool (by have := hr.out; simp_all <;> (rw [Bool.eq_iff_iff]; simp [inR] <;> omega)), hB1 _⟩

set_option maxHeartbeats 4000000 in
theorem isNodeAt_any (s : ByteArray) (a b v i : Int) (w : World) :
    Calls Try.prog 122 #[.agg #[.string s, .int .i64 a, .int .i64 b, .int .i64 v], .int .i64 i] w fun e w' => e = .returned (.bool (isNode ⟨s, a, b, v⟩ i)) ∧ Below w.heap.size w w' := by
  have hB := Below.refl w.heap.size w
  have hB1 := fun o => hB.alloc (Nat.le_refl _) o
  rcases ar_cases s with ⟨har, h3, h4⟩|⟨har, h3, h4⟩|⟨har, h3, h4⟩|⟨har, h3, h4⟩
  · have hr : Hid (∀ a b, isNode ⟨s, a, b, v⟩ i = (a == 0 && b == 0 && leafV s v)) := by
      have hio : isIn s = true ∨ isConst s = true := by
        unfold ar at har; cases h1 : isIn s <;> cases h2 : isConst s <;> simp [h1, h2, h3, h4] at har ⊢
      intro a b
      simp only [isNode, leafV]; cases h1 : isIn s <;> cases h2 : isConst s <;> simp [h1, h2] at hio ⊢
    go_enter Try.func122, Try.ntmps122
    go_wp2_with (first | (go_at_call 130; refine (operandCount_any _ _).mono ?_; rintro e w' ⟨rfl, rfl⟩) | (go_at_call 228; refine (isLeafValue_any _ _ _ _ _).mono ?_; rintro e w' ⟨rfl, hb1⟩))
    all_goals go_ret
    all_goals first
      | exact ⟨ret_bool (by rw [hr.out]; simp_all), (hB1 _).trans (hb1.mono (by simp))⟩
      | exact ⟨ret_bool (by rw [hr.out]; simp_all), hB1 _⟩
  · have hr : Hid (∀ a b v, isNode ⟨s, a, b, v⟩ i = (inR a 0 (i - 1) && b == 0 && v == 0)) := by
      intro a b v
      unfold ar at har
      simp only [isNode]; cases h1 : isIn s <;> cases h2 : isConst s <;> simp [h1, h2, h3, h4] at har ⊢
    go_enter Try.func122, Try.ntmps122
    go_wp2_with (first | (go_at_call 130; refine (operandCount_any _ _).mono ?_; rintro e w' ⟨rfl, rfl⟩) | (go_at_call 167; refine (isIndex_any _ _ _).mono ?_; rintro e w' ⟨rfl, rfl⟩))
    all_goals go_ret
    all_goals exact ⟨ret_bool (by rw [hr.out]; simp_all), hB1 _⟩
  · have hr : Hid (∀ a b v, isNode ⟨s, a, b, v⟩ i = (inR a 0 (i - 1) && inR b 0 (i - 1) && v == 0)) := by
      intro a b v
      unfold ar at har
      simp only [isNode]; cases h1 : isIn s <;> cases h2 : isConst s <;> simp [h1, h2, h3, h4] at har ⊢
    go_enter Try.func122, Try.ntmps122
    go_wp2_with (first | (go_at_call 130; refine (operandCount_any _ _).mono ?_; rintro e w' ⟨rfl, rfl⟩) | (go_at_call 167; refine (isIndex_any _ _ _).mono ?_; rintro e w' ⟨rfl, rfl⟩))
    all_goals go_ret
    all_goals exact ⟨ret_bool (by rw [hr.out]; simp_all), hB1 _⟩
  · have hr : Hid (isNode ⟨s, a, b, v⟩ i = false) := by
      unfold ar at har
      simp only [Hid, isNode]; cases h1 : isIn s <;> cases h2 : isConst s <;> simp [h1, h2, h3, h4] at har ⊢
    go_enter Try.func122, Try.ntmps122
    go_wp2_with (first | (go_at_call 130; refine (operandCount_any _ _).mono ?_; rintro e w' ⟨rfl, rfl⟩))
    go_ret
    exact ⟨ret_bool (by rw [hr.out]), hB1 _⟩
end Go.Proofs.Ytmhdijklindipaa
