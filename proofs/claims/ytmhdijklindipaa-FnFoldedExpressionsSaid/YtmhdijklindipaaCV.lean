import Derived.Test.YtmhdijklindipaaCA
import Derived.WalkKit
import Derived.WalkSpells
import Derived.WalkLawsBesides
import Derived.Lib.Hide
namespace Go.Proofs.Ytmhdijklindipaa
open Go.RowKit

set_option maxHeartbeats 4000000 in
theorem exApply_any (s : ByteArray) (a b : Int) (w : World) (ha : 0 ≤ a) (ha2 : a ≤ 63) (hb : 0 ≤ b) (hb2 : b ≤ 63) (hop : isOp s = true) :
    Calls Try.prog 133 #[.string s, .int .i64 a, .int .i64 b] w fun e w' => e = .returned (.int .i64 (ap s a b)) ∧ w = w' := by
  have H0 : ∀ k : Int, (ap s a b = k) → Hid (ap s a b = k) := fun _ h => h
  rcases op_cases s with h|h|h|h|h|h|h|h|h|h|h|h|h|h|h
  · simp [isOp, isOne, isTwo, twoOps, h] at hop
  · simp [isOp, isOne, isTwo, twoOps, h] at hop
  · have H := H0 _ (ap_not h a b); clear H0 hop
    go_enter Try.func133, Try.ntmps133
    go_wp2
    go_ret
    exact ⟨ret_int (by rw [H.out, and63]; omega), rfl⟩
  · have H := H0 _ (ap_neg h a b); clear H0 hop
    go_enter Try.func133, Try.ntmps133
    go_wp2
    go_ret
    exact ⟨ret_int (by rw [H.out, and63]), rfl⟩
  · have H := H0 _ (ap_add h a b); clear H0 hop
    go_enter Try.func133, Try.ntmps133
    go_wp2
    go_ret
    exact ⟨ret_int (by rw [H.out, and63]), rfl⟩
  · have H := H0 _ (ap_sub h a b); clear H0 hop
    go_enter Try.func133, Try.ntmps133
    go_wp2
    go_ret
    exact ⟨ret_int (by rw [H.out, and63]), rfl⟩
  · have H := H0 _ (ap_mul h a b); clear H0 hop
    go_enter Try.func133, Try.ntmps133
    go_wp2
    go_ret
    exact ⟨ret_int (by rw [H.out, and63, wrap64_m]), rfl⟩
  · have H := H0 _ (ap_and h a b); clear H0 hop
    go_enter Try.func133, Try.ntmps133
    go_wp2
    go_ret
    exact ⟨ret_int (by rw [H.out, and63]; have := band_bd a b ha ha2; exact Int.emod_eq_of_lt this.1 (by omega)), rfl⟩
  · have H := H0 _ (ap_or h a b); clear H0 hop
    go_enter Try.func133, Try.ntmps133
    go_wp2
    go_ret
    exact ⟨ret_int (by rw [H.out, and63]; have := bor_bd a b ha ha2 hb hb2; exact Int.emod_eq_of_lt this.1 (by omega)), rfl⟩
  · have H := H0 _ (ap_xor h a b); clear H0 hop
    go_enter Try.func133, Try.ntmps133
    go_wp2
    go_ret
    exact ⟨ret_int (by rw [H.out, and63]; have := bxor_bd a b ha ha2 hb hb2; exact Int.emod_eq_of_lt this.1 (by omega)), rfl⟩
  · have H := H0 _ (ap_shl h a b); clear H0 hop
    go_enter Try.func133, Try.ntmps133
    go_wp2
    all_goals go_ret
    · exact ⟨ret_int (by rw [H.out, and63, wrap64_m]), rfl⟩
    · exact ⟨ret_int (by rw [H.out, shl_zero _ _ (by omega), and63]; rfl), rfl⟩
  · have H := H0 _ (ap_shr h a b); clear H0 hop
    go_enter Try.func133, Try.ntmps133
    go_wp2
    all_goals go_ret
    · exact ⟨ret_int (by rw [H.out, and63]; have := shr_bd a b.toNat ha ha2; exact Int.emod_eq_of_lt this.1 (by omega)), rfl⟩
    · exact ⟨ret_int (by rw [H.out, shr_zero _ _ ha ha2 (by omega), and63]; rfl), rfl⟩
  · have H := H0 _ (ap_less h a b); clear H0 hop
    go_enter Try.func133, Try.ntmps133
    go_wp2
    all_goals go_ret
    all_goals exact ⟨ret_int (by rw [H.out, and63]; simp [*]), rfl⟩
  · have H := H0 _ (ap_eq h a b); clear H0 hop
    go_enter Try.func133, Try.ntmps133
    go_wp2
    all_goals go_ret
    all_goals exact ⟨ret_int (by rw [H.out, and63]; simp_all), rfl⟩
  · obtain ⟨h1, h2, h3, h4, h5, h6, h7, h8, h9, h10, h11, h12, h13, h14⟩ := h
    have f : ∀ t : List UInt8, (s.toList == t) = false → (t == s.toList) = false := fun t h => by
      rw [beq_eq_false_iff_ne] at h ⊢; exact Ne.symm h
    simp [isOp, isOne, isTwo, twoOps, h3, h4, f _ h5, f _ h6, f _ h7, f _ h8, f _ h9, f _ h10, f _ h11, f _ h12, f _ h13, f _ h14] at hop

theorem wrap_any (n : Int) (w : World) : Calls Try.prog 230 #[.int .i64 n] w fun e w' => e = .returned (.int .i64 (n % 64)) ∧ w = w' := by
  go_enter Try.func230, Try.ntmps230
  go_wp2
  go_ret
  exact ⟨ret_int (and63 n), rfl⟩
theorem wordOf_any (x : Bool) (w : World) : Calls Try.prog 231 #[.bool x] w fun e w' => e = .returned (.int .i64 (if x then 1 else 0)) ∧ w = w' := by
  cases x
  all_goals
    go_enter Try.func231, Try.ntmps231
    go_wp2
    go_ret
    exact ⟨rfl, rfl⟩

set_option maxHeartbeats 4000000 in
theorem valueOfOp_any (s : ByteArray) (a b : Int) (w : World) (ha : 0 ≤ a) (ha2 : a ≤ 63) (hb : 0 ≤ b) (hb2 : b ≤ 63) (hop : isOp s = true) :
    Calls Try.prog 131 #[.string s, .int .i64 a, .int .i64 b] w fun e w' => e = .returned (.int .i64 (ap s a b)) ∧ w = w' := by
  have H0 : ∀ k : Int, (ap s a b = k) → Hid (ap s a b = k) := fun _ h => h
  rcases op_cases s with h|h|h|h|h|h|h|h|h|h|h|h|h|h|h
  · simp [isOp, isOne, isTwo, twoOps, h] at hop
  · simp [isOp, isOne, isTwo, twoOps, h] at hop
  · have H := H0 _ (ap_not h a b); clear H0 hop
    go_enter Try.func131, Try.ntmps131
    go_wp2_with (first | (go_at_call 230; refine (wrap_any _ _).mono ?_; rintro e w' ⟨rfl, rfl⟩) | (go_at_call 231; refine (wordOf_any _ _).mono ?_; rintro e w' ⟨rfl, rfl⟩))
    all_goals go_ret
    all_goals exact ⟨ret_int (by rw [H.out]), rfl⟩
  · have H := H0 _ (ap_neg h a b); clear H0 hop
    go_enter Try.func131, Try.ntmps131
    go_wp2_with (first | (go_at_call 230; refine (wrap_any _ _).mono ?_; rintro e w' ⟨rfl, rfl⟩) | (go_at_call 231; refine (wordOf_any _ _).mono ?_; rintro e w' ⟨rfl, rfl⟩))
    all_goals go_ret
    all_goals exact ⟨ret_int (by rw [H.out]), rfl⟩
  · have H := H0 _ (ap_add h a b); clear H0 hop
    go_enter Try.func131, Try.ntmps131
    go_wp2_with (first | (go_at_call 230; refine (wrap_any _ _).mono ?_; rintro e w' ⟨rfl, rfl⟩) | (go_at_call 231; refine (wordOf_any _ _).mono ?_; rintro e w' ⟨rfl, rfl⟩))
    all_goals go_ret
    all_goals exact ⟨ret_int (by rw [H.out]), rfl⟩
  · have H := H0 _ (ap_sub h a b); clear H0 hop
    go_enter Try.func131, Try.ntmps131
    go_wp2_with (first | (go_at_call 230; refine (wrap_any _ _).mono ?_; rintro e w' ⟨rfl, rfl⟩) | (go_at_call 231; refine (wordOf_any _ _).mono ?_; rintro e w' ⟨rfl, rfl⟩))
    all_goals go_ret
    all_goals exact ⟨ret_int (by rw [H.out]), rfl⟩
  · have H := H0 _ (ap_mul h a b); clear H0 hop
    go_enter Try.func131, Try.ntmps131
    go_wp2_with (first | (go_at_call 230; refine (wrap_any _ _).mono ?_; rintro e w' ⟨rfl, rfl⟩) | (go_at_call 231; refine (wordOf_any _ _).mono ?_; rintro e w' ⟨rfl, rfl⟩))
    all_goals go_ret
    all_goals exact ⟨ret_int (by rw [H.out]; exact wrap64_m _), rfl⟩
  · have H := H0 _ (ap_and h a b); clear H0 hop
    go_enter Try.func131, Try.ntmps131
    go_wp2_with (first | (go_at_call 230; refine (wrap_any _ _).mono ?_; rintro e w' ⟨rfl, rfl⟩) | (go_at_call 231; refine (wordOf_any _ _).mono ?_; rintro e w' ⟨rfl, rfl⟩))
    all_goals go_ret
    all_goals exact ⟨ret_int (by rw [H.out]), rfl⟩
  · have H := H0 _ (ap_or h a b); clear H0 hop
    go_enter Try.func131, Try.ntmps131
    go_wp2_with (first | (go_at_call 230; refine (wrap_any _ _).mono ?_; rintro e w' ⟨rfl, rfl⟩) | (go_at_call 231; refine (wordOf_any _ _).mono ?_; rintro e w' ⟨rfl, rfl⟩))
    all_goals go_ret
    all_goals exact ⟨ret_int (by rw [H.out]), rfl⟩
  · have H := H0 _ (ap_xor h a b); clear H0 hop
    go_enter Try.func131, Try.ntmps131
    go_wp2_with (first | (go_at_call 230; refine (wrap_any _ _).mono ?_; rintro e w' ⟨rfl, rfl⟩) | (go_at_call 231; refine (wordOf_any _ _).mono ?_; rintro e w' ⟨rfl, rfl⟩))
    all_goals go_ret
    all_goals exact ⟨ret_int (by rw [H.out]), rfl⟩
  · have H := H0 _ (ap_shl h a b); clear H0 hop
    go_enter Try.func131, Try.ntmps131
    go_wp2_with (first | (go_at_call 230; refine (wrap_any _ _).mono ?_; rintro e w' ⟨rfl, rfl⟩) | (go_at_call 231; refine (wordOf_any _ _).mono ?_; rintro e w' ⟨rfl, rfl⟩))
    all_goals go_ret
    all_goals exact ⟨ret_int (by rw [H.out]; exact wrap64_m _), rfl⟩
  · have H := H0 _ (ap_shr h a b); clear H0 hop
    go_enter Try.func131, Try.ntmps131
    go_wp2_with (first | (go_at_call 230; refine (wrap_any _ _).mono ?_; rintro e w' ⟨rfl, rfl⟩) | (go_at_call 231; refine (wordOf_any _ _).mono ?_; rintro e w' ⟨rfl, rfl⟩))
    all_goals go_ret
    all_goals exact ⟨ret_int (by rw [H.out]), rfl⟩
  · have H := H0 _ (ap_less h a b); clear H0 hop
    go_enter Try.func131, Try.ntmps131
    go_wp2_with (first | (go_at_call 230; refine (wrap_any _ _).mono ?_; rintro e w' ⟨rfl, rfl⟩) | (go_at_call 231; refine (wordOf_any _ _).mono ?_; rintro e w' ⟨rfl, rfl⟩))
    all_goals go_ret
    all_goals exact ⟨ret_int (by rw [H.out]; simp [*]), rfl⟩
  · have H := H0 _ (ap_eq h a b); clear H0 hop
    go_enter Try.func131, Try.ntmps131
    go_wp2_with (first | (go_at_call 230; refine (wrap_any _ _).mono ?_; rintro e w' ⟨rfl, rfl⟩) | (go_at_call 231; refine (wordOf_any _ _).mono ?_; rintro e w' ⟨rfl, rfl⟩))
    all_goals go_ret
    all_goals exact ⟨ret_int (by first | (rw [H.out]; simp [*]; done) | (subst_vars; rw [ap_eq (by assumption)]; simp)), rfl⟩
  · obtain ⟨h1, h2, h3, h4, h5, h6, h7, h8, h9, h10, h11, h12, h13, h14⟩ := h
    have f : ∀ t : List UInt8, (s.toList == t) = false → (t == s.toList) = false := fun t h => by
      rw [beq_eq_false_iff_ne] at h ⊢; exact Ne.symm h
    simp [isOp, isOne, isTwo, twoOps, h3, h4, f _ h5, f _ h6, f _ h7, f _ h8, f _ h9, f _ h10, f _ h11, f _ h12, f _ h13, f _ h14] at hop
end Go.Proofs.Ytmhdijklindipaa
