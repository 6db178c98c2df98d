import Derived.Test.YtblgiemhdjndfaaB2
import Derived.WalkKit
import Derived.WalkSpells
import Derived.WalkLawsBesides
import Derived.Lib.Hide
namespace Go.Proofs.Ytblgiemhdjndfaa
open Go.RowKit

def apOk (s : ByteArray) (a b : Int) : Bool := isW a && isW b && (isOne s || isTwo s) && !(isOne s && b != 0)
def apR (s : ByteArray) (a b : Int) : Int := if apOk s a b = true then ap s a b else 0

theorem ar_cases (s : ByteArray) : (ar s = 0 ∧ isOne s = false ∧ isTwo s = false) ∨ (ar s = 1 ∧ isOne s = true ∧ isTwo s = false) ∨ (ar s = 2 ∧ isOne s = false ∧ isTwo s = true) ∨ (ar s = -1 ∧ isOne s = false ∧ isTwo s = false) := by
  rcases op_cases s with h|h|h|h|h|h|h|h|h|h|h|h|h|h|h
  iterate 2 (· left; simp [ar, isIn, isConst, isOne, isTwo, twoOps, h])
  iterate 2 (· right; left; simp [ar, isIn, isConst, isOne, isTwo, twoOps, h])
  iterate 10 (· right; right; left; simp [ar, isIn, isConst, isOne, isTwo, twoOps, h])
  right; right; right
  obtain ⟨h1, h2, h3, h4, h5, h6, h7, h8, h9, h10, h11, h12, h13, h14⟩ := h
  have f : ∀ t : List UInt8, (s.toList == t) = false → (t == s.toList) = false := fun t h => by
    rw [beq_eq_false_iff_ne] at h ⊢; exact Ne.symm h
  simp only [ar, isIn, isConst, isOne, isTwo, twoOps, List.any_cons, List.any_nil, h1, h2, h3, h4, f _ h5, f _ h6, f _ h7, f _ h8, f _ h9, f _ h10, f _ h11, f _ h12, f _ h13, f _ h14, Bool.or_false, Bool.false_eq_true, if_false]
  simp

set_option maxHeartbeats 1000000 in
theorem sApplyOp_any (s : ByteArray) (a b : Int) (w : World) :
    Calls Try.prog 30 #[.string s, .int .i64 a, .int .i64 b] w fun e w' => e = .returned (.tuple #[.int .i64 (apR s a b), .bool (apOk s a b)]) ∧ Below w.heap.size w w' := by
  have hB := Below.refl w.heap.size w
  have hB2 := hB.alloc (Nat.le_refl _) (.cells opArr 9)
  cases h1 : isW a
  · have hr : Hid (apOk s a b = false) := by simp [Hid, apOk, h1]
    go_enter Try.func30, Try.ntmps30
    go_wp2_with (go_at_call 54; refine (exWord_w _ _).mono ?_; rintro e w' ⟨rfl, rfl⟩)
    go_ret2
    exact ⟨by rw [apR, hr.out]; rfl, hB⟩
  cases h2 : isW b
  · have hr : Hid (apOk s a b = false) := by simp [Hid, apOk, h2]
    go_enter Try.func30, Try.ntmps30
    go_wp2_with (go_at_call 54; refine (exWord_w _ _).mono ?_; rintro e w' ⟨rfl, rfl⟩)
    go_ret2
    exact ⟨by rw [apR, hr.out]; rfl, hB⟩
  have ha := (isW_iff a).1 h1
  have hb := (isW_iff b).1 h2
  obtain ⟨ha1, ha2⟩ := ha
  obtain ⟨hb1, hb2⟩ := hb
  by_cases h3 : isOne s = true
  · have hop : Hid (isOp s = true) := by simp [Hid, isOp, h3]
    by_cases h4 : b = 0
    · subst h4
      have hr : Hid (apOk s a 0 = true) := by simp [Hid, apOk, h1, h2, h3]
      go_enter Try.func30, Try.ntmps30
      go_wp2_with (first | (go_at_call 54; refine (exWord_w _ _).mono ?_; rintro e w' ⟨rfl, rfl⟩) | (go_at_call 61; refine (exOne_any _ _).mono ?_; rintro e w' ⟨rfl, rfl⟩) | (go_at_call 63; refine (exApply_any s a 0 _ ha1 ha2 hb1 hb2 hop.out).mono ?_; rintro e w' ⟨rfl, rfl⟩))
      go_ret2
      exact ⟨by rw [apR, hr.out]; rfl, hB⟩
    · have hr : Hid (apOk s a b = false) := by simp [Hid, apOk, h1, h2, h3, h4]
      go_enter Try.func30, Try.ntmps30
      go_wp2_with (first | (go_at_call 54; refine (exWord_w _ _).mono ?_; rintro e w' ⟨rfl, rfl⟩) | (go_at_call 61; refine (exOne_any _ _).mono ?_; rintro e w' ⟨rfl, rfl⟩))
      go_ret2
      exact ⟨by rw [apR, hr.out]; rfl, hB⟩
  · simp at h3
    by_cases h4 : isTwo s = true
    · have hop : Hid (isOp s = true) := by simp [Hid, isOp, h4]
      have hr : Hid (apOk s a b = true) := by simp [Hid, apOk, h1, h2, h3, h4]
      go_enter Try.func30, Try.ntmps30
      go_wp2_with (first | (go_at_call 54; refine (exWord_w _ _).mono ?_; rintro e w' ⟨rfl, rfl⟩) | (go_at_call 61; refine (exOne_any _ _).mono ?_; rintro e w' ⟨rfl, rfl⟩) | (go_at_call 62; refine (exTwo_any _ _).mono ?_; rintro e w' ⟨rfl, rfl⟩) | (go_at_call 63; refine (exApply_any s a b _ ha1 ha2 hb1 hb2 hop.out).mono ?_; rintro e w' ⟨rfl, rfl⟩))
      go_ret2
      exact ⟨by rw [apR, hr.out]; rfl, hB2⟩
    · have hr : Hid (apOk s a b = false) := by simp [Hid, apOk, h3, h4]
      simp at h4
      go_enter Try.func30, Try.ntmps30
      go_wp2_with (first | (go_at_call 54; refine (exWord_w _ _).mono ?_; rintro e w' ⟨rfl, rfl⟩) | (go_at_call 61; refine (exOne_any _ _).mono ?_; rintro e w' ⟨rfl, rfl⟩) | (go_at_call 62; refine (exTwo_any _ _).mono ?_; rintro e w' ⟨rfl, rfl⟩))
      go_ret2
      exact ⟨by rw [apR, hr.out]; rfl, hB2⟩

set_option maxHeartbeats 1000000 in
theorem iApplyOp_any (s : ByteArray) (a b : Int) (w : World) :
    Calls Try.prog 31 #[.string s, .int .i64 a, .int .i64 b] w fun e w' => e = .returned (.tuple #[.int .i64 (apR s a b), .bool (apOk s a b)]) ∧ w = w' := by
  rcases ar_cases s with ⟨har, h3, h4⟩|⟨har, h3, h4⟩|⟨har, h3, h4⟩|⟨har, h3, h4⟩
  · have hr : Hid (apOk s a b = false) := by simp [Hid, apOk, h3, h4]
    go_enter Try.func31, Try.ntmps31
    go_wp2_with (first | (go_at_call 64; refine (operandCount_any _ _).mono ?_; rintro e w' ⟨rfl, rfl⟩))
    go_ret2
    exact ⟨by rw [apR, hr.out]; rfl, rfl⟩
  · have hop : Hid (isOp s = true) := by simp [Hid, isOp, h3]
    by_cases h5 : b = 0
    · subst h5
      by_cases h1 : isW a = true
      · have hr : Hid (apOk s a 0 = true) := by simp [Hid, apOk, h1, h3, h4, show isW 0 = true from rfl]
        have h2 : isW 0 = true := rfl
        obtain ⟨ha1, ha2⟩ := (isW_iff a).1 h1
        go_enter Try.func31, Try.ntmps31
        go_wp2_with (first | (go_at_call 64; refine (operandCount_any _ _).mono ?_; rintro e w' ⟨rfl, rfl⟩) | (go_at_call 57; refine (isWord_any _ _).mono ?_; rintro e w' ⟨rfl, rfl⟩) | (go_at_call 65; refine (valueOfOp_any s a 0 _ ha1 ha2 (by omega) (by omega) hop.out).mono ?_; rintro e w' ⟨rfl, rfl⟩))
        go_ret2
        exact ⟨by rw [apR, hr.out]; rfl, rfl⟩
      · have hr : Hid (apOk s a 0 = false) := by simp [Hid, apOk, h1]
        simp at h1
        go_enter Try.func31, Try.ntmps31
        go_wp2_with (first | (go_at_call 64; refine (operandCount_any _ _).mono ?_; rintro e w' ⟨rfl, rfl⟩) | (go_at_call 57; refine (isWord_any _ _).mono ?_; rintro e w' ⟨rfl, rfl⟩))
        go_ret2
        exact ⟨by rw [apR, hr.out]; rfl, rfl⟩
    · have hr : Hid (apOk s a b = false) := by simp [Hid, apOk, h3, h5]
      go_enter Try.func31, Try.ntmps31
      go_wp2_with (first | (go_at_call 64; refine (operandCount_any _ _).mono ?_; rintro e w' ⟨rfl, rfl⟩))
      go_ret2
      exact ⟨by rw [apR, hr.out]; rfl, rfl⟩
  · have hop : Hid (isOp s = true) := by simp [Hid, isOp, h4]
    cases h1 : isW a
    · have hr : Hid (apOk s a b = false) := by simp [Hid, apOk, h1]
      go_enter Try.func31, Try.ntmps31
      go_wp2_with (first | (go_at_call 64; refine (operandCount_any _ _).mono ?_; rintro e w' ⟨rfl, rfl⟩) | (go_at_call 57; refine (isWord_any _ _).mono ?_; rintro e w' ⟨rfl, rfl⟩))
      go_ret2
      exact ⟨by rw [apR, hr.out]; rfl, rfl⟩
    cases h2 : isW b
    · have hr : Hid (apOk s a b = false) := by simp [Hid, apOk, h2]
      go_enter Try.func31, Try.ntmps31
      go_wp2_with (first | (go_at_call 64; refine (operandCount_any _ _).mono ?_; rintro e w' ⟨rfl, rfl⟩) | (go_at_call 57; refine (isWord_any _ _).mono ?_; rintro e w' ⟨rfl, rfl⟩))
      go_ret2
      exact ⟨by rw [apR, hr.out]; rfl, rfl⟩
    have hr : Hid (apOk s a b = true) := by simp [Hid, apOk, h1, h2, h3, h4]
    obtain ⟨ha1, ha2⟩ := (isW_iff a).1 h1
    obtain ⟨hb1, hb2⟩ := (isW_iff b).1 h2
    go_enter Try.func31, Try.ntmps31
    go_wp2_with (first | (go_at_call 64; refine (operandCount_any _ _).mono ?_; rintro e w' ⟨rfl, rfl⟩) | (go_at_call 57; refine (isWord_any _ _).mono ?_; rintro e w' ⟨rfl, rfl⟩) | (go_at_call 65; refine (valueOfOp_any s a b _ ha1 ha2 hb1 hb2 hop.out).mono ?_; rintro e w' ⟨rfl, rfl⟩))
    go_ret2
    exact ⟨by rw [apR, hr.out]; rfl, rfl⟩
  · have hr : Hid (apOk s a b = false) := by simp [Hid, apOk, h3, h4]
    go_enter Try.func31, Try.ntmps31
    go_wp2_with (first | (go_at_call 64; refine (operandCount_any _ _).mono ?_; rintro e w' ⟨rfl, rfl⟩))
    go_ret2
    exact ⟨by rw [apR, hr.out]; rfl, rfl⟩

theorem lawApplyOp (s : ByteArray) (a b : Int) (hs : s.size ≤ maxLen) (w : World) :
    Calls Try.prog 7 #[.string s, .int .i64 a, .int .i64 b] w fun e w' => e = .returned (.bool true) ∧ Below w.heap.size w w' := by
  unfold maxLen at hs
  have hB := Below.refl w.heap.size w
  by_cases h : s.size ≤ 1048576
  · go_enter Try.func7, Try.ntmps7
    go_wp2_with (fail)
    refine (sApplyOp_any _ _ _ _).mono ?_
    rintro e w1 ⟨rfl, h1⟩
    go_wp2_with (fail)
    refine (iApplyOp_any _ _ _ _).mono ?_
    rintro e w2 ⟨rfl, rfl⟩
    go_wp2_with (fail)
    go_ret
    exact ⟨rfl, h1⟩
  · go_enter Try.func7, Try.ntmps7
    go_wp2_with (fail)
    go_ret
    exact ⟨rfl, hB⟩
end Go.Proofs.Ytblgiemhdjndfaa
