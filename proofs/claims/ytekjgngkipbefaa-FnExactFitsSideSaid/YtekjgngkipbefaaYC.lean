import Derived.Test.YtekjgngkipbefaaYB
import Derived.WalkKit
import Derived.WalkSpells
import Derived.WalkLawsBesides
import Derived.Lib.Hide
/- Sides of rules: the program's bits. -/
namespace Go.Proofs.Ytekjgngkipbefaa
open Go.RowKit
set_option linter.unusedVariables false

def pc (k : Nat) : Int := ((k % 2 + k / 2 % 2 + k / 4 % 2 + k / 8 % 2 + k / 16 % 2 + k / 32 % 2 : Nat) : Int)
theorem pc_pow : ∀ k : Nat, k < 64 → (pc k == 1) = isPow k := by decide +kernel

set_option maxHeartbeats 1000000 in
theorem onesCount64_any (k : Nat) (w : World) (hk : k < 64) :
    Calls Try.prog 123 #[.int .u64 k] w fun e w' => e = .returned (.int .i64 (pc k)) ∧ w = w' := by
  have h0 : (0 : Int) ≤ (k : Int) := by omega
  have h1 : (k : Int) < 64 := by omega
  go_enter Try.func123, Try.ntmps123
  go_wp2
  go_ret
  refine ⟨ret_int ?_, rfl⟩
  clear h0 h1
  revert hk
  revert k
  decide +kernel
theorem onesCount_any (k : Nat) (w : World) (hk : k < 64) :
    Calls Try.prog 86 #[.int .u64 k] w fun e w' => e = .returned (.int .i64 (pc k)) ∧ w = w' := by
  have HC := Lib.hid (onesCount64_any k w hk)
  have h0 : (0 : Int) ≤ (k : Int) := by omega
  have h1 : (k : Int) < 64 := by omega
  go_enter Try.func86, Try.ntmps86
  go_wp2_with (fail)
  refine HC.out.mono ?_
  rintro e w' ⟨rfl, rfl⟩
  go_wp2
  go_ret
  exact ⟨rfl, rfl⟩

set_option maxHeartbeats 1000000 in
theorem iFitsSide_any (s : ByteArray) (n : Int) (w : World) :
    Calls Try.prog 42 #[.string s, .int .i64 n] w fun e w' => e = .returned (.tuple #[.bool (fsR s n), .bool (fsB s n)]) ∧ w = w' := by
  have HW := Lib.hid fun W => isWord_any n W
  cases hw : isW n
  · have H1 := Lib.hid (show fsB s n = false by unfold fsB; rw [hw]; rfl)
    have H2 := Lib.hid (show fsR s n = false by unfold fsR; rw [H1.out]; rfl)
    rw [hw] at HW
    clear hw
    go_enter Try.func42, Try.ntmps42
    go_wp2_with (fail)
    refine (HW.out _).mono ?_
    rintro e w' ⟨rfl, rfl⟩
    go_wp2
    go_ret2
    exact ⟨by rw [H1.out, H2.out]; rfl, rfl⟩
  obtain ⟨h0, h1⟩ := (isW_iff n).mp hw
  rw [hw] at HW
  have hS := Lib.hid (show fsB s n = isSide s by unfold fsB; rw [hw]; rfl)
  have hR := Lib.hid (show fsR s n = (isSide s && fitS s n) by unfold fsR; rw [hS.out])
  clear hw
  obtain ⟨k, rfl⟩ := Int.eq_ofNat_of_zero_le h0
  have hk : k < 64 := by omega
  have hP := Lib.hid (pc_pow k hk)
  have hO := Lib.hid fun W => onesCount_any k W hk
  rcases side_cases s with h|h|h|h|h|⟨g1, g2, g3, g4, g5⟩
  · have H1 := Lib.hid (show fsB s k = true by rw [hS.out]; simp [isSide, sideList, h])
    have H2 := Lib.hid (show fsR s k = true by rw [hR.out]; simp [fitS, isSide, sideList, h])
    go_enter Try.func42, Try.ntmps42
    go_wp2_with (fail)
    refine (HW.out _).mono ?_
    rintro e w' ⟨rfl, rfl⟩
    go_wp2
    go_ret2
    exact ⟨by rw [H1.out, H2.out]; rfl, rfl⟩
  · have H1 := Lib.hid (show fsB s k = true by rw [hS.out]; simp [isSide, sideList, h])
    have H2 := Lib.hid (show fsR s k = true by rw [hR.out]; simp [fitS, isSide, sideList, h])
    go_enter Try.func42, Try.ntmps42
    go_wp2_with (fail)
    refine (HW.out _).mono ?_
    rintro e w' ⟨rfl, rfl⟩
    go_wp2
    go_ret2
    exact ⟨by rw [H1.out, H2.out]; rfl, rfl⟩
  · have H1 := Lib.hid (show fsB s k = true by rw [hS.out]; simp [isSide, sideList, h])
    have H2 := Lib.hid (show fsR s k = ((k : Int).tmod 2 == 1) by rw [hR.out, Int.tmod_eq_emod_of_nonneg (by omega)]; simp [fitS, isSide, sideList, h])
    go_enter Try.func42, Try.ntmps42
    go_wp2_with (fail)
    refine (HW.out _).mono ?_
    rintro e w' ⟨rfl, rfl⟩
    go_wp2
    go_ret2
    exact ⟨by rw [H1.out, H2.out]; rfl, rfl⟩
  · have H1 := Lib.hid (show fsB s k = true by rw [hS.out]; simp [isSide, sideList, h])
    have H2 := Lib.hid (show fsR s k = (pc k == 1) by rw [hR.out, hP.out]; simp [fitS, isSide, sideList, h])
    clear hP
    generalize pc k = q at *
    go_enter Try.func42, Try.ntmps42
    go_wp2_with (fail)
    refine (HW.out _).mono ?_
    rintro e w' ⟨rfl, rfl⟩
    go_wp2_with (fail)
    refine (hO.out _).mono ?_
    rintro e w' ⟨rfl, rfl⟩
    go_wp2
    go_ret2
    exact ⟨by rw [H1.out, H2.out]; rfl, rfl⟩
  · have H1 := Lib.hid (show fsB s k = true by rw [hS.out]; simp [isSide, sideList, h])
    have H2 := Lib.hid (show fsR s k = (decide (1 ≤ (k : Int)) && decide ((k : Int) ≤ 5)) by rw [hR.out]; simp [fitS, isSide, sideList, h, inR])
    by_cases hz : 1 ≤ (k : Int)
    · rw [decide_eq_true hz] at H2
      go_enter Try.func42, Try.ntmps42
      go_wp2_with (fail)
      refine (HW.out _).mono ?_
      rintro e w' ⟨rfl, rfl⟩
      go_wp2
      go_ret2
      exact ⟨by rw [H1.out, H2.out]; rfl, rfl⟩
    · rw [decide_eq_false hz] at H2
      go_enter Try.func42, Try.ntmps42
      go_wp2_with (fail)
      refine (HW.out _).mono ?_
      rintro e w' ⟨rfl, rfl⟩
      go_wp2
      go_ret2
      exact ⟨by rw [H1.out, H2.out]; rfl, rfl⟩
  · have f : ∀ t : List UInt8, (s.toList == t) = false → (t == s.toList) = false := fun t h => by
      rw [beq_eq_false_iff_ne] at h ⊢; exact Ne.symm h
    have H1 := Lib.hid (show fsB s k = false by rw [hS.out]; simp only [isSide, sideList, List.any_cons, List.any_nil, f _ g1, f _ g2, f _ g3, f _ g4, f _ g5, Bool.or_false])
    have H2 := Lib.hid (show fsR s k = false by unfold fsR; rw [H1.out]; rfl)
    clear f
    go_enter Try.func42, Try.ntmps42
    go_wp2_with (fail)
    refine (HW.out _).mono ?_
    rintro e w' ⟨rfl, rfl⟩
    go_wp2
    go_ret2
    exact ⟨by rw [H1.out, H2.out]; rfl, rfl⟩

theorem sFitsSide_any (s : ByteArray) (n : Int) (w : World) :
    Calls Try.prog 41 #[.string s, .int .i64 n] w fun e w' => e = .returned (.tuple #[.bool (fsR s n), .bool (fsB s n)]) ∧ Below w.heap.size w w' := by
  have HS := Lib.hid (ruSide_any s w)
  have HW := Lib.hid fun W => exWord_w n W
  cases hs : isSide s
  · have H1 := Lib.hid (show fsB s n = false by unfold fsB; rw [hs, Bool.and_false])
    have H2 := Lib.hid (show fsR s n = false by unfold fsR; rw [H1.out]; rfl)
    rw [hs] at HS
    clear hs
    go_enter Try.func41, Try.ntmps41
    go_wp2_with (fail)
    refine HS.out.mono ?_
    rintro e w1 ⟨rfl, hb⟩
    go_wp2
    go_ret2
    exact ⟨by rw [H1.out, H2.out]; rfl, hb⟩
  rw [hs] at HS
  cases hw : isW n
  · have H1 := Lib.hid (show fsB s n = false by unfold fsB; rw [hw, Bool.false_and])
    have H2 := Lib.hid (show fsR s n = false by unfold fsR; rw [H1.out]; rfl)
    rw [hw] at HW
    clear hs hw
    go_enter Try.func41, Try.ntmps41
    go_wp2_with (fail)
    refine HS.out.mono ?_
    rintro e w1 ⟨rfl, hb⟩
    have hb1 := Lib.hid hb
    clear hb
    go_wp2_with (fail)
    refine (HW.out _).mono ?_
    rintro e w' ⟨rfl, rfl⟩
    go_wp2
    go_ret2
    exact ⟨by rw [H1.out, H2.out]; rfl, hb1.out⟩
  have H1 := Lib.hid (show fsB s n = true by unfold fsB; rw [hs, hw]; rfl)
  have H2 := Lib.hid (show fsR s n = fitS s n by unfold fsR; rw [H1.out, Bool.true_and])
  have HF := Lib.hid fun W => ruFits_any s n W hw
  rw [hw] at HW
  clear hs hw
  generalize fitS s n = q at *
  go_enter Try.func41, Try.ntmps41
  go_wp2_with (fail)
  refine HS.out.mono ?_
  rintro e w1 ⟨rfl, hb⟩
  have hb1 := Lib.hid hb
  clear hb
  go_wp2_with (fail)
  refine (HW.out _).mono ?_
  rintro e w' ⟨rfl, rfl⟩
  go_wp2_with (fail)
  refine (HF.out _).mono ?_
  rintro e w' ⟨rfl, rfl⟩
  go_wp2
  go_ret2
  exact ⟨by rw [H1.out, H2.out]; rfl, hb1.out⟩

theorem lawFitsSide (s : ByteArray) (n : Int) (w : World) (hs : s.size ≤ 9223372036854775807) :
    Calls Try.prog 11 #[.string s, .int .i64 n] w fun e w' => e = .returned (.bool true) ∧ Below w.heap.size w w' := by
  have hB := Below.refl w.heap.size w
  by_cases h : s.size ≤ 1048576
  · go_enter Try.func11, Try.ntmps11
    go_wp2_with (fail)
    refine (sFitsSide_any _ _ _).mono ?_
    rintro e w1 ⟨rfl, h1⟩
    go_wp2_with (fail)
    refine (iFitsSide_any _ _ _).mono ?_
    rintro e w2 ⟨rfl, rfl⟩
    go_wp2_with (fail)
    go_ret
    exact ⟨rfl, h1⟩
  · go_enter Try.func11, Try.ntmps11
    go_wp2_with (fail)
    go_ret
    exact ⟨rfl, hB⟩
end Go.Proofs.Ytekjgngkipbefaa
