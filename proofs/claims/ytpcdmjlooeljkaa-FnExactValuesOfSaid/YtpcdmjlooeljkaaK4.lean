import Derived.Test.YtpcdmjlooeljkaaK3
import Derived.WalkKit
import Derived.WalkSpells
import Derived.WalkLawsBesides
import Derived.Lib.Hide
namespace Go.Proofs.Ytpcdmjlooeljkaa
open Go.RowKit
set_option linter.unusedVariables false

theorem evalR_of {es : List Nd} {x0 x1 : Int} (h : valsOk es x0 x1 = true) : evalR es x0 x1 = (vals es x0 x1).getD (es.length - 1) 0 := by simp [evalR, h]

theorem exAt_any (L B : Nat) (A : Option Addr) (c : Nat) (es : List Nd) (x0 x1 : Int) (w : World) (hl : es.length ≤ 24) (hl1 : 1 ≤ es.length) (hes : NS w L B A es) (hB : B ≤ w.heap.size) (hok : okFrom es 0 = true) (h0 : 0 ≤ x0 ∧ x0 ≤ 63) (h1 : 0 ≤ x1 ∧ x1 ≤ 63) :
    Calls Try.prog 38 #[.slice A es.length c, .int .i64 x0, .int .i64 x1] w fun e w' => e = .returned (.int .i64 ((vals es x0 x1).getD (es.length - 1) 0)) ∧ Below w.heap.size w w' := by
  have H0 := exValues_any L B A c es x0 x1 w hl hes hB hok h0 h1
  obtain ⟨m, hm⟩ : ∃ m, es.length = m + 1 := ⟨es.length - 1, by omega⟩
  have hml : Hid ((vals es x0 x1).length = m + 1) := by rw [Hid, vals_len, hm]
  rw [hm] at H0
  rw [hm, Nat.add_sub_cancel]
  have H := Lib.hid H0
  have hm24 : m + 1 ≤ 24 := by omega
  clear H0 hes hok h0 h1 hl hl1 hm hB
  go_enter Try.func38, Try.ntmps38
  go_wp2_with (fail)
  refine H.out.mono ?_
  rintro e w2 ⟨V, cv, rfl, how, hb⟩
  have hbb := Lib.hid hb
  obtain ⟨V2, c2, hv2, his⟩ := how.form
  obtain ⟨rfl, rfl⟩ : V = V2 ∧ cv = c2 := by injection hv2 with a _ b; exact ⟨a, b⟩
  obtain ⟨gb, go, rfl, _, hcell⟩ := his.getD (q := m) (by rw [hml.out]; omega)
  clear how hb his hv2
  rw [hml.out]
  generalize hy : (vals es x0 x1).getD m 0 = y at *
  have HY := Lib.hid hy
  clear hy
  go_wp2
  go_ret
  exact ⟨ret_int HY.out.symm, hbb.out⟩

theorem okParts {es : List Nd} {x0 x1 : Int} (hv : valsOk es x0 x1 = false) : good es = false ∨ (good es = true ∧ isW x0 = false) ∨ (good es = true ∧ isW x0 = true ∧ isW x1 = false) := by
  cases h1 : good es <;> cases h2 : isW x0 <;> cases h3 : isW x1 <;> simp [valsOk, h1, h2, h3] at hv ⊢

set_option maxHeartbeats 1000000 in
theorem sEvalExpr_any (L B : Nat) (A : Option Addr) (c : Nat) (es : List Nd) (x0 x1 : Int) (w : World) (hl : es.length ≤ 1048576) (hes : NS w L B A es) (hB : B ≤ w.heap.size) :
    Calls Try.prog 12 #[.slice A es.length c, .int .i64 x0, .int .i64 x1] w fun e w' => e = .returned (.tuple #[.int .i64 (evalR es x0 x1), .bool (valsOk es x0 x1)]) ∧ Below w.heap.size w w' := by
  have H := Lib.hid (exGood_any L B A c es w hl hes hB)
  have hE := Lib.hid hes
  have hBB := Lib.hid hB
  clear hes hB
  cases hv : valsOk es x0 x1
  · have hR2 : Hid (evalR es x0 x1 = 0) := by simp [Hid, evalR, hv]
    rcases okParts hv with hg | ⟨hg, hx0⟩ | ⟨hg, hx0, hx1⟩
    all_goals
      clear hv
      go_enter Try.func12, Try.ntmps12
      go_wp2_with (fail)
      refine H.out.mono ?_
      rintro e w2 ⟨rfl, hb⟩
      have hbb := Lib.hid hb
      clear hb
      go_wp2_with (go_at_call 37; refine (exWord_w _ _).mono ?_; rintro e w' ⟨rfl, rfl⟩)
      go_ret2
      exact ⟨by rw [hR2.out]; rfl, hbb.out⟩
  · have hR2 := Lib.hid (evalR_of hv)
    obtain ⟨hg, hx0, hx1⟩ := valsOk_parts hv
    obtain ⟨hl1, hl24, hok⟩ := good_len hg
    have hV := Lib.hid (fun w2 (hbb : Below w.heap.size w w2) => exAt_any L B A c es x0 x1 w2 hl24 hl1 (hE.out.below hbb hBB.out) (Nat.le_trans hBB.out hbb.size) hok ((isW_iff _).1 hx0) ((isW_iff _).1 hx1))
    clear hok hv
    go_enter Try.func12, Try.ntmps12
    go_wp2_with (fail)
    refine H.out.mono ?_
    rintro e w2 ⟨rfl, hb⟩
    have hbb := Lib.hid hb
    clear hb
    go_wp2_with (go_at_call 37; refine (exWord_w _ _).mono ?_; rintro e w' ⟨rfl, rfl⟩)
    refine (hV.out w2 hbb.out).mono ?_
    rintro e w3 ⟨rfl, hb3⟩
    go_wp2_with (fail)
    go_ret2
    exact ⟨by rw [hR2.out]; rfl, hbb.out.trans (hb3.mono hbb.out.size)⟩

set_option maxHeartbeats 1000000 in
theorem iEvalExpr_any (L B : Nat) (A : Option Addr) (c : Nat) (es : List Nd) (x0 x1 : Int) (w : World) (hl : es.length ≤ 1048576) (hes : NS w L B A es) (hB : B ≤ w.heap.size) :
    Calls Try.prog 14 #[.slice A es.length c, .int .i64 x0, .int .i64 x1] w fun e w' => e = .returned (.tuple #[.int .i64 (evalR es x0 x1), .bool (valsOk es x0 x1)]) ∧ Below w.heap.size w w' := by
  have H0 := iValuesOf_any L B A c es x0 x1 w hl hes hB
  clear hes hB
  cases hv : valsOk es x0 x1
  · have hR2 : Hid (evalR es x0 x1 = 0) := by simp [Hid, evalR, hv]
    rw [hv] at H0
    have H := Lib.hid H0
    clear H0 hv
    go_enter Try.func14, Try.ntmps14
    go_wp2_with (fail)
    refine H.out.mono ?_
    rintro e w2 ⟨V, cv, rfl, how, hb⟩
    have hbb := Lib.hid hb
    clear hb how
    go_wp2_with (fail)
    go_ret2
    exact ⟨by rw [hR2.out]; rfl, hbb.out⟩
  · have hR2 := Lib.hid (evalR_of hv)
    have hRV : valsR es x0 x1 = vals es x0 x1 := by simp [valsR, hv]
    obtain ⟨hg, _, _⟩ := valsOk_parts hv
    obtain ⟨hl1, hl24, _⟩ := good_len hg
    obtain ⟨m, hm⟩ : ∃ m, es.length = m + 1 := ⟨es.length - 1, by omega⟩
    have hml : Hid ((vals es x0 x1).length = m + 1) := by rw [Hid, vals_len, hm]
    rw [hv, hRV, hm] at H0
    rw [hm]
    have hR3 : Hid (evalR es x0 x1 = (vals es x0 x1).getD m 0) := by rw [Hid, hR2.out, hm]; rfl
    have H := Lib.hid H0
    have hm24 : m + 1 ≤ 24 := by omega
    clear H0 hv hRV hg hl1 hl24 hl hm hR2
    go_enter Try.func14, Try.ntmps14
    go_wp2_with (fail)
    refine H.out.mono ?_
    rintro e w2 ⟨V, cv, rfl, how, hb⟩
    have hbb := Lib.hid hb
    obtain ⟨V2, c2, hv2, his⟩ := how.form
    obtain ⟨rfl, rfl⟩ : V = V2 ∧ cv = c2 := by injection hv2 with a _ b; exact ⟨a, b⟩
    obtain ⟨gb, go, rfl, _, hcell⟩ := his.getD (q := m) (by rw [hml.out]; omega)
    clear how hb his hv2
    rw [hml.out]
    generalize hy : (vals es x0 x1).getD m 0 = y at *
    have HY := Lib.hid hy
    clear hy
    go_wp2_with (fail)
    go_ret2
    exact ⟨by rw [hR3.out]; rfl, hbb.out⟩
end Go.Proofs.Ytpcdmjlooeljkaa
