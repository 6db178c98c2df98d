/- Texts of this proof, one behind the other: K3, K4. -/
import Derived.Test.YtdleiondfhmjdaaK2
import Derived.Test.YtdleiondfhmjdaaZ8
import Derived.WalkKit
import Derived.WalkSpells
import Derived.WalkLawsBesides
import Derived.Lib.Hide
namespace Go.Proofs.Ytdleiondfhmjdaa
open Go.RowKit
set_option linter.unusedVariables false

def valsOk (es : List Nd) (x0 x1 : Int) : Bool := good es && isW x0 && isW x1
def valsR (es : List Nd) (x0 x1 : Int) : List Int := if valsOk es x0 x1 = true then vals es x0 x1 else []
def evalR (es : List Nd) (x0 x1 : Int) : Int := if valsOk es x0 x1 = true then (vals es x0 x1).getD (es.length - 1) 0 else 0
theorem vals_len (es : List Nd) (x0 x1 : Int) : (vals es x0 x1).length = es.length := valsAt_len _ _ _ _
theorem valsR_len (es : List Nd) (x0 x1 : Int) : (valsR es x0 x1).length ≤ 1048576 := by
  unfold valsR
  cases h : valsOk es x0 x1
  · simp
  · have h1 : good es = true := by simp [valsOk] at h; exact h.1.1
    have := good_len h1; simp [vals_len]; omega
theorem valsOk_parts {es : List Nd} {x0 x1 : Int} (h : valsOk es x0 x1 = true) : good es = true ∧ isW x0 = true ∧ isW x1 = true := by
  simp [valsOk] at h; exact ⟨h.1.1, h.1.2, h.2⟩

theorem fillValues_eq (L B : Nat) (A : Option Addr) (c m cg : Nat) (es : List Nd) (g : Nat) (xs : List Int) (x0 x1 : Int) (w : World) (hm : m = xs.length) (hl : es.length ≤ 24) (hes : NS w L B A es) (hB : B ≤ g) (hxl : xs.length = es.length) (hib : IB w g 3 xs) (hW : AllW xs) (hok : okFrom es 0 = true) (h0 : 0 ≤ x0 ∧ x0 ≤ 63) (h1 : 0 ≤ x1 ∧ x1 ≤ 63) :
    Calls Try.prog 160 #[.slice (some ⟨g, 0, none⟩) m cg, .slice A es.length c, .int .i64 0, .int .i64 x0, .int .i64 x1] w (FilledIs w g (vals es x0 x1)) := by
  subst hm
  have := fillValues_any L B A c cg es g xs 0 x0 x1 w hl hes hB hxl hib hW (Nat.zero_le _) hok h0 h1
  rwa [Nat.sub_zero, fillG_vals hxl hok] at this

end Go.Proofs.Ytdleiondfhmjdaa

namespace Go.Proofs.Ytdleiondfhmjdaa
open Go.RowKit
set_option linter.unusedVariables false

theorem evalR_of {es : List Nd} {x0 x1 : Int} (h : valsOk es x0 x1 = true) : evalR es x0 x1 = (vals es x0 x1).getD (es.length - 1) 0 := by simp [evalR, h]

theorem exAt_any (L B : Nat) (A : Option Addr) (c : Nat) (es : List Nd) (x0 x1 : Int) (w : World) (hl : es.length ≤ 24) (hl1 : 1 ≤ es.length) (hes : NS w L B A es) (hB : B ≤ w.heap.size) (hok : okFrom es 0 = true) (h0 : 0 ≤ x0 ∧ x0 ≤ 63) (h1 : 0 ≤ x1 ∧ x1 ≤ 63) :
    Calls Try.prog 130 #[.slice A es.length c, .int .i64 x0, .int .i64 x1] w fun e w' => e = .returned (.int .i64 ((vals es x0 x1).getD (es.length - 1) 0)) ∧ Below w.heap.size w w' := by
  have H0 := exValues_any L B A c es x0 x1 w hl hes hB hok h0 h1
  obtain ⟨m, hm⟩ : ∃ m, es.length = m + 1 := ⟨es.length - 1, by omega⟩
  have hml : Hid ((vals es x0 x1).length = m + 1) := by rw [Hid, vals_len, hm]
  rw [hm] at H0
  rw [hm, Nat.add_sub_cancel]
  have H := Lib.hid H0
  have hm24 : m + 1 ≤ 24 := by omega
  clear H0 hes hok h0 h1 hl hl1 hm hB
  go_enter Try.func130, Try.ntmps130
  go_wp2_with (fail)
  refine H.out.mono ?_
  rintro e w2 ⟨V, cv, rfl, how, hb⟩
  have hbb := Lib.hid hb
  obtain ⟨V2, c2, hv2, his⟩ := how.form
  obtain ⟨rfl, rfl⟩ : V = V2 ∧ cv = c2 := by injection hv2 with a _ b; exact ⟨a, b⟩
  obtain ⟨gb, go, rfl, _, hcell⟩ := his.getD (q := m) (by rw [hml.out]; omega)
  clear how hb his hv2
  rw [hml.out]
  generalize hy : (vals es x0 x1).getD m 0 = y at *
  have HY := Lib.hid hy
  clear hy
  go_wp2
  go_ret
  exact ⟨ret_int HY.out.symm, hbb.out⟩

theorem okParts {es : List Nd} {x0 x1 : Int} (hv : valsOk es x0 x1 = false) : good es = false ∨ (good es = true ∧ isW x0 = false) ∨ (good es = true ∧ isW x0 = true ∧ isW x1 = false) := by
  cases h1 : good es <;> cases h2 : isW x0 <;> cases h3 : isW x1 <;> simp [valsOk, h1, h2, h3] at hv ⊢

end Go.Proofs.Ytdleiondfhmjdaa
