import Derived.Test.YtmhdijklindipaaCB
import Derived.Test.YtmhdijklindipaaCC
import Derived.Test.YtmhdijklindipaaKMInstr
import Derived.WalkKit
import Derived.WalkSpells
import Derived.WalkLawsBesides
import Derived.Lib.Hide
namespace Go.Proofs.Ytmhdijklindipaa
open Go.RowKit
set_option linter.unusedVariables false

set_option maxHeartbeats 4000000 in
theorem cdGood_any (op : ByteArray) (d a b m : Int) (w : World) :
    Calls Try.prog 156 #[.agg #[.string op, .int .i64 d, .int .i64 a, .int .i64 b, .int .i64 m]] w fun e w' => e = .returned (.bool (goodIn ⟨op, d, a, b, m⟩)) ∧ Below w.heap.size w w' := by
  have hB1 := fun o => (Below.refl w.heap.size w).alloc (Nat.le_refl _) o
  have hr : Hid (∀ ok fa fb lo hi c, fm op = ⟨ok, fa, fb, lo, hi, c⟩ → goodIn ⟨op, d, a, b, m⟩ = (ok && reg d && opnd a fa && opnd b fb && inR m lo hi)) := by
    intro ok fa fb lo hi c h; simp only [goodIn, h]
  have ho : Hid (∀ r u, opnd r u = (r == 0 || (u && reg r))) := fun _ _ => rfl
  have hz := Lib.hid (show reg 0 = true by decide)
  go_enter Try.func156, Try.ntmps156
  go_wp2_with (fail)
  refine (cdShape_any _ _).mono ?_
  rintro e w' ⟨rfl, rfl⟩
  have hr2 := hr.out
  clear hr
  generalize hf : fm op = f at hr2 ⊢
  obtain ⟨ok, fa, fb, lo, hi, c⟩ := f
  have hr3 := Lib.hid (hr2 ok fa fb lo hi c rfl)
  clear hr2 hf
  cases ok
  · go_wp2_with (first | (go_at_call 151; refine (cdReg_any _ _).mono ?_; rintro e w' ⟨rfl, rfl⟩) | (go_at_call 169; refine (l1In_r _ _ _ _).mono ?_; rintro e w' ⟨rfl, rfl⟩))
    all_goals go_ret
    all_goals exact ⟨ret_bool (by rw [hr3.out]; rfl), hB1 _⟩
  · cases fa
    all_goals cases fb
    all_goals
      go_wp2_with (first | (go_at_call 151; refine (cdReg_any _ _).mono ?_; rintro e w' ⟨rfl, rfl⟩) | (go_at_call 169; refine (l1In_r _ _ _ _).mono ?_; rintro e w' ⟨rfl, rfl⟩))
      all_goals go_ret
      all_goals exact ⟨ret_bool (by rw [hr3.out, ho.out, ho.out]; have := hz.out; simp_all <;> (intros; subst_vars; simp_all)), hB1 _⟩

theorem In.old {w w2 : World} {t : TypeId} {x : In} {g : Nat} (hg : w.heap.size = g) (h : Below (w.alloc (.cells #[.string x.op, .int .i64 x.d, .int .i64 x.a, .int .i64 x.b, .int .i64 x.m] t)).heap.size (w.alloc (.cells #[.string x.op, .int .i64 x.d, .int .i64 x.a, .int .i64 x.b, .int .i64 x.m] t)) w2) :
    w2.cell? ⟨g, 0, none⟩ = some (.string x.op) ∧ w2.cell? ⟨g, 1, none⟩ = some (.int .i64 x.d) ∧ w2.cell? ⟨g, 2, none⟩ = some (.int .i64 x.a) ∧ w2.cell? ⟨g, 3, none⟩ = some (.int .i64 x.b) ∧ w2.cell? ⟨g, 4, none⟩ = some (.int .i64 x.m) := by
  subst hg
  exact In.box (RS.below (In.boxed x) h (by simp))
set_option maxHeartbeats 4000000 in
theorem IsInstr_any (op : ByteArray) (d a b m : Int) (w : World) :
    Calls Try.prog 50 #[.agg #[.string op, .int .i64 d, .int .i64 a, .int .i64 b, .int .i64 m]] w fun e w' => e = .returned (.bool (goodIn ⟨op, d, a, b, m⟩)) ∧ Below w.heap.size w w' := by
  have hB1 := fun o => (Below.refl w.heap.size w).alloc (Nat.le_refl _) o
  have hr : Hid (∀ ok fa fb lo hi c, fm op = ⟨ok, fa, fb, lo, hi, c⟩ → goodIn ⟨op, d, a, b, m⟩ = (ok && reg d && opnd a fa && opnd b fb && inR m lo hi)) := by
    intro ok fa fb lo hi c h; simp only [goodIn, h]
  go_enter Try.func50, Try.ntmps50
  go_wp2_with (fail)
  refine (formOf_any _ _).mono ?_
  rintro e w2 ⟨rfl, hb⟩
  have hr2 := hr.out
  clear hr
  generalize hf : fm op = f at hr2 ⊢
  obtain ⟨ok, fa, fb, lo, hi, c⟩ := f
  have hr3 := Lib.hid (hr2 ok fa fb lo hi c rfl)
  clear hr2 hf
  obtain ⟨xa, xb, xc, xd, xe⟩ := In.old (x := ⟨op, d, a, b, m⟩) rfl hb
  have hbb := Lib.hid ((hB1 _).trans (hb.mono (by simp)))
  have hz2 : w.heap.size < w2.heap.size := by have := hb.size; simp at this; omega
  clear hb hB1
  have hfin := fun o => hbb.out.alloc hbb.out.size o
  simp only [fmV]
  by_cases h1 : lo ≤ m
  all_goals by_cases h2 : m ≤ hi
  all_goals cases ok
  all_goals
    go_wp2_with (first | (go_at_call 150; refine (isRegister_any _ _).mono ?_; rintro e w' ⟨rfl, rfl⟩) | (go_at_call 162; refine (isOperand_any _ _ _).mono ?_; rintro e w' ⟨rfl, rfl⟩))
    all_goals go_ret
    all_goals exact ⟨ret_bool (by rw [hr3.out]; simp_all [inR]), hfin _⟩
end Go.Proofs.Ytmhdijklindipaa
