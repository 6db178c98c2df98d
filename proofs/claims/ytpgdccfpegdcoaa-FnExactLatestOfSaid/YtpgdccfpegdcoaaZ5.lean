/- Texts of this proof, one behind the other: E, D, F, G, J, YA. -/
import Derived.Test.YtpgdccfpegdcoaaZ6
import Derived.Test.YtpgdccfpegdcoaaLI
import Derived.WalkKit
import Derived.WalkSpells
import Derived.WalkLawsBesides
import Derived.Laws.MakeOwn
import Derived.Lib.Hide
namespace Go.Proofs.Ytpgdccfpegdcoaa
open Go.RowKit
set_option linter.unusedVariables false

def UsesAre (w : World) (xs : List Int) (e : Ending) (w' : World) : Prop :=
  ∃ g, e = .returned (.slice (some ⟨g, 0, none⟩) xs.length xs.length) ∧ w.heap.size ≤ g ∧ IB w' g 3 xs ∧ Below w.heap.size w w'

end Go.Proofs.Ytpgdccfpegdcoaa

namespace Go.Proofs.Ytpgdccfpegdcoaa
open Go.RowKit

theorem two_not_one (s : ByteArray) (h : isTwo s = true) : isOne s = false := by
  rcases ar_cases s with ⟨_, h3, h4⟩|⟨_, h3, h4⟩|⟨_, h3, h4⟩|⟨_, h3, h4⟩ <;> simp_all

end Go.Proofs.Ytpgdccfpegdcoaa

namespace Go.Proofs.Ytpgdccfpegdcoaa
open Go.RowKit
set_option linter.unusedVariables false

def okFrom : List Nd → Int → Bool
  | [], _ => true
  | n :: t, i => isNode n i && okFrom t (i + 1)
theorem okFrom_snoc (l : List Nd) (n : Nd) (i : Int) : okFrom (l ++ [n]) i = (okFrom l i && isNode n (i + l.length)) := by
  induction l generalizing i with
  | nil => simp [okFrom]
  | cons a l ih => simp only [List.cons_append, okFrom, ih, Bool.and_assoc, List.length_cons]; congr 3; omega
theorem okFrom_take {es : List Nd} {k : Nat} (h : k < es.length) : okFrom (es.take (k + 1)) 0 = (okFrom (es.take k) 0 && isNode es[k] k) := by
  rw [List.take_succ_eq_append_getElem h, okFrom_snoc, List.length_take]; congr 2; omega
theorem okFrom_pre {l r : List Nd} {i : Int} (h : okFrom (l ++ r) i = true) : okFrom l i = true := by
  induction l generalizing i with
  | nil => rfl
  | cons a l ih => simp only [List.cons_append, okFrom, Bool.and_eq_true] at h ⊢; exact ⟨h.1, ih h.2⟩
theorem okFrom_of_take {es : List Nd} {k : Nat} (h : okFrom (es.take k) 0 = false) : okFrom es 0 = false := by
  cases hh : okFrom es 0
  · rfl
  · rw [← List.take_append_drop k es] at hh; rw [okFrom_pre hh] at h; cases h

def good (es : List Nd) : Bool := decide (1 ≤ es.length) && decide (es.length ≤ 24) && okFrom es 0 && !(hasI ((uses es).take (es.length - 1)) 0)

theorem isNode_parts {n : Nd} {i : Int} (h : isNode n i = true) : ∀ p ∈ parts n, 0 ≤ p ∧ p ≤ i - 1 := by
  obtain ⟨s, a, b, v⟩ := n
  intro p hp
  unfold isNode at h
  unfold parts at hp
  have hx : isIn s = true → isOne s = false ∧ isTwo s = false := by
    intro h; have : ar s = 0 := by simp [ar, h]
    rcases ar_cases s with ⟨h1, h3, h4⟩|⟨h1, h3, h4⟩|⟨h1, h3, h4⟩|⟨h1, h3, h4⟩ <;> first | exact ⟨h3, h4⟩ | omega
  have hy : isConst s = true → isOne s = false ∧ isTwo s = false := by
    intro h; have : ar s = 0 := by simp [ar, h]
    rcases ar_cases s with ⟨h1, h3, h4⟩|⟨h1, h3, h4⟩|⟨h1, h3, h4⟩|⟨h1, h3, h4⟩ <;> first | exact ⟨h3, h4⟩ | omega
  dsimp only at h hp
  split at h
  · rename_i h1; rw [(hx h1).1, (hx h1).2] at hp; simp at hp
  · split at h
    · rename_i _ h1; rw [(hy h1).1, (hy h1).2] at hp; simp at hp
    · split at h
      · rename_i h1; rw [if_pos h1] at hp; simp at hp; subst hp; simp only [Bool.and_eq_true] at h; exact (inR_iff _ _ _).1 h.1.1
      · rename_i h1; rw [if_neg h1] at hp; simp only [Bool.and_eq_true] at h
        rw [if_pos h.1.1.1] at hp; simp at hp
        rcases hp with rfl | rfl
        · exact (inR_iff _ _ _).1 h.1.1.2
        · exact (inR_iff _ _ _).1 h.1.2
theorem ok_parts_aux : ∀ (es : List Nd) (i : Int), okFrom es i = true → ∀ n ∈ es, ∀ p ∈ parts n, 0 ≤ p ∧ p < i + es.length := by
  intro es
  induction es with
  | nil => intro i _ n hn; cases hn
  | cons a l ih =>
    intro i h n hn p hp
    simp only [okFrom, Bool.and_eq_true] at h
    rcases List.mem_cons.1 hn with rfl | hn
    · have := isNode_parts h.1 p hp; simp; omega
    · have := ih (i + 1) h.2 n hn p hp; simp; omega
theorem ok_parts {es : List Nd} (h : okFrom es 0 = true) : ∀ n ∈ es, ∀ p ∈ parts n, 0 ≤ p ∧ p < es.length := by
  intro n hn p hp; have := ok_parts_aux es 0 h n hn p hp; omega

theorem IB.take {w : World} {g : Nat} {t : TypeId} {xs : List Int} (h : IB w g t xs) (k : Nat) : IS w g (g + 1) (some ⟨g, 0, none⟩) (xs.take k) :=
  fun _ => ⟨g, 0, rfl, by omega, fun i hi => by
    rw [List.length_take] at hi
    rw [Nat.zero_add, h.cell i (by omega), List.getElem_take]⟩

end Go.Proofs.Ytpgdccfpegdcoaa

namespace Go.Proofs.Ytpgdccfpegdcoaa
open Go.RowKit
set_option linter.unusedVariables false

end Go.Proofs.Ytpgdccfpegdcoaa

namespace Go.Proofs.Ytpgdccfpegdcoaa
open Go.RowKit
set_option linter.unusedVariables false

theorem good_len {es : List Nd} (h : good es = true) : 1 ≤ es.length ∧ es.length ≤ 24 ∧ okFrom es 0 = true := by
  simp only [good, Bool.and_eq_true, decide_eq_true_eq] at h
  exact ⟨h.1.1.1, h.1.1.2, h.1.2⟩

/-! ### CountOps -/
def isOpN (n : Nd) : Bool := isOp n.op
theorem isOpN_ar (n : Nd) : isOpN n = decide (0 < ar n.op) := by
  rcases ar_cases n.op with ⟨h, h3, h4⟩|⟨h, h3, h4⟩|⟨h, h3, h4⟩|⟨h, h3, h4⟩ <;> simp [isOpN, isOp, h, h3, h4]
theorem isOpN_parts (n : Nd) : isOpN n = decide (0 < (parts n).length) := by
  unfold parts isOpN isOp
  cases h1 : isOne n.op <;> cases h2 : isTwo n.op <;> simp
def cntAt (es : List Nd) (k : Nat) : Int := ((es.take k).filter isOpN).length
def cnt (es : List Nd) : Int := cntAt es es.length
theorem cntAt_succ {es : List Nd} {k : Nat} (h : k < es.length) : cntAt es (k + 1) = cntAt es k + if isOpN es[k] = true then 1 else 0 := by
  unfold cntAt; rw [List.take_succ_eq_append_getElem h, List.filter_append, List.length_append]
  cases h1 : isOpN es[k] <;> simp [h1]
theorem cntAt_bd (es : List Nd) (k : Nat) : 0 ≤ cntAt es k ∧ cntAt es k ≤ k := by
  unfold cntAt
  have h1 := List.length_filter_le isOpN (es.take k)
  have h2 : (es.take k).length ≤ k := List.length_take_le _ _
  omega
def cntR (es : List Nd) : Int := if good es = true then cnt es else 0

def allR (xs : List Int) (lo hi : Int) : Bool := xs.all fun x => inR x lo hi
theorem allR_take {xs : List Int} {lo hi : Int} {k : Nat} (h : k < xs.length) : allR (xs.take (k + 1)) lo hi = (allR (xs.take k) lo hi && inR xs[k] lo hi) := by
  unfold allR; rw [List.take_succ_eq_append_getElem h, List.all_append]; simp
theorem allR_of_take {xs : List Int} {lo hi : Int} {k : Nat} (h : allR (xs.take k) lo hi = false) : allR xs lo hi = false := by
  cases hh : allR xs lo hi
  · rfl
  · exfalso
    unfold allR at h hh
    rw [List.all_eq_true] at hh
    rw [List.all_eq_false] at h
    obtain ⟨x, hx, h⟩ := h
    exact h (hh x (List.mem_of_mem_take hx))
def tree (es : List Nd) : Bool := allR (uses es) 0 1
def treeR (es : List Nd) : Bool := good es && tree es

theorem l1AllR_any (L B : Nat) (A : Option Addr) (m c : Nat) (xs : List Int) (lo hi : Int) (w : World) (hm : m = xs.length) (hl : xs.length ≤ 1000000) (hx : IS w L B A xs) :
    Calls Try.prog 72 #[.slice A m c, .int .i64 lo, .int .i64 hi] w fun e w' => e = .returned (.bool (allR xs lo hi)) ∧ w = w' := by
  subst hm
  have hX := Lib.hid hx; clear hx
  go_enter Try.func72, Try.ntmps72
  go_wp2
  go_loop [8, 11] (fun _ i => ∃ k : Nat, k ≤ xs.length ∧ i = .int .i64 k ∧ allR (xs.take k) lo hi = true) (fun _ i => xs.length - (intOf i).toNat)
  case atStart => exact ⟨0, Nat.zero_le _, rfl, rfl⟩
  case round =>
    obtain ⟨k, hk, rfl, hh⟩ := hrel
    have hH := Lib.hid hh; clear hh
    by_cases hlt : k < xs.length
    · obtain ⟨b, o, rfl, _, hc⟩ := hX.out (by omega)
      have hcell := hc k hlt
      clear hc
      have hS := Lib.hid (allR_take (lo := lo) (hi := hi) hlt)
      generalize xs[k] = x at *
      cases hr : inR x lo hi
      · have hF : Hid (allR xs lo hi = false) := allR_of_take (k := k + 1) (by rw [hS.out, hr]; simp)
        go_wp2_with (go_at_call 109; refine (l1In_r _ _ _ _).mono ?_; rintro e w' ⟨rfl, rfl⟩)
        go_ret
        exact ⟨ret_bool hF.out.symm, rfl⟩
      · have hR := Lib.hid hr
        go_wp2_with (go_at_call 109; refine (l1In_r _ _ _ _).mono ?_; rintro e w' ⟨rfl, rfl⟩)
        go_round
        case rel => exact ⟨k + 1, by omega, by go_num, by rw [hS.out, hH.out, hR.out]; rfl⟩
        case measure => simp [intOf]; omega
    · obtain rfl : k = xs.length := by omega
      go_wp2
      go_ret
      exact ⟨ret_bool (by have := hH.out; rw [List.take_length] at this; rw [this]), rfl⟩

end Go.Proofs.Ytpgdccfpegdcoaa

/- The cost of an expression. -/
namespace Go.Proofs.Ytpgdccfpegdcoaa
open Go.RowKit
set_option linter.unusedVariables false

theorem node4_b {w w2 : World} {a b c d : Value} {t : TypeId} {C : Nat} (hb : Below C (w.alloc (.cells #[a, b, c, d] t)) w2) (hC : w.heap.size < C) : w2.cell? ⟨w.heap.size, 0, none⟩ = some a ∧ w2.cell? ⟨w.heap.size, 1, none⟩ = some b ∧
    w2.cell? ⟨w.heap.size, 2, none⟩ = some c ∧ w2.cell? ⟨w.heap.size, 3, none⟩ = some d := by
  obtain ⟨h1, h2, h3, h4⟩ := node4 w a b c d t
  exact ⟨(hb.cell (by exact hC)).trans h1, (hb.cell (by exact hC)).trans h2, (hb.cell (by exact hC)).trans h3, (hb.cell (by exact hC)).trans h4⟩

def cst (s : ByteArray) : Int := if s.toList = [109,117,108] then 4 else if s.toList = [115,104,108] then 2 else if s.toList = [115,104,114] then 2 else 1
def cstI (s : ByteArray) : Int := if s.toList = [105,110] then 0 else if s.toList = [99,111,110,115,116] then 0 else cst s
def cstN (n : Nd) : Int := if 0 < (parts n).length then cst n.op else 0
theorem cst_bd (s : ByteArray) : 1 ≤ cst s ∧ cst s ≤ 4 := by unfold cst; split; · omega
                                                             split; · omega
                                                             split <;> omega
theorem cstI_bd (s : ByteArray) : 0 ≤ cstI s ∧ cstI s ≤ 4 := by
  have := cst_bd s
  unfold cstI; split; · omega
  split <;> omega
theorem cstN_bd (n : Nd) : 0 ≤ cstN n ∧ cstN n ≤ 4 := by
  have := cst_bd n.op
  unfold cstN; split <;> omega
theorem cstN_eq {n : Nd} (h : isOp n.op = true ∨ isIn n.op = true ∨ isConst n.op = true) : cstI n.op = cstN n := by
  unfold cstI cstN parts
  rcases op_cases n.op with h'|h'|h'|h'|h'|h'|h'|h'|h'|h'|h'|h'|h'|h'|h'
  iterate 14 (· simp [isOne, isTwo, twoOps, h'])
  · exfalso
    obtain ⟨h1, h2, h3, h4, h5, h6, h7, h8, h9, h10, h11, h12, h13, h14⟩ := h'
    have f : ∀ t : List UInt8, (n.op.toList == t) = false → (t == n.op.toList) = false := fun t h => by
      rw [beq_eq_false_iff_ne] at h ⊢; exact Ne.symm h
    simp only [isOp, isIn, isConst, isOne, isTwo, twoOps, List.any_cons, List.any_nil, h1, h2, h3, h4, f _ h5, f _ h6, f _ h7, f _ h8, f _ h9, f _ h10, f _ h11, f _ h12, f _ h13, f _ h14, Bool.or_false, Bool.false_eq_true, or_self] at h
theorem isNode_op {n : Nd} {i : Int} (h : isNode n i = true) : isOp n.op = true ∨ isIn n.op = true ∨ isConst n.op = true := by
  unfold isNode at h
  by_cases h1 : isIn n.op = true
  · exact .inr (.inl h1)
  by_cases h2 : isConst n.op = true
  · exact .inr (.inr h2)
  left
  simp only [Bool.not_eq_true] at h1 h2
  unfold isOp
  cases h3 : isOne n.op
  · cases h4 : isTwo n.op
    · simp [h1, h2, h3, h4] at h
    · rfl
  · rfl
theorem okFrom_mem : ∀ (es : List Nd) (i : Int), okFrom es i = true → ∀ n ∈ es, ∃ j, isNode n j = true := by
  intro es
  induction es with
  | nil => intro i _ n hn; simp at hn
  | cons e t ih =>
    intro i h n hn
    simp only [okFrom, Bool.and_eq_true] at h
    rcases List.mem_cons.mp hn with rfl | hn
    · exact ⟨i, h.1⟩
    · exact ih _ h.2 n hn
theorem good_cst {es : List Nd} (h : good es = true) : ∀ n ∈ es, cstI n.op = cstN n := fun n hn => by
  obtain ⟨j, hj⟩ := okFrom_mem es 0 (good_len h).2.2 n hn
  exact cstN_eq (isNode_op hj)

def sumAt (f : Nd → Int) (es : List Nd) (k : Nat) : Int := ((es.take k).map f).sum
theorem sumAt_succ (f : Nd → Int) {es : List Nd} {k : Nat} (h : k < es.length) : sumAt f es (k + 1) = sumAt f es k + f es[k] := by
  unfold sumAt; rw [List.take_succ_eq_append_getElem h, List.map_append, List.sum_append]; simp
theorem sumAt_bd {f : Nd → Int} (hf : ∀ n, 0 ≤ f n ∧ f n ≤ 4) (es : List Nd) (k : Nat) : 0 ≤ sumAt f es k ∧ sumAt f es k ≤ 4 * k := by
  have H : ∀ l : List Nd, 0 ≤ (l.map f).sum ∧ (l.map f).sum ≤ 4 * l.length := by
    intro l
    induction l with
    | nil => simp
    | cons a t ih => have := hf a; simp only [List.map_cons, List.sum_cons, List.length_cons]; push_cast; omega
  have h2 : (es.take k).length ≤ k := List.length_take_le _ _
  have := H (es.take k)
  unfold sumAt
  omega
theorem sumAt_congr {f g : Nd → Int} {es : List Nd} (h : ∀ n ∈ es, f n = g n) (k : Nat) : sumAt f es k = sumAt g es k := by
  unfold sumAt
  congr 1
  exact List.map_congr_left fun n hn => h n (List.mem_of_mem_take hn)
def cost (es : List Nd) : Int := sumAt cstN es es.length
def costE (es : List Nd) : Int := if good es = true then cost es else 0

set_option maxHeartbeats 1000000 in
theorem ruCdCost_any (s : ByteArray) (w : World) :
    Calls Try.prog 110 #[.string s] w fun e w' => e = .returned (.int .i64 (cst s)) ∧ w = w' := by
  by_cases h1 : s.toList = [109,117,108]
  · have H := Lib.hid (show cst s = 4 by simp [cst, h1])
    go_enter Try.func110, Try.ntmps110
    go_wp2
    go_ret
    exact ⟨by rw [H.out]; rfl, rfl⟩
  by_cases h2 : s.toList = [115,104,108]
  · have H := Lib.hid (show cst s = 2 by simp [cst, h2])
    go_enter Try.func110, Try.ntmps110
    go_wp2
    go_ret
    exact ⟨by rw [H.out]; rfl, rfl⟩
  by_cases h3 : s.toList = [115,104,114]
  · have H := Lib.hid (show cst s = 2 by simp [cst, h3])
    go_enter Try.func110, Try.ntmps110
    go_wp2
    go_ret
    exact ⟨by rw [H.out]; rfl, rfl⟩
  · have H := Lib.hid (show cst s = 1 by simp [cst, h1, h2, h3])
    have g1 : (s.toList == [109,117,108]) = false := by simpa using h1
    have g2 : (s.toList == [115,104,108]) = false := by simpa using h2
    have g3 : (s.toList == [115,104,114]) = false := by simpa using h3
    clear h1 h2 h3
    go_enter Try.func110, Try.ntmps110
    go_wp2
    go_ret
    exact ⟨by rw [H.out]; rfl, rfl⟩

end Go.Proofs.Ytpgdccfpegdcoaa
