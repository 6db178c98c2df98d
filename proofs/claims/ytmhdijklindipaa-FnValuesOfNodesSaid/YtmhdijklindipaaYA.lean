import Derived.Test.YtmhdijklindipaaJ
import Derived.Test.YtmhdijklindipaaLI
import Derived.WalkKit
import Derived.WalkSpells
import Derived.WalkLawsBesides
import Derived.Lib.Hide
/- The cost of an expression. -/
namespace Go.Proofs.Ytmhdijklindipaa
open Go.RowKit
set_option linter.unusedVariables false

theorem node4_b {w w2 : World} {a b c d : Value} {t : TypeId} {C : Nat} (hb : Below C (w.alloc (.cells #[a, b, c, d] t)) w2) (hC : w.heap.size < C) : w2.cell? ⟨w.heap.size, 0, none⟩ = some a ∧ w2.cell? ⟨w.heap.size, 1, none⟩ = some b ∧
    w2.cell? ⟨w.heap.size, 2, none⟩ = some c ∧ w2.cell? ⟨w.heap.size, 3, none⟩ = some d := by
  obtain ⟨h1, h2, h3, h4⟩ := node4 w a b c d t
  exact ⟨(hb.cell (by exact hC)).trans h1, (hb.cell (by exact hC)).trans h2, (hb.cell (by exact hC)).trans h3, (hb.cell (by exact hC)).trans h4⟩

def cst (s : ByteArray) : Int := if s.toList = [109,117,108] then 4 else if s.toList = [115,104,108] then 2 else if s.toList = [115,104,114] then 2 else 1
def cstI (s : ByteArray) : Int := if s.toList = [105,110] then 0 else if s.toList = [99,111,110,115,116] then 0 else cst s
def cstN (n : Nd) : Int := if 0 < (parts n).length then cst n.op else 0
theorem cst_bd (s : ByteArray) : 1 ≤ cst s ∧ cst s ≤ 4 := by unfold cst; split; · omega
                                                             split; · omega
                                                             split <;> omega
theorem cstI_bd (s : ByteArray) : 0 ≤ cstI s ∧ cstI s ≤ 4 := by
  have := cst_bd s
  unfold cstI; split; · omega
  split <;> omega
theorem cstN_bd (n : Nd) : 0 ≤ cstN n ∧ cstN n ≤ 4 := by
  have := cst_bd n.op
  unfold cstN; split <;> omega
theorem cstN_eq {n : Nd} (h : isOp n.op = true ∨ isIn n.op = true ∨ isConst n.op = true) : cstI n.op = cstN n := by
  unfold cstI cstN parts
  rcases op_cases n.op with h'|h'|h'|h'|h'|h'|h'|h'|h'|h'|h'|h'|h'|h'|h'
  iterate 14 (· simp [isOne, isTwo, twoOps, h'])
  · exfalso
    obtain ⟨h1, h2, h3, h4, h5, h6, h7, h8, h9, h10, h11, h12, h13, h14⟩ := h'
    have f : ∀ t : List UInt8, (n.op.toList == t) = false → (t == n.op.toList) = false := fun t h => by
      rw [beq_eq_false_iff_ne] at h ⊢; exact Ne.symm h
    simp only [isOp, isIn, isConst, isOne, isTwo, twoOps, List.any_cons, List.any_nil, h1, h2, h3, h4, f _ h5, f _ h6, f _ h7, f _ h8, f _ h9, f _ h10, f _ h11, f _ h12, f _ h13, f _ h14, Bool.or_false, Bool.false_eq_true, or_self] at h
theorem isNode_op {n : Nd} {i : Int} (h : isNode n i = true) : isOp n.op = true ∨ isIn n.op = true ∨ isConst n.op = true := by
  unfold isNode at h
  by_cases h1 : isIn n.op = true
  · exact .inr (.inl h1)
  by_cases h2 : isConst n.op = true
  · exact .inr (.inr h2)
  left
  simp only [Bool.not_eq_true] at h1 h2
  unfold isOp
  cases h3 : isOne n.op
  · cases h4 : isTwo n.op
    · simp [h1, h2, h3, h4] at h
    · rfl
  · rfl
theorem okFrom_mem : ∀ (es : List Nd) (i : Int), okFrom es i = true → ∀ n ∈ es, ∃ j, isNode n j = true := by
  intro es
  induction es with
  | nil => intro i _ n hn; simp at hn
  | cons e t ih =>
    intro i h n hn
    simp only [okFrom, Bool.and_eq_true] at h
    rcases List.mem_cons.mp hn with rfl | hn
    · exact ⟨i, h.1⟩
    · exact ih _ h.2 n hn
theorem good_cst {es : List Nd} (h : good es = true) : ∀ n ∈ es, cstI n.op = cstN n := fun n hn => by
  obtain ⟨j, hj⟩ := okFrom_mem es 0 (good_len h).2.2 n hn
  exact cstN_eq (isNode_op hj)

def sumAt (f : Nd → Int) (es : List Nd) (k : Nat) : Int := ((es.take k).map f).sum
theorem sumAt_succ (f : Nd → Int) {es : List Nd} {k : Nat} (h : k < es.length) : sumAt f es (k + 1) = sumAt f es k + f es[k] := by
  unfold sumAt; rw [List.take_succ_eq_append_getElem h, List.map_append, List.sum_append]; simp
theorem sumAt_bd {f : Nd → Int} (hf : ∀ n, 0 ≤ f n ∧ f n ≤ 4) (es : List Nd) (k : Nat) : 0 ≤ sumAt f es k ∧ sumAt f es k ≤ 4 * k := by
  have H : ∀ l : List Nd, 0 ≤ (l.map f).sum ∧ (l.map f).sum ≤ 4 * l.length := by
    intro l
    induction l with
    | nil => simp
    | cons a t ih => have := hf a; simp only [List.map_cons, List.sum_cons, List.length_cons]; push_cast; omega
  have h2 : (es.take k).length ≤ k := List.length_take_le _ _
  have := H (es.take k)
  unfold sumAt
  omega
theorem sumAt_congr {f g : Nd → Int} {es : List Nd} (h : ∀ n ∈ es, f n = g n) (k : Nat) : sumAt f es k = sumAt g es k := by
  unfold sumAt
  congr 1
  exact List.map_congr_left fun n hn => h n (List.mem_of_mem_take hn)
def cost (es : List Nd) : Int := sumAt cstN es es.length
def costE (es : List Nd) : Int := if good es = true then cost es else 0

set_option maxHeartbeats 1000000 in
theorem ruCdCost_any (s : ByteArray) (w : World) :
    Calls Try.prog 158 #[.string s] w fun e w' => e = .returned (.int .i64 (cst s)) ∧ w = w' := by
  by_cases h1 : s.toList = [109,117,108]
  · have H := Lib.hid (show cst s = 4 by simp [cst, h1])
    go_enter Try.func158, Try.ntmps158
    go_wp2
    go_ret
    exact ⟨by rw [H.out]; rfl, rfl⟩
  by_cases h2 : s.toList = [115,104,108]
  · have H := Lib.hid (show cst s = 2 by simp [cst, h2])
    go_enter Try.func158, Try.ntmps158
    go_wp2
    go_ret
    exact ⟨by rw [H.out]; rfl, rfl⟩
  by_cases h3 : s.toList = [115,104,114]
  · have H := Lib.hid (show cst s = 2 by simp [cst, h3])
    go_enter Try.func158, Try.ntmps158
    go_wp2
    go_ret
    exact ⟨by rw [H.out]; rfl, rfl⟩
  · have H := Lib.hid (show cst s = 1 by simp [cst, h1, h2, h3])
    have g1 : (s.toList == [109,117,108]) = false := by simpa using h1
    have g2 : (s.toList == [115,104,108]) = false := by simpa using h2
    have g3 : (s.toList == [115,104,114]) = false := by simpa using h3
    clear h1 h2 h3
    go_enter Try.func158, Try.ntmps158
    go_wp2
    go_ret
    exact ⟨by rw [H.out]; rfl, rfl⟩

end Go.Proofs.Ytmhdijklindipaa
