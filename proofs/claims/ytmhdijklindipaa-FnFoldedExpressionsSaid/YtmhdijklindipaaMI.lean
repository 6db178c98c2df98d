import Derived.Test.YtmhdijklindipaaV2
/- Chapter 2's plain model. No program. -/
namespace Go.Proofs.Ytmhdijklindipaa
open Go.RowKit
set_option linter.unusedVariables false

structure In where
  op : ByteArray
  d : Int
  a : Int
  b : Int
  m : Int
def In.enc (x : In) : List Value := [.string x.op, .int .i64 x.d, .int .i64 x.a, .int .i64 x.b, .int .i64 x.m]
def In.val (x : In) : Value := .agg #[.string x.op, .int .i64 x.d, .int .i64 x.a, .int .i64 x.b, .int .i64 x.m]

/-- What an op uses, and its cost. -/
structure Fm where
  ok : Bool
  a : Bool
  b : Bool
  lo : Int
  hi : Int
  c : Int
def fmV (f : Fm) : Value := .agg #[.bool f.a, .bool f.b, .int .i64 f.lo, .int .i64 f.hi, .int .i64 f.c]
def fm (s : ByteArray) : Fm :=
  if s.toList = [115,101,116] then ⟨true, false, false, 0, 63, 1⟩ else
  if s.toList = [109,111,118] then ⟨true, true, false, 0, 0, 1⟩ else
  if s.toList = [110,111,116] then ⟨true, true, false, 0, 0, 1⟩ else
  if s.toList = [110,101,103] then ⟨true, true, false, 0, 0, 1⟩ else
  if s.toList = [97,100,100] then ⟨true, true, true, 0, 0, 1⟩ else
  if s.toList = [115,117,98] then ⟨true, true, true, 0, 0, 1⟩ else
  if s.toList = [97,110,100] then ⟨true, true, true, 0, 0, 1⟩ else
  if s.toList = [111,114] then ⟨true, true, true, 0, 0, 1⟩ else
  if s.toList = [120,111,114] then ⟨true, true, true, 0, 0, 1⟩ else
  if s.toList = [108,101,115,115] then ⟨true, true, true, 0, 0, 1⟩ else
  if s.toList = [101,113] then ⟨true, true, true, 0, 0, 1⟩ else
  if s.toList = [115,104,108] then ⟨true, true, true, 0, 0, 2⟩ else
  if s.toList = [115,104,114] then ⟨true, true, true, 0, 0, 2⟩ else
  if s.toList = [109,117,108] then ⟨true, true, true, 0, 0, 4⟩ else
  if s.toList = [97,100,100,105] then ⟨true, true, false, 0, 63, 1⟩ else
  if s.toList = [97,110,100,105] then ⟨true, true, false, 0, 63, 1⟩ else
  if s.toList = [120,111,114,105] then ⟨true, true, false, 0, 63, 1⟩ else
  if s.toList = [115,104,108,105] then ⟨true, true, false, 1, 5, 1⟩ else
  if s.toList = [115,104,114,105] then ⟨true, true, false, 1, 5, 1⟩ else
  if s.toList = [108,101,97] then ⟨true, true, true, 1, 3, 1⟩ else ⟨false, false, false, 0, 0, 0⟩
def reg (r : Int) : Bool := inR r 0 5
def opnd (r : Int) (u : Bool) : Bool := r == 0 || (u && reg r)
def goodIn (x : In) : Bool := (fm x.op).ok && reg x.d && opnd x.a (fm x.op).a && opnd x.b (fm x.op).b && inR x.m (fm x.op).lo (fm x.op).hi
def okCode (es : List In) : Bool := decide (es.length ≤ 40) && es.all goodIn
theorem okCode_len {es : List In} (h : okCode es = true) : es.length ≤ 40 := by simp [okCode] at h; exact h.1
theorem okCode_all {es : List In} (h : okCode es = true) : ∀ x ∈ es, goodIn x = true := by simp [okCode] at h; exact h.2
theorem all_snoc {es : List In} {k : Nat} (h : k < es.length) : (es.take (k + 1)).all goodIn = ((es.take k).all goodIn && goodIn es[k]) := by
  rw [List.take_succ_eq_append_getElem h, List.all_append]; simp
theorem all_of_take {es : List In} {k : Nat} (h : (es.take k).all goodIn = false) : es.all goodIn = false := by
  cases hh : es.all goodIn
  · rfl
  · rw [← List.take_append_drop k es, List.all_append] at hh; simp [h] at hh
theorem ite_P {p : Prop} [Decidable p] {α : Type} {P : α → Prop} {a b : α} (ha : P a) (hb : P b) : P (if p then a else b) := by split <;> assumption
theorem fm_c (s : ByteArray) : 0 ≤ (fm s).c ∧ (fm s).c ≤ 4 := by
  show (fun f : Fm => 0 ≤ f.c ∧ f.c ≤ 4) (fm s)
  unfold fm
  repeat (refine ite_P (P := fun f : Fm => 0 ≤ f.c ∧ f.c ≤ 4) (by decide) ?_)
  decide
def sumC (es : List In) : Int := es.foldl (fun n x => n + (fm x.op).c) 0
theorem sumC_snoc {es : List In} {k : Nat} (h : k < es.length) : sumC (es.take (k + 1)) = sumC (es.take k) + (fm es[k].op).c := by
  unfold sumC; rw [List.take_succ_eq_append_getElem h, List.foldl_append]; rfl
theorem sumC_bd {es : List In} {k : Nat} (h : k ≤ es.length) : 0 ≤ sumC (es.take k) ∧ sumC (es.take k) ≤ 4 * k := by
  induction k with
  | zero => simp [sumC]
  | succ k ih =>
    rw [sumC_snoc (by omega)]
    have := ih (by omega)
    have := fm_c es[k].op
    omega
/-- A register that is read: 0 where the op does not read it. -/
theorem good_parts {x : In} (h : goodIn x = true) : (0 ≤ x.d ∧ x.d ≤ 5) ∧ (0 ≤ x.a ∧ x.a ≤ 5) ∧ (0 ≤ x.b ∧ x.b ≤ 5) ∧ (fm x.op).ok = true ∧ ((fm x.op).lo ≤ x.m ∧ x.m ≤ (fm x.op).hi) := by
  simp only [goodIn, opnd, reg, Bool.and_eq_true, Bool.or_eq_true, inR_iff, beq_iff_eq] at h
  obtain ⟨⟨⟨⟨h1, h2⟩, h3⟩, h4⟩, h5⟩ := h
  refine ⟨h2, ?_, ?_, h1, h5⟩
  · rcases h3 with h | h <;> omega
  · rcases h4 with h | h <;> omega
end Go.Proofs.Ytmhdijklindipaa
