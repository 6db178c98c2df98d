import Derived.Test.YthjfedidpjfboaaK
import Derived.WalkKit
import Derived.WalkSpells
import Derived.WalkLawsBesides
import Derived.Deep.RegionLaw
import Derived.Lib.Hide
namespace Go.Proofs.Ythjfedidpjfboaa
open Go.RowKit
set_option linter.unusedVariables false

theorem grownBy_trans {a b c : World} {row : Option Nat} (h1 : a.grownBy b row) (h2 : b.grownBy c row) : a.grownBy c row :=
  ⟨h2.os.trans h1.os, h2.tape.trans h1.tape, h2.output.trans h1.output, Nat.le_trans h1.size h2.size, fun k hk hne => (h2.block k (Nat.lt_of_lt_of_le hk h1.size) hne).trans (h1.block k hk hne)⟩
theorem grownBy_of_below {a w : World} (h : Below a.heap.size a w) (row : Option Nat) : a.grownBy w row := ⟨h.os, h.tape, h.output, h.size, fun i hi _ => h.block i hi⟩

theorem ap_one {s : ByteArray} (h : isOne s = true) (a b : Int) : ap s a b = ap s a 0 := by
  rcases op_cases s with h'|h'|h'|h'|h'|h'|h'|h'|h'|h'|h'|h'|h'|h'|h'
  · simp [isOne, h'] at h
  · simp [isOne, h'] at h
  · rw [ap_not h', ap_not h']
  · rw [ap_neg h', ap_neg h']
  iterate 10 (· simp [isOne, h'] at h)
  · simp [isOne, h'.2.2.1, h'.2.2.2.1] at h

theorem node4_below {w w2 : World} {a b c d : Value} {t : TypeId} {C : Nat} (hb : Below C (w.alloc (.cells #[a, b, c, d] t)) w2) (hC : w.heap.size < C) : w2.cell? ⟨w.heap.size, 0, none⟩ = some a ∧ w2.cell? ⟨w.heap.size, 1, none⟩ = some b ∧
    w2.cell? ⟨w.heap.size, 2, none⟩ = some c ∧ w2.cell? ⟨w.heap.size, 3, none⟩ = some d := by
  obtain ⟨h1, h2, h3, h4⟩ := node4 w a b c d t
  exact ⟨(hb.cell (by exact hC)).trans h1, (hb.cell (by exact hC)).trans h2, (hb.cell (by exact hC)).trans h3, (hb.cell (by exact hC)).trans h4⟩
theorem IB.alloc_ {w : World} {g : Nat} {t : TypeId} {xs : List Int} (h : IB w g t xs) (o : Obj) : IB (w.alloc o) g t xs := h.below ((Below.refl w.heap.size w).alloc (Nat.le_refl _) o) h.lt
theorem IB.cell_ex {w : World} {g : Nat} {t : TypeId} {xs : List Int} (h : IB w g t xs) {k : Nat} (hk : k < xs.length) : ∃ y, w.cell? ⟨g, k, none⟩ = some (.int .i64 y) := ⟨_, h.cell k hk⟩

theorem AllW.set {xs : List Int} (h : AllW xs) {i : Nat} {x : Int} (hx : 0 ≤ x ∧ x ≤ 63) : AllW (xs.set i x) := by
  intro j
  have hj := h j
  rw [List.getD_eq_getElem?_getD] at hj ⊢
  rw [List.getElem?_set]
  split
  · split
    · exact hx
    · simp
  · exact hj
theorem AllW.zeros (n : Nat) : AllW (Go.Proofs.Ythjfedidpjfboaa.zeros n) := by
  intro i
  rw [List.getD_eq_getElem?_getD]
  unfold Go.Proofs.Ythjfedidpjfboaa.zeros
  rw [List.getElem?_replicate]
  split <;> simp
/-- The list while it is filled from f on. -/
def fillG (es : List Nd) (x0 x1 : Int) (f : Nat) (xs : List Int) : Nat → List Int
  | 0 => xs
  | n + 1 => (fillG es x0 x1 f xs n).set (f + n) (nodeVal (es.getD (f + n) zeroNd) (fillG es x0 x1 f xs n) x0 x1)
theorem fillG_len (es : List Nd) (x0 x1 : Int) (f : Nat) (xs : List Int) (n : Nat) : (fillG es x0 x1 f xs n).length = xs.length := by
  induction n with
  | zero => rfl
  | succ n ih => rw [fillG, List.length_set, ih]
theorem fillG_succ {es : List Nd} {x0 x1 : Int} {f : Nat} {xs : List Int} {n : Nat} (h : f + n < es.length) : fillG es x0 x1 f xs (n + 1) = (fillG es x0 x1 f xs n).set (f + n) (nodeVal es[f + n] (fillG es x0 x1 f xs n) x0 x1) := by
  rw [fillG, List.getD_eq_getElem?_getD, List.getElem?_eq_getElem h]; rfl
theorem fillG_W {es : List Nd} {x0 x1 : Int} {f : Nat} {xs : List Int} (hw : AllW xs) (hok : okFrom es 0 = true) (h0 : 0 ≤ x0 ∧ x0 ≤ 63) (h1 : 0 ≤ x1 ∧ x1 ≤ 63) {n : Nat} (hn : f + n ≤ es.length) : AllW (fillG es x0 x1 f xs n) := by
  induction n with
  | zero => exact hw
  | succ n ih =>
    rw [fillG_succ (by omega)]
    exact (ih (by omega)).set (nodeVal_bd (ok_get hok (by omega)) (ih (by omega)) h0 h1)
theorem nodeVal_ext {n : Nd} {i : Nat} {vs us : List Int} {x0 x1 : Int} (h : isNode n i = true) (he : ∀ q, q < i → vs.getD q 0 = us.getD q 0) : nodeVal n vs x0 x1 = nodeVal n us x0 x1 := by
  unfold nodeVal
  rcases node_kinds h with ⟨e, k⟩ | ⟨e, e', k⟩ | ⟨e, e', k1, k2, a0, a1, _⟩ | ⟨e, e', k1, k2, a0, a1, b0, b1⟩
  · have hc : isConst n.op = true := by simp [isConst, e]
    simp only [hc, if_true]
  · have hc : isConst n.op = false := e'
    have hi : isIn n.op = true := by simp [isIn, e]
    simp only [hc, hi, Bool.false_eq_true, if_false, if_true]
  · have hc : isConst n.op = false := e
    have hi : isIn n.op = false := e'
    simp only [hc, hi, k1, Bool.false_eq_true, if_false, if_true]
    rw [he _ (by omega)]
  · have hc : isConst n.op = false := e
    have hi : isIn n.op = false := e'
    simp only [hc, hi, k1, Bool.false_eq_true, if_false]
    rw [he _ (by omega), he _ (by omega)]
theorem fillG_at {es : List Nd} {x0 x1 : Int} {xs : List Int} (hl : xs.length = es.length) (hok : okFrom es 0 = true) {n : Nat} (hn : n ≤ es.length) : fillG es x0 x1 0 xs n = valsAt es x0 x1 n ++ xs.drop n := by
  induction n with
  | zero => rfl
  | succ n ih =>
    have hx : n < xs.length := by omega
    rw [fillG_succ (by omega), ih (by omega)]
    simp only [Nat.zero_add]
    rw [List.set_append_right _ _ (by rw [valsAt_len]; omega), valsAt_len, Nat.sub_self, List.drop_eq_getElem_cons hx, List.set_cons_zero, valsAt_succ x0 x1 (by omega), List.append_assoc]
    rw [nodeVal_ext (us := valsAt es x0 x1 n) (ok_get hok (by omega)) (fun q hq => by rw [List.getD_eq_getElem?_getD, List.getD_eq_getElem?_getD, List.getElem?_append_left (by rw [valsAt_len]; exact hq)])]
    rfl
theorem fillG_vals {es : List Nd} {x0 x1 : Int} {xs : List Int} (hl : xs.length = es.length) (hok : okFrom es 0 = true) : fillG es x0 x1 0 xs es.length = vals es x0 x1 := by
  rw [fillG_at hl hok (Nat.le_refl _), List.drop_of_length_le (by omega), List.append_nil]; rfl

def FilledIs (w : World) (g : Nat) (xs : List Int) (e : Ending) (w' : World) : Prop := e = .returned (.tuple #[]) ∧ IB w' g 3 xs ∧ w.grownBy w' (some g)
theorem setInt_grown (w : World) (g i : Nat) (x : Value) : w.grownBy (w.setCell ⟨g, i, none⟩ x) (some g) :=
  ⟨rfl, rfl, rfl, by simp [World.setCell], fun k _ hk => Below.heap_setCell w ⟨g, i, none⟩ x k (fun e => hk (by rw [e]))⟩
theorem alloc_grown {w wr : World} {g : Nat} (h : w.grownBy wr (some g)) (o : Obj) : w.grownBy (wr.alloc o) (some g) := grownBy_trans h (World.grownBy_alloc _ _ _)
theorem drew_grown {w wr : World} {g : Nat} (h : w.grownBy wr (some g)) : w.grownBy wr.drew (some g) := ⟨h.os, h.tape, h.output, h.size, h.block⟩

end Go.Proofs.Ythjfedidpjfboaa
