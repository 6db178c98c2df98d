import Derived.Test.YtcfmfbgnfpgpgaaKP
import Derived.Test.YtcfmfbgnfpgpgaaK2
import Derived.Test.YtcfmfbgnfpgpgaaTB
/- Bits that are asked for. No program. -/
namespace Go.Proofs.Ytcfmfbgnfpgpgaa
open Go.RowKit
set_option linter.unusedVariables false

theorem getD_set_ne {xs : List Int} {i q : Nat} (v : Int) (h : q ≠ i) : (xs.set i v).getD q 0 = xs.getD q 0 := by
  rw [List.getD_eq_getElem?_getD, List.getD_eq_getElem?_getD, List.getElem?_set_ne (fun e => h e.symm)]
theorem getD_set_eq {xs : List Int} {i : Nat} (v : Int) (h : i < xs.length) : (xs.set i v).getD i 0 = v := by
  rw [List.getD_eq_getElem?_getD, List.getElem?_set_self h]; rfl
theorem set_getD_self {xs : List Int} {i : Nat} {v : Int} (h : i < xs.length) (hv : v = xs.getD i 0) : xs.set i v = xs := by
  apply list_ext_getD (by simp)
  intro q _
  by_cases e : q = i
  · rw [e, getD_set_eq v h, hv]
  · rw [getD_set_ne v e]
theorem fillG_hi {es : List Nd} {x0 x1 : Int} {f : Nat} {xs : List Int} : ∀ {m q : Nat}, f + m ≤ q → (fillG es x0 x1 f xs m).getD q 0 = xs.getD q 0
  | 0, q, _ => rfl
  | m + 1, q, h => by rw [fillG, getD_set_ne _ (by omega), fillG_hi (by omega)]
theorem fillG_ext {es : List Nd} {x0 x1 : Int} {f : Nat} {xs ys : List Int} (hx : xs.length = es.length) (hy : ys.length = es.length) (hok : okFrom es 0 = true) (h : ∀ q, q < f → xs.getD q 0 = ys.getD q 0) :
    ∀ {m : Nat}, f + m ≤ es.length → ∀ q, q < f + m → (fillG es x0 x1 f xs m).getD q 0 = (fillG es x0 x1 f ys m).getD q 0
  | 0, _, q, hq => h q (by omega)
  | m + 1, hm, q, hq => by
    have ih := fillG_ext (x0 := x0) (x1 := x1) hx hy hok h (m := m) (by omega)
    rw [fillG_succ (by omega), fillG_succ (by omega)]
    by_cases e : q = f + m
    · subst e
      rw [getD_set_eq _ (by rw [fillG_len]; omega), getD_set_eq _ (by rw [fillG_len]; omega)]
      exact nodeVal_ext (ok_get hok (by omega)) ih
    · rw [getD_set_ne _ e, getD_set_ne _ e]; exact ih q (by omega)
theorem valsAt_get {es : List Nd} {x0 x1 : Int} : ∀ {n k : Nat}, k < n → n ≤ es.length → ∀ h : k < es.length, (valsAt es x0 x1 n).getD k 0 = nodeVal es[k] (valsAt es x0 x1 k) x0 x1
  | 0, k, hk, _, _ => absurd hk (Nat.not_lt_zero _)
  | n + 1, k, hk, hn, h => by
    rw [valsAt_succ x0 x1 (by omega), List.getD_eq_getElem?_getD]
    by_cases e : k = n
    · subst e; rw [List.getElem?_append_right (by rw [valsAt_len]; omega), valsAt_len, Nat.sub_self]; rfl
    · rw [List.getElem?_append_left (by rw [valsAt_len]; omega), ← List.getD_eq_getElem?_getD]
      exact valsAt_get (by omega) (by omega) h
/-- A leaf's value hangs on no other. -/
theorem leaf_val {n : Nd} (h : isConst n.op = true ∨ isIn n.op = true) (vs us : List Int) (x0 x1 : Int) : nodeVal n vs x0 x1 = nodeVal n us x0 x1 := by
  unfold nodeVal
  cases hc : isConst n.op
  · rcases h with h | h
    · rw [hc] at h; cases h
    · simp only [h, if_true]
  · simp only [if_true]
/-- Filling from i + 1 on, where the values of the leaves stand already. -/
theorem fill_leaf {es : List Nd} {x0 x1 : Int} {i m : Nat} {wd : Int} (h : i + 1 + m < es.length) (hl : isConst es[i + 1 + m].op = true ∨ isIn es[i + 1 + m].op = true) :
    fillG es x0 x1 (i + 1) ((vals es x0 x1).set i wd) (m + 1) = fillG es x0 x1 (i + 1) ((vals es x0 x1).set i wd) m := by
  rw [fillG_succ h]
  have hvl : (vals es x0 x1).length = es.length := valsAt_len _ _ _ _
  refine set_getD_self (by rw [fillG_len, List.length_set, hvl]; exact h) ?_
  rw [fillG_hi (Nat.le_refl _), getD_set_ne _ (by omega), leaf_val hl _ (valsAt es x0 x1 (i + 1 + m))]
  exact (valsAt_get h (Nat.le_refl _) h).symm

def askR (es : List Nd) (i : Nat) (x0 x1 wd : Int) : Int := (fillG es x0 x1 (i + 1) ((vals es x0 x1).set i wd) (es.length - (i + 1))).getD (es.length - 1) 0
def pw (j : Nat) : Int := ((2 ^ j : Nat) : Int)
def askP (es : List Nd) (i : Nat) (x0 x1 : Int) (j : Nat) : Bool := askR es i x0 x1 (bits .xor .i64 ((vals es x0 x1).getD i 0) (pw j)) != at2 es x0 x1
/-- Bits put to a word. -/
def mlI (m : Int) (P : Nat → Bool) : Nat → Int
  | 0 => m
  | j + 1 => if P j = true then bits .or .i64 (mlI m P j) (pw j) else mlI m P j
def askT (es : List Nd) (i : Nat) (t : Nat) : Int := mlI 0 (askP es i ((t / 64 : Nat) : Int) ((t % 64 : Nat) : Int)) 6
def abB (es : List Nd) (k : Int) : Bool := good es && inR k 0 (es.length - 1)
def abR (es : List Nd) (k : Int) : Int := if abB es k = true then orI (askT es k.toNat) 4096 else 0
theorem pw_bd {j : Nat} (h : j < 6) : 0 ≤ pw j ∧ pw j ≤ 63 := by
  unfold pw
  have : j = 0 ∨ j = 1 ∨ j = 2 ∨ j = 3 ∨ j = 4 ∨ j = 5 := by omega
  rcases this with h | h | h | h | h | h <;> subst h <;> decide
theorem mlI_bd {m : Int} {P : Nat → Bool} (h : 0 ≤ m ∧ m ≤ 63) : ∀ {j : Nat}, j ≤ 6 → 0 ≤ mlI m P j ∧ mlI m P j ≤ 63
  | 0, _ => h
  | j + 1, hj => by
    have ih := mlI_bd h (P := P) (j := j) (by omega)
    have hp := pw_bd (j := j) (by omega)
    rw [mlI]; split
    · exact bor_bd _ _ ih.1 ih.2 hp.1 hp.2
    · exact ih
theorem bor_assoc (a b c : Int) : bits .or .i64 (bits .or .i64 a b) c = bits .or .i64 a (bits .or .i64 b c) := by
  rw [b_or, b_or, b_or, b_or, ofInt_wI, ofInt_wI, BitVec.or_assoc]
theorem bor_z {a : Int} (h : 0 ≤ a ∧ a ≤ 63) : bits .or .i64 a 0 = a := by
  rw [b_or, show BitVec.ofInt 64 0 = 0#64 from rfl, BitVec.or_zero, wI_of] <;> omega
theorem mlI_or {m : Int} {P : Nat → Bool} (h : 0 ≤ m ∧ m ≤ 63) : ∀ j, mlI m P j = bits .or .i64 m (mlI 0 P j)
  | 0 => (bor_z h).symm
  | j + 1 => by
    rw [mlI, mlI, mlI_or h j]; split
    · exact bor_assoc _ _ _
    · rfl
theorem askT_bd (es : List Nd) (i t : Nat) : 0 ≤ askT es i t ∧ askT es i t ≤ 63 := mlI_bd ⟨Int.le_refl _, by show (0 : Int) ≤ 63; omega⟩ (Nat.le_refl _)
/-- One more pair of inputs. -/
theorem ask_next (es : List Nd) (i t : Nat) : mlI (orI (askT es i) t) (askP es i ((t / 64 : Nat) : Int) ((t % 64 : Nat) : Int)) 6 = orI (askT es i) (t + 1) := by
  rw [mlI_or (orI_bd fun k _ => askT_bd es i k), orI]; rfl
theorem bor_nat {a b : Nat} (ha : a < 64) (hb : b < 64) : bits .or .i64 (a : Int) (b : Int) = ((a ||| b : Nat) : Int) := by
  have h1 : (BitVec.ofInt 64 (a : Int)).toNat = a := by rw [BitVec.toNat_ofInt]; omega
  have h2 : (BitVec.ofInt 64 (b : Int)).toNat = b := by rw [BitVec.toNat_ofInt]; omega
  have h3 : a ||| b < 2 ^ 6 := Nat.or_lt_two_pow (by omega) (by omega)
  rw [b_or]; unfold wI
  rw [BitVec.toNat_or, h1, h2, IntKind.wrap_i64]; omega
theorem or_set : ∀ n : Fin 64, ∀ j : Fin 6, (n.1 / 2 ^ j.1) % 2 = 1 → n.1 ||| 2 ^ j.1 = n.1 := by decide
theorem or_bit {m : Int} {j : Nat} (h : 0 ≤ m ∧ m ≤ 63) (hj : j < 6) (hb : (m / pw j) % 2 = 1) : bits .or .i64 m (pw j) = m := by
  obtain ⟨n, rfl⟩ := Int.eq_ofNat_of_zero_le h.1
  have hp := pw_bd hj
  have h1 : (n / 2 ^ j) % 2 = 1 := by unfold pw at hb; exact_mod_cast hb
  unfold pw
  rw [bor_nat (by omega) (by unfold pw at hp; omega), or_set ⟨n, by omega⟩ ⟨j, hj⟩ h1]
theorem mlI_yes {m : Int} {P : Nat → Bool} {j : Nat} (h : P j = true) : mlI m P (j + 1) = bits .or .i64 (mlI m P j) (pw j) := by rw [mlI, if_pos h]
theorem mlI_no {m : Int} {P : Nat → Bool} {j : Nat} (h : P j = false) : mlI m P (j + 1) = mlI m P j := by rw [mlI, if_neg (by rw [h]; decide)]
theorem mlI_set {m : Int} {P : Nat → Bool} {j : Nat} (h : 0 ≤ m ∧ m ≤ 63) (hj : j < 6) (hb : (mlI m P j / pw j) % 2 = 1) : mlI m P (j + 1) = mlI m P j := by
  rw [mlI]; split
  · exact or_bit (mlI_bd h (by omega)) hj hb
  · rfl
end Go.Proofs.Ytcfmfbgnfpgpgaa
