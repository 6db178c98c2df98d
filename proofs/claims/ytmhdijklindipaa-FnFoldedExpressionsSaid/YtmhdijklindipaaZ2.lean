/- Texts of this proof, one behind the other: XO, FB, FC, FD, FE, IB. -/
import Derived.Test.YtmhdijklindipaaZ3
import Derived.Test.YtmhdijklindipaaZ9
import Derived.Test.YtmhdijklindipaaZ4
import Derived.Test.YtmhdijklindipaaZ12
import Derived.Test.YtmhdijklindipaaD2
import Derived.Test.YtmhdijklindipaaCV
import Derived.WalkKit
import Derived.WalkSpells
import Derived.WalkLawsBesides
import Derived.Deep.RegionLaw
import Derived.Deep.RegionHeld3
import Derived.Lib.Hide
import Derived.Test.YtmhdijklindipaaZ11
import Derived.Test.YtmhdijklindipaaZ17
import Derived.Test.YtmhdijklindipaaV3
import Derived.Test.YtmhdijklindipaaZ10
import Derived.Test.YtmhdijklindipaaK2
import Derived.Outline
/- Plain facts of FnFoldedExpressions: folding, told of terms. -/
namespace Go.Proofs.Ytmhdijklindipaa
open Go.RowKit
set_option linter.unusedVariables false

def Tm.cst : Tm → Bool
  | .l op _ => isConst op
  | _ => false
def Tm.cv : Tm → Int
  | .l _ v => v
  | _ => 0
/-- Constants folded. -/
def fT : Tm → Tm
  | .l op v => .l op v
  | .u op v t => if (fT t).cst = true then .l constB (ap op (fT t).cv 0) else .u op v (fT t)
  | .b op v s t => if ((fT s).cst && (fT t).cst) = true then .l constB (ap op (fT s).cv (fT t).cv) else .b op v (fT s) (fT t)
/-- Nothing is left to fold. -/
def nfT : Tm → Bool
  | .l _ _ => true
  | .u _ _ t => !t.cst && nfT t
  | .b _ _ s t => !(s.cst && t.cst) && nfT s && nfT t
theorem constB_c : isConst constB = true := by decide +kernel
theorem fT_nf : ∀ t, nfT (fT t) = true
  | .l _ _ => rfl
  | .u op v t => by
    have ih := fT_nf t
    unfold fT
    cases h : (fT t).cst
    · rw [if_neg (by decide)]; show (!(fT t).cst && nfT (fT t)) = true; rw [h, ih]; rfl
    · rw [if_pos rfl]; rfl
  | .b op v s t => by
    have i1 := fT_nf s
    have i2 := fT_nf t
    unfold fT
    cases h : ((fT s).cst && (fT t).cst)
    · rw [if_neg (by decide)]; show (!((fT s).cst && (fT t).cst) && nfT (fT s) && nfT (fT t)) = true; rw [h, i1, i2]; rfl
    · rw [if_pos rfl]; rfl
theorem cst_ev {t : Tm} (h : t.cst = true) (x0 x1 : Int) : t.ev x0 x1 = t.cv := by
  cases t with
  | l op v =>
    have h : isConst op = true := h
    show (if isConst op = true then v else _) = v
    rw [if_pos h]
  | u _ _ _ => cases h
  | b _ _ _ _ => cases h
theorem fT_ev (x0 x1 : Int) : ∀ t, (fT t).ev x0 x1 = t.ev x0 x1
  | .l _ _ => rfl
  | .u op v t => by
    have ih := fT_ev x0 x1 t
    unfold fT
    cases h : (fT t).cst
    · rw [if_neg (by decide)]
      show ap op ((fT t).ev x0 x1) 0 = ap op (t.ev x0 x1) 0
      rw [ih]
    · rw [if_pos rfl]
      show (if isConst constB = true then ap op (fT t).cv 0 else _) = ap op (t.ev x0 x1) 0
      rw [if_pos constB_c, ← cst_ev h x0 x1, ih]
  | .b op v s t => by
    have i1 := fT_ev x0 x1 s
    have i2 := fT_ev x0 x1 t
    unfold fT
    cases h : ((fT s).cst && (fT t).cst)
    · rw [if_neg (by decide)]
      show ap op ((fT s).ev x0 x1) ((fT t).ev x0 x1) = ap op (s.ev x0 x1) (t.ev x0 x1)
      rw [i1, i2]
    · rw [if_pos rfl]
      rw [Bool.and_eq_true] at h
      show (if isConst constB = true then ap op (fT s).cv (fT t).cv else _) = ap op (s.ev x0 x1) (t.ev x0 x1)
      rw [if_pos constB_c, ← cst_ev h.1 x0 x1, ← cst_ev h.2 x0 x1, i1, i2]

/-- A node's op is 'const' where its term is one. -/
theorem cst_tm {es : List Nd} (hok : okFrom es 0 = true) {i : Nat} (hi : i < es.length) : (tmE es i).cst = isConst es[i].op ∧ (isConst es[i].op = true → (tmE es i).cv = es[i].v) := by
  rcases tmE_cases hok hi with ⟨h1, _, _, e⟩ | ⟨h1, _, a, _, _, _, e⟩ | ⟨h1, _, _, a, b, _, _, _, _, e⟩
  · rw [e]; exact ⟨rfl, fun _ => rfl⟩
  · obtain ⟨c1, _⟩ := ar12_no (s := es[i].op) (by omega)
    rw [e, c1]; exact ⟨rfl, fun h => by cases h⟩
  · obtain ⟨c1, _⟩ := ar12_no (s := es[i].op) (by omega)
    rw [e, c1]; exact ⟨rfl, fun h => by cases h⟩
theorem fo_stay (es : List Nd) {i : Nat} : ∀ k d, i < k → (fo es (k + d))[i]? = (fo es k)[i]?
  | k, 0, _ => rfl
  | k, d + 1, h => by rw [show k + (d + 1) = (k + d) + 1 by omega, fo, List.getElem?_set_ne (by omega)]; exact fo_stay es k d h
theorem fold_node {es : List Nd} (hok : okFrom es 0 = true) {k : Nat} (hk : k < es.length) : (foldOf es).getD k zeroNd = fnode (foldOf es) es[k] := by
  unfold foldOf
  have h1 := fo_stay es (i := k) (k + 1) (es.length - (k + 1)) (by omega)
  rw [show k + 1 + (es.length - (k + 1)) = es.length by omega] at h1
  have h2 : (fo es (k + 1))[k]? = some (fnode (fo es k) es[k]) := by rw [fo, List.getElem?_set_self (by rw [fo_len]; exact hk), getD_nd hk]
  rw [List.getD_eq_getElem?_getD, h1, h2]
  show fnode (fo es k) es[k] = _
  refine fnode_ext (ok_get hok hk) fun i hi => ?_
  have h3 := fo_stay es (i := i) k (es.length - k) hi
  rw [show k + (es.length - k) = es.length by omega] at h3
  exact h3.symm
theorem fold_len (es : List Nd) : (foldOf es).length = es.length := fo_len es _
theorem fold_ok {es : List Nd} (hok : okFrom es 0 = true) : okFrom (foldOf es) 0 = true := fo_ok hok (Nat.le_refl _)
theorem parts_leaf {n : Nd} {k : Nat} (h : isNode n k = true) (h0 : ar n.op = 0) : parts n = [] := by
  rcases ar_cases_nd h with ⟨_, g, g2, _⟩ | ⟨g, _⟩ | ⟨g, _⟩
  · unfold parts; rw [g, g2]; rfl
  · omega
  · omega
/-- The folded nodes have the folded terms. -/
theorem fold_tm {es : List Nd} (hok : okFrom es 0 = true) : ∀ n k, k < n → k < es.length → tmE (foldOf es) k = fT (tmE es k)
  | 0, k, h, _ => by omega
  | n + 1, k, hkn, hk => by
    have ih := fold_tm hok n
    have hF := fold_ok hok
    have hFl := fold_len es
    have hkF : k < (foldOf es).length := by omega
    have hn := fold_node hok hk
    rw [getD_nd hkF] at hn
    have hc := fun {a : Nat} (ha : a < k) => cst_tm hF (show a < (foldOf es).length by omega)
    have hleaf : ∀ x : Int, (foldOf es)[k] = ⟨constB, 0, 0, x⟩ → tmE (foldOf es) k = .l constB x := fun x hx => by
      have h0 : ar (foldOf es)[k].op = 0 := by rw [hx]; show ar constB = 0; decide +kernel
      rcases tmE_cases hF hkF with ⟨_, _, _, e⟩ | ⟨g, _⟩ | ⟨g, _⟩
      · rw [e, hx]
      · omega
      · omega
    rcases tmE_cases hok hk with ⟨h1, _, _, et⟩ | ⟨h1, h2, a, ea, ha, hb, et⟩ | ⟨h1, h2, h3, a, b, ea, eb, ha, hb, et⟩
    · have hp : parts es[k] = [] := parts_leaf (ok_get hok hk) h1
      have e : fnode (foldOf es) es[k] = es[k] := fnode_no (by rw [hp]; rfl)
      rw [e] at hn
      rw [et]
      rcases tmE_cases hF hkF with ⟨_, _, _, e⟩ | ⟨g, _⟩ | ⟨g, _⟩
      · rw [e, hn]; rfl
      · rw [hn] at g; omega
      · rw [hn] at g; omega
    · have hp : parts es[k] = [(a : Int)] := by unfold parts; rw [if_pos h2, ea]
      have hia := ih a (by omega) (by omega)
      obtain ⟨c1, c2⟩ := hc ha
      have hfa : fall (foldOf es) (parts es[k]) = (tmE (foldOf es) a).cst := by
        rw [hp, c1]; unfold fall
        simp only [List.all_cons, List.all_nil, Bool.and_true, Int.toNat_natCast]
        rw [getD_nd (show a < (foldOf es).length by omega)]
      rw [et]
      unfold fT
      rw [← hia]
      cases hcc : (tmE (foldOf es) a).cst
      · rw [if_neg (by decide)]
        have e : fnode (foldOf es) es[k] = es[k] := fnode_no (by rw [hfa, hcc, Bool.and_false])
        rw [e] at hn
        rcases tmE_cases hF hkF with ⟨g, _⟩ | ⟨_, _, a', ea', _, _, e⟩ | ⟨g, _⟩
        · rw [hn] at g; omega
        · rw [hn] at e ea'
          obtain rfl : a' = a := by omega
          exact e
        · rw [hn] at g; omega
      · rw [if_pos rfl]
        have e : fnode (foldOf es) es[k] = ⟨constB, 0, 0, fval (foldOf es) es[k]⟩ := fnode_yes (by rw [hfa, hcc, hp]; rfl)
        rw [e] at hn
        rw [hleaf _ hn]
        unfold fval fB
        rw [hp, if_neg (by simp), ea, Int.toNat_natCast, getD_nd (show a < (foldOf es).length by omega), c2 (by rw [← c1]; exact hcc)]
    · have hp : parts es[k] = [(a : Int), (b : Int)] := by unfold parts; rw [if_neg (by simp [h2]), if_pos h3, ea, eb]
      have hia := ih a (by omega) (by omega)
      have hib := ih b (by omega) (by omega)
      obtain ⟨c1, c2⟩ := hc ha
      obtain ⟨d1, d2⟩ := hc hb
      have hfa : fall (foldOf es) (parts es[k]) = ((tmE (foldOf es) a).cst && (tmE (foldOf es) b).cst) := by
        rw [hp, c1, d1]; unfold fall
        simp only [List.all_cons, List.all_nil, Bool.and_true, Int.toNat_natCast]
        rw [getD_nd (show a < (foldOf es).length by omega), getD_nd (show b < (foldOf es).length by omega)]
      rw [et]
      unfold fT
      rw [← hia, ← hib]
      cases hcc : ((tmE (foldOf es) a).cst && (tmE (foldOf es) b).cst)
      · rw [if_neg (by decide)]
        have e : fnode (foldOf es) es[k] = es[k] := fnode_no (by rw [hfa, hcc, Bool.and_false])
        rw [e] at hn
        rcases tmE_cases hF hkF with ⟨g, _⟩ | ⟨g, _⟩ | ⟨_, _, _, a', b', ea', eb', _, _, e⟩
        · rw [hn] at g; omega
        · rw [hn] at g; omega
        · rw [hn] at e ea' eb'
          obtain rfl : a' = a := by omega
          obtain rfl : b' = b := by omega
          exact e
      · rw [if_pos rfl]
        have hcc2 := hcc
        rw [Bool.and_eq_true] at hcc2
        have e : fnode (foldOf es) es[k] = ⟨constB, 0, 0, fval (foldOf es) es[k]⟩ := fnode_yes (by rw [hfa, hcc, hp]; rfl)
        rw [e] at hn
        rw [hleaf _ hn]
        unfold fval fB
        rw [hp, if_pos (by simp), ea, eb, Int.toNat_natCast, Int.toNat_natCast, getD_nd (show a < (foldOf es).length by omega), getD_nd (show b < (foldOf es).length by omega), c2 (by rw [← c1]; exact hcc2.1), d2 (by rw [← d1]; exact hcc2.2)]
/-- In a good expression whose root is folded, all nodes are. -/
theorem nf_all {es : List Nd} (hg : good es = true) (hr : nfT (tmE es (es.length - 1)) = true) : ∀ d k, k + d + 1 = es.length → nfT (tmE es k) = true := by
  obtain ⟨l1, _, hok⟩ := good_len hg
  have key : ∀ n k, es.length ≤ k + n + 1 → k < es.length → nfT (tmE es k) = true := by
    intro n
    induction n with
    | zero => intro k h1 h2; rw [show k = es.length - 1 by omega]; exact hr
    | succ n ih =>
      intro k h1 h2
      rcases Nat.lt_or_ge (k + 1) es.length with h3 | h3
      · obtain ⟨i, hi, hki, hm⟩ := used_in hg h3
        have hnf := ih i (by omega) hi
        rcases tmE_cases hok hi with ⟨g, _⟩ | ⟨_, q2, a, ea, _, _, e⟩ | ⟨_, q2, q3, a, b, ea, eb, _, _, e⟩
        · rw [parts_leaf (ok_get hok hi) g] at hm; cases hm
        · have hp : parts es[i] = [(a : Int)] := by unfold parts; rw [if_pos q2, ea]
          rw [hp, List.mem_singleton] at hm
          obtain rfl : k = a := by omega
          rw [e] at hnf
          have hnf : (!(tmE es k).cst && nfT (tmE es k)) = true := hnf
          rw [Bool.and_eq_true] at hnf; exact hnf.2
        · have hp : parts es[i] = [(a : Int), (b : Int)] := by unfold parts; rw [if_neg (by simp [q2]), if_pos q3, ea, eb]
          rw [hp] at hm
          rw [e] at hnf
          have hnf : (!((tmE es a).cst && (tmE es b).cst) && nfT (tmE es a) && nfT (tmE es b)) = true := hnf
          simp only [Bool.and_eq_true] at hnf
          rcases List.mem_cons.1 hm with hm | hm
          · obtain rfl : k = a := by omega
            exact hnf.1.2
          · rw [List.mem_singleton] at hm
            obtain rfl : k = b := by omega
            exact hnf.2
      · rw [show k = es.length - 1 by omega]; exact hr
  intro d k h
  exact key d k (by omega) (by omega)
theorem nf_node {es : List Nd} (hok : okFrom es 0 = true) {k : Nat} (hk : k < es.length) (h : nfT (tmE es k) = true) : fnode es es[k] = es[k] ∧
    (isOne es[k].op = true → ∃ a : Nat, es[k].a = a ∧ ∃ ha : a < es.length, isConst es[a].op = false) ∧ (isTwo es[k].op = true → isOne es[k].op = false → ∃ a b : Nat, es[k].a = a ∧ es[k].b = b ∧ ∃ (ha : a < es.length) (hb : b < es.length), (isConst es[a].op && isConst es[b].op) = false) := by
  rcases tmE_cases hok hk with ⟨g, _, _, e⟩ | ⟨g, q2, a, ea, ha, _, e⟩ | ⟨g, q2, q3, a, b, ea, eb, ha, hb, e⟩
  · rcases ar_cases_nd (ok_get hok hk) with ⟨_, g1, g2, _⟩ | ⟨g', _⟩ | ⟨g', _⟩
    · exact ⟨fnode_no (by rw [parts_leaf (ok_get hok hk) g]; rfl), fun h => (by rw [g1] at h; cases h), fun h => (by rw [g2] at h; cases h)⟩
    · omega
    · omega
  · have hp : parts es[k] = [(a : Int)] := by unfold parts; rw [if_pos q2, ea]
    rw [e] at h
    have h : (!(tmE es a).cst && nfT (tmE es a)) = true := h
    rw [Bool.and_eq_true, Bool.not_eq_true', (cst_tm hok (show a < es.length by omega)).1] at h
    refine ⟨fnode_no ?_, fun _ => ⟨a, ea, by omega, h.1⟩, fun _ h9 => by rw [q2] at h9; cases h9⟩
    rw [hp]; unfold fall
    simp only [List.all_cons, List.all_nil, Bool.and_true, Int.toNat_natCast]
    rw [getD_nd (show a < es.length by omega), h.1, Bool.and_false]
  · have hp : parts es[k] = [(a : Int), (b : Int)] := by unfold parts; rw [if_neg (by simp [q2]), if_pos q3, ea, eb]
    rw [e] at h
    have h : (!((tmE es a).cst && (tmE es b).cst) && nfT (tmE es a) && nfT (tmE es b)) = true := h
    simp only [Bool.and_eq_true, Bool.not_eq_true'] at h
    have h1 := h.1.1
    rw [(cst_tm hok (show a < es.length by omega)).1, (cst_tm hok (show b < es.length by omega)).1] at h1
    refine ⟨fnode_no ?_, fun h9 => (by rw [q2] at h9; cases h9), fun _ _ => ⟨a, b, ea, eb, by omega, by omega, h1⟩⟩
    rw [hp]; unfold fall
    simp only [List.all_cons, List.all_nil, Bool.and_true, Int.toNat_natCast]
    rw [getD_nd (show a < es.length by omega), getD_nd (show b < es.length by omega), h1, Bool.and_false]
theorem fo_id {es : List Nd} (h : ∀ k (hk : k < es.length), fnode es es[k] = es[k]) : ∀ k, k ≤ es.length → fo es k = es
  | 0, _ => rfl
  | k + 1, hk => by
    rw [fo, fo_id h k (by omega), getD_nd (show k < es.length by omega), h k (by omega)]
    exact List.set_getElem_self (by omega)
/-- What is good is kept whole. -/
theorem keep_id {es : List Nd} (hg : good es = true) : keepL es (es.length - 1) = es := by
  obtain ⟨l1, _, hok⟩ := good_len hg
  have hall : ∀ n k, es.length ≤ k + n + 1 → k < es.length → (need es (es.length - 1)).getD k false = true := by
    intro n
    induction n with
    | zero => intro k h1 h2; rw [show k = es.length - 1 by omega]; exact need_root hok (by omega)
    | succ n ih =>
      intro k h1 h2
      rcases Nat.lt_or_ge (k + 1) es.length with h3 | h3
      · obtain ⟨i, hi, hki, hm⟩ := used_in hg h3
        have := need_parts hok (root := es.length - 1) (by omega) (show i ≤ es.length - 1 by omega) (ih i (by omega) hi) _ hm
        rwa [Int.toNat_natCast] at this
      · rw [show k = es.length - 1 by omega]; exact need_root hok (by omega)
  have hstep : ∀ k, k ≤ es.length → ke es (need es (es.length - 1)) (es.length - 1 + 1) k = es.take k ∧ ∀ j, j < k → (pl es (need es (es.length - 1)) (es.length - 1 + 1) k).getD j 0 = (j : Int) := by
    intro k
    induction k with
    | zero => intro _; exact ⟨rfl, fun j h => by omega⟩
    | succ k ih =>
      intro hk
      obtain ⟨i1, i2⟩ := ih (by omega)
      have hke : k < es.length := by omega
      obtain ⟨e1, e2⟩ := kp_yes (m := es.length - 1 + 1) hke (hall es.length k (by omega) hke)
      have hlen : (ke es (need es (es.length - 1)) (es.length - 1 + 1) k).length = k := by rw [i1, List.length_take]; omega
      have hmv : moved es[k] (pl es (need es (es.length - 1)) (es.length - 1 + 1) k) = es[k] := by
        rcases tmE_cases hok hke with ⟨g, a0, b0, _⟩ | ⟨g, _, a, ea, ha, hb, _⟩ | ⟨g, _, _, a, b, ea, eb, ha, hb, _⟩
        · unfold moved; rw [if_neg (by omega), if_neg (by omega)]
          generalize es[k] = n at *
          obtain ⟨p, q, r, s⟩ := n
          simp only at a0 b0; subst a0; subst b0; rfl
        · unfold moved; rw [if_pos (by omega), if_neg (by omega), ea, Int.toNat_natCast, i2 a ha]
          generalize es[k] = n at *
          obtain ⟨p, q, r, s⟩ := n
          simp only at ea hb; subst ea; subst hb; rfl
        · unfold moved; rw [if_pos (by omega), if_pos (by omega), ea, eb, Int.toNat_natCast, Int.toNat_natCast, i2 a ha, i2 b hb]
          generalize es[k] = n at *
          obtain ⟨p, q, r, s⟩ := n
          simp only at ea eb; subst ea; subst eb; rfl
      rw [e1, e2, i1, hmv]
      refine ⟨by rw [List.take_succ_eq_append_getElem hke], fun j hj => ?_⟩
      by_cases e : j = k
      · subst e
        rw [List.getD_eq_getElem?_getD, List.getElem?_set_self (by rw [pl_len]; omega)]
        show ((es.take j).length : Int) = j
        rw [List.length_take]; omega
      · rw [getD_set_lt _ (by omega)]; exact i2 j (by omega)
  unfold keepL
  have := (hstep (es.length - 1 + 1) (by omega)).1
  rw [this, List.take_of_length_le (by omega)]
/-- How many ops stand in a list. -/
theorem ops_take (es : List Nd) (k : Nat) : cntAt es k = (((es.take k).filter isOpN).length : Int) := rfl
theorem fold_cnt {es : List Nd} (hok : okFrom es 0 = true) : ∀ k, k ≤ es.length → cntAt (foldOf es) k ≤ cntAt es k
  | 0, _ => by simp [cntAt]
  | k + 1, hk => by
    have ih := fold_cnt hok k (by omega)
    have hkF : k < (foldOf es).length := by rw [fold_len]; omega
    have hn := fold_node hok (show k < es.length by omega)
    rw [getD_nd hkF] at hn
    rw [cntAt_succ hkF, cntAt_succ (show k < es.length by omega), hn]
    cases h : (decide (0 < (parts es[k]).length) && fall (foldOf es) (parts es[k]))
    · rw [fnode_no h]; split <;> omega
    · rw [fnode_yes h]
      have : isOpN ⟨constB, 0, 0, fval (foldOf es) es[k]⟩ = false := by
        show isOp constB = false
        decide +kernel
      rw [this, if_neg (by decide)]
      split <;> omega
theorem keep_cnt {es : List Nd} (hok : okFrom es 0 = true) (nb : List Bool) (m : Nat) : ∀ k, k ≤ es.length → (((ke es nb m k).filter isOpN).length : Int) ≤ cntAt es k
  | 0, _ => by simp [ke, kp, cntAt]
  | k + 1, hk => by
    have ih := keep_cnt hok nb m k (by omega)
    have hke : k < es.length := by omega
    rw [cntAt_succ hke]
    cases hb : nb.getD k false
    · rw [(kp_no (es := es) (m := m) hb).2]; split <;> omega
    · rw [(kp_yes (m := m) hke hb).2, List.filter_append, List.length_append]
      have e : isOpN (moved es[k] (pl es nb m k)) = isOpN es[k] := rfl
      cases hb2 : isOpN es[k]
      · simp [List.filter, e, hb2]; omega
      · simp [List.filter, e, hb2]; omega
theorem cnt_mono (es : List Nd) : ∀ k d, k + d ≤ es.length → cntAt es k ≤ cntAt es (k + d)
  | k, 0, _ => Int.le_refl _
  | k, d + 1, h => by
    have ih := cnt_mono es k d (by omega)
    rw [← Nat.add_assoc, cntAt_succ (show k + d < es.length by omega)]
    split <;> omega
/-- No path is longer than there are ops. -/
theorem dep_cnt {es : List Nd} (hok : okFrom es 0 = true) : ∀ n k, k < n → k < es.length → (tmE es k).dep ≤ cntAt es (k + 1)
  | 0, k, h, _ => by omega
  | n + 1, k, hkn, hk => by
    have ih := dep_cnt hok n
    have h0 := (cntAt_bd es k).1
    rw [cntAt_succ hk, isOpN_ar]
    rcases tmE_cases hok hk with ⟨g, _, _, e⟩ | ⟨g, _, a, ea, ha, _, e⟩ | ⟨g, _, _, a, b, ea, eb, ha, hb, e⟩
    · rw [e, if_neg (by simp [g])]; show (0 : Int) ≤ _; omega
    · rw [e, if_pos (by simp [g])]
      have h1 := ih a (by omega) (by omega)
      have h2 := cnt_mono es (a + 1) (k - (a + 1)) (by omega)
      rw [show a + 1 + (k - (a + 1)) = k by omega] at h2
      show (tmE es a).dep + 1 ≤ _
      omega
    · rw [e, if_pos (by simp [g])]
      have h1 := ih a (by omega) (by omega)
      have h2 := cnt_mono es (a + 1) (k - (a + 1)) (by omega)
      rw [show a + 1 + (k - (a + 1)) = k by omega] at h2
      have h3 := ih b (by omega) (by omega)
      have h4 := cnt_mono es (b + 1) (k - (b + 1)) (by omega)
      rw [show b + 1 + (k - (b + 1)) = k by omega] at h4
      show max ((tmE es a).dep + 1) ((tmE es b).dep + 1) ≤ _
      omega
theorem dep_le {es : List Nd} (hg : good es = true) : depR es ≤ cntR es := by
  obtain ⟨l1, _, hok⟩ := good_len hg
  rw [depR_tm hg]
  have := dep_cnt hok es.length (es.length - 1) (by omega) (by omega)
  unfold cntR; rw [if_pos hg]
  unfold cnt
  rwa [show es.length - 1 + 1 = es.length by omega] at this
/-- A folded term without inputs is a constant. -/
theorem nf_const {es : List Nd} (hok : okFrom es 0 = true) (hni : ∀ k (hk : k < es.length), isIn es[k].op = false) : ∀ n k, k < n → k < es.length → nfT (tmE es k) = true → (tmE es k).cst = true
  | 0, k, h, _, _ => by omega
  | n + 1, k, hkn, hk, h => by
    have ih := nf_const hok hni n
    rcases tmE_cases hok hk with ⟨g, _, _, e⟩ | ⟨g, _, a, ea, ha, _, e⟩ | ⟨g, _, _, a, b, ea, eb, ha, hb, e⟩
    · rw [e]
      show isConst es[k].op = true
      cases hc : isConst es[k].op
      · have := ar0_in g hc; rw [hni k hk] at this; cases this
      · rfl
    · rw [e] at h
      have h : (!(tmE es a).cst && nfT (tmE es a)) = true := h
      rw [Bool.and_eq_true, Bool.not_eq_true'] at h
      have := ih a (by omega) (by omega) h.2
      rw [h.1] at this; cases this
    · rw [e] at h
      have h : (!((tmE es a).cst && (tmE es b).cst) && nfT (tmE es a) && nfT (tmE es b)) = true := h
      simp only [Bool.and_eq_true, Bool.not_eq_true'] at h
      have h1 := ih a (by omega) (by omega) h.1.2
      have h2 := ih b (by omega) (by omega) h.2
      have h3 := h.1.1
      rw [h1, h2] at h3; cases h3
/-- What folding comes to. -/
theorem fold_facts {es : List Nd} (hg : good es = true) : foldR es = keepL (foldOf es) (es.length - 1) ∧ good (keepL (foldOf es) (es.length - 1)) = true ∧ foldR (keepL (foldOf es) (es.length - 1)) = keepL (foldOf es) (es.length - 1) ∧
    cntR (keepL (foldOf es) (es.length - 1)) ≤ cntR es ∧ tabR (keepL (foldOf es) (es.length - 1)) = tabR es ∧ (inputsR (keepL (foldOf es) (es.length - 1)) = [] → (keepL (foldOf es) (es.length - 1)).length = 1) ∧
    ∀ k, k < (keepL (foldOf es) (es.length - 1)).length → nfT (tmE (keepL (foldOf es) (es.length - 1)) k) = true := by
  obtain ⟨l1, l24, hok⟩ := good_len hg
  have hF := fold_ok hok
  have hFl := fold_len es
  obtain ⟨g1, g2⟩ := keep_facts hF (by omega) (r := es.length - 1) (by omega)
  have hcnt : (((keepL (foldOf es) (es.length - 1)).filter isOpN).length : Int) ≤ cnt es := by
    unfold keepL
    have h1 := keep_cnt hF (need (foldOf es) (es.length - 1)) (es.length - 1 + 1) (es.length - 1 + 1) (by omega)
    have h2 := fold_cnt hok (es.length - 1 + 1) (by omega)
    unfold cnt
    rw [show es.length - 1 + 1 = es.length by omega] at h1 h2 ⊢
    omega
  generalize hD : keepL (foldOf es) (es.length - 1) = D at *
  obtain ⟨d1, d24, dok⟩ := good_len g1
  rw [fold_tm hok es.length (es.length - 1) (by omega) (by omega)] at g2
  have hnr : nfT (tmE D (D.length - 1)) = true := by rw [g2]; exact fT_nf _
  have hna : ∀ k, k < D.length → nfT (tmE D k) = true := fun k hk => nf_all g1 hnr (D.length - 1 - k) k (by omega)
  have hfo : foldOf D = D := fo_id (fun k hk => (nf_node dok hk (hna k hk)).1) _ (Nat.le_refl _)
  refine ⟨by unfold foldR; rw [if_pos hg]; exact hD, g1, by unfold foldR; rw [if_pos g1, hfo, keep_id g1], ?_, ?_, fun hin => ?_, hna⟩
  · unfold cntR; rw [if_pos g1, if_pos hg]
    unfold cnt cntAt at hcnt ⊢
    rw [List.take_length] at hcnt ⊢
    rw [List.take_length]; exact hcnt
  · unfold tabR; rw [if_pos g1, if_pos hg]
    unfold tab; congr 1; funext x0 x1
    unfold at2
    rw [vals_tm dok x0 x1 (by omega), vals_tm hok x0 x1 (by omega), g2, fT_ev]
  · have hi0 : inputsL D = [] := by unfold inputsR at hin; rw [if_pos g1] at hin; exact hin
    have hv : ∀ k (hk : k < D.length), isIn D[k].op = true → D[k].v = 0 ∨ D[k].v = 1 := fun k hk hin => by
      rcases node_kinds (ok_get dok hk) with ⟨g, _⟩ | ⟨_, _, g⟩ | ⟨_, g, _⟩ | ⟨_, g, _⟩
      · unfold isIn at hin; rw [g] at hin; simp at hin
      · exact g
      · unfold isIn at hin; rw [g] at hin; cases hin
      · unfold isIn at hin; rw [g] at hin; cases hin
    have hno : hasIn D 0 = false ∧ hasIn D 1 = false := by
      unfold inputsL at hi0
      cases h0 : hasIn D 0 <;> cases h1 : hasIn D 1 <;> simp [h0, h1, twoOf] at hi0 ⊢
    have hni : ∀ k (hk : k < D.length), isIn D[k].op = false := fun k hk => by
      cases hx : isIn D[k].op
      · rfl
      · exfalso
        have hm := List.getElem_mem hk
        rcases hv k hk hx with h | h
        · have := hno.1; unfold hasIn at this; rw [List.any_eq_false] at this
          exact this _ hm (by unfold isInp; rw [hx, h]; rfl)
        · have := hno.2; unfold hasIn at this; rw [List.any_eq_false] at this
          exact this _ hm (by unfold isInp; rw [hx, h]; rfl)
    have hc := nf_const dok hni D.length (D.length - 1) (by omega) (by omega) hnr
    rw [(cst_tm dok (show D.length - 1 < D.length by omega)).1] at hc
    refine leaf_root g1 ?_
    rw [getD_nd (show D.length - 1 < D.length by omega)]
    refine parts_leaf (ok_get dok (show D.length - 1 < D.length by omega)) ?_
    unfold ar; rw [hc, Bool.or_true]; rfl
end Go.Proofs.Ytmhdijklindipaa

/- The program's folded node. -/
namespace Go.Proofs.Ytmhdijklindipaa
open Go.RowKit
set_option linter.unusedVariables false
set_option maxRecDepth 100000

theorem ns_get {w : World} {L B : Nat} {A : Option Addr} {fs : List Nd} (h : NS w L B A fs) {q : Nat} (hq : q < fs.length) : ∃ b o, A = some ⟨b, o, none⟩ ∧ L ≤ b ∧ b < B ∧ w.cell? ⟨b, o + q * 4, none⟩ = some (.string (fs.getD q zeroNd).op) ∧ w.cell? ⟨b, o + q * 4 + 3, none⟩ = some (.int .i64 (fs.getD q zeroNd).v) := by
  obtain ⟨b, o, hA, ⟨hL, hB⟩, hc⟩ := h (by omega)
  obtain ⟨c1, _, _, c4⟩ := hc q hq
  refine ⟨b, o, hA, hL, hB, ?_, ?_⟩
  · rw [c1, List.getD_eq_getElem?_getD, List.getElem?_eq_getElem hq]; rfl
  · rw [c4, List.getD_eq_getElem?_getD, List.getElem?_eq_getElem hq]; rfl

set_option maxHeartbeats 16000000 in
theorem foldNode_any (L B : Nat) (A : Option Addr) (c k : Nat) (fs : List Nd) (n : Nd) (w : World) (hl : fs.length ≤ 24) (hk : k < fs.length) (hn : isNode n k = true) (hfs : NS w L B A fs) (hB : B ≤ w.heap.size) (hv : ∀ n ∈ fs, 0 ≤ n.v ∧ n.v ≤ 63) :
    Calls Try.prog 213 #[.agg #[.string n.op, .int .i64 n.a, .int .i64 n.b, .int .i64 n.v], .slice A fs.length c] w fun e w' => e = .returned (.agg #[.string (fnode fs n).op, .int .i64 (fnode fs n).a, .int .i64 (fnode fs n).b, .int .i64 (fnode fs n).v]) ∧ Below w.heap.size w w' := by
  have hF := Lib.hid fun (W : World) (hW : Below w.heap.size w W) => hfs.below hW hB
  obtain ⟨W1, hW1⟩ : ∃ W1, W1 = w.alloc (.cells #[.string n.op, .int .i64 n.a, .int .i64 n.b, .int .i64 n.v] 40) := ⟨_, rfl⟩
  have b1 : Below w.heap.size w W1 := by rw [hW1]; exact (Below.refl _ _).alloc (Nat.le_refl _) _
  have x1 : XN W1 w.heap.size n := by rw [hW1]; exact xn_new _ n
  have z1 : W1.heap.size = w.heap.size + 1 := by rw [hW1]; simp
  obtain ⟨W2, hW2⟩ : ∃ W2, W2 = W1.alloc (.cells #[.string ⟨#[]⟩, .int .i64 0, .int .i64 0, .int .i64 0] 40) := ⟨_, rfl⟩
  have c2 : Below W1.heap.size W1 W2 := by rw [hW2]; exact (Below.refl _ _).alloc (Nat.le_refl _) _
  have x2 := Lib.hid (x1.next c2)
  have r2 : Hid (XN W2 (w.heap.size + 1) zeroNd) := by unfold Hid; rw [hW2, ← z1]; exact xn_new _ zeroNd
  have b2 := Lib.hid (b1.trans (c2.mono b1.size))
  have e2 : Hid (W2 = (w.alloc (.cells #[.string n.op, .int .i64 n.a, .int .i64 n.b, .int .i64 n.v] 40)).alloc (.cells #[.string ⟨#[]⟩, .int .i64 0, .int .i64 0, .int .i64 0] 40)) := by unfold Hid; rw [hW2, hW1]
  have z2 : W2.heap.size = w.heap.size + 2 := by rw [hW2]; simp; omega
  clear hW1 hW2 b1 x1 z1 c2 hfs
  have hps := parts_in hn
  have hpl : (parts n).length ≤ 2 := parts_len n
  have h2 := Lib.hid (parts_two hn)
  have hgv := Lib.hid fun i => getD_v hv i
  have hfb := Lib.hid (fval_bd (n := n) hv)
  have hno := Lib.hid fun h => fnode_no (fs := fs) (n := n) h
  have hyes := Lib.hid fun h => fnode_yes (fs := fs) (n := n) h
  generalize fnode fs n = m at *
  obtain ⟨op, a, b, v⟩ := n
  dsimp only at x2 e2 h2 ⊢
  obtain ⟨d0, d1, d2, d3⟩ := x2.out.cells
  dsimp only at d0 d1 d2 d3
  have hPt := Lib.hid fun (W : World) => operandsOf_any op a b v W
  obtain ⟨ps, hP⟩ : ∃ ps, ps = parts ⟨op, a, b, v⟩ := ⟨_, rfl⟩
  rw [← hP] at hps hpl h2 hno hyes hPt
  have HP := Lib.hid hP
  clear hP hv hn
  go_enter Try.func213, Try.ntmps213
  go_wp2_with (fail)
  rw [← e2.out]
  refine (hPt.out _).mono ?_
  rintro e w3 ⟨A3, c3, rfl, hIS, hb3⟩
  have b3 := Lib.hid (b2.out.trans (hb3.mono b2.out.size))
  have x3 := Lib.hid (x2.out.next hb3)
  have r3 := Lib.hid (r2.out.next hb3)
  have z3 := hb3.size
  have hI3 := Lib.hid hIS
  have hF3 := Lib.hid (hF.out w3 b3.out)
  clear hb3 hIS d0 d1 d2 d3 e2 hF x2 r2 b2
  obtain ⟨d0, d1, d2, d3⟩ := x3.out.cells
  have g0 := r3.out.fz 0
  have g1 := r3.out.fz 1
  have g2 := r3.out.fz 2
  have g3 := r3.out.fz 3
  have R := Lib.hid (r3.out.put4 m)
  have RB := Lib.hid (below_put4 b3.out (g := w.heap.size + 1) (by omega) m)
  obtain ⟨l0, l1, l2, l3⟩ := r3.out.cells
  go_wp2_with (fail)
  go_loopw [12] (fun i wi => ∃ j : Nat, j ≤ ps.length ∧ i = .int .i64 j ∧ fall fs (ps.take j) = true ∧ wi = w3) (fun i _ => ps.length - (intOf i).toNat)
  case atStart => exact ⟨0, Nat.zero_le _, rfl, rfl, rfl⟩
  case round =>
    obtain ⟨j, hj, rfl, hfa, rfl⟩ := hrel
    have hFA := Lib.hid hfa
    clear hfa
    by_cases hjt : j < ps.length
    · obtain ⟨b2, o2, rfl, hbb, hc⟩ := hI3.out (by omega)
      have hcj := hc j hjt
      obtain ⟨hq0, hq1⟩ := hps _ (List.getElem_mem hjt)
      have hTk := Lib.hid (fall_take (fs := fs) hjt)
      obtain ⟨q, hq⟩ := Int.eq_ofNat_of_zero_le hq0
      rw [hq] at hcj hq1 hTk
      rw [Int.toNat_natCast] at hq1 hTk
      have q0 : (0 : Int) ≤ (q : Int) := by omega
      have q1 : (q : Int) < (fs.length : Int) := by omega
      obtain ⟨bf, of, hA, _, _, f1, f2⟩ := ns_get hF3.out (q := q) (by omega)
      subst hA
      clear hc hq hq0
      have hx : (fs.getD q zeroNd).op.toList = [99,111,110,115,116] ↔ isConst (fs.getD q zeroNd).op = true := by simp [isConst]
      generalize (fs.getD q zeroNd).op = s at *
      cases hcs : isConst s
      · have hM := hno.out (by rw [fall_pre (j := j + 1) (by rw [hTk.out, hcs, Bool.and_false])]; simp)
        have hse : (s.toList == [99,111,110,115,116]) = false := hcs
        clear hno hyes hx hcs hps hpl h2 hTk HP
        subst hM
        go_wp2
        exact node_ret rfl rfl R.out ⟨rfl, RB.out⟩
      · have hse : (s.toList == [99,111,110,115,116]) = true := hcs
        have hse' : s.toList = [99,111,110,115,116] := by simpa using hse
        have hfa' := Lib.hid (show fall fs (ps.take (j + 1)) = true by rw [hTk.out, hFA.out, hcs]; rfl)
        clear hno hyes hx hcs hps h2 hTk HP
        go_wp2
        go_roundw
        case rel => exact ⟨j + 1, by omega, by go_num, hfa'.out, by first | rfl | trivial⟩
        case measure => simp [intOf]; omega
    · obtain rfl : j = ps.length := by omega
      have hall : fall fs ps = true := by have := hFA.out; rwa [List.take_length] at this
      by_cases hp0 : ps.length = 0
      · have hM := hno.out (by rw [hp0]; rfl)
        have hp1 : (ps.length : Int) = 0 := by omega
        clear hno hyes hps hpl h2 HP hall
        subst hM
        go_wp2
        exact node_ret rfl rfl R.out ⟨rfl, RB.out⟩
      · have hM := hyes.out (by rw [hall, Bool.and_true]; exact decide_eq_true (by omega))
        obtain ⟨q, p, rfl, rfl, hq, hp, hop, hfv⟩ : ∃ q p : Nat, a = q ∧ b = p ∧ q < k ∧ p < k ∧ isOp op = true ∧ fval fs ⟨op, (q : Int), (p : Int), v⟩ = ap op (fs.getD q zeroNd).v (fs.getD p zeroNd).v := by
          rcases h2.out with ⟨h9, _⟩ | ⟨h9, k1, k2, k3, rfl⟩ | ⟨h9, k1, k1', k2, k3, k4, k5⟩
          · rw [h9] at hp0; exact absurd rfl hp0
          · obtain ⟨q, rfl⟩ := Int.eq_ofNat_of_zero_le k2
            rw [Int.toNat_natCast] at k3
            refine ⟨q, 0, rfl, rfl, k3, by omega, by simp [isOp, k1], ?_⟩
            unfold fval; rw [ap_one k1 _ (fs.getD 0 zeroNd).v, ap_one k1 _ (fB _ _)]; rfl
          · obtain ⟨q, rfl⟩ := Int.eq_ofNat_of_zero_le k2
            obtain ⟨p, rfl⟩ := Int.eq_ofNat_of_zero_le k4
            rw [Int.toNat_natCast] at k3 k5
            refine ⟨q, p, rfl, rfl, k3, k5, by simp [isOp, k1'], ?_⟩
            unfold fval fB; rw [if_pos (by rw [← HP.out, h9]; exact (by omega : 1 < 2))]; rfl
        rw [hfv] at hM
        have hop := Lib.hid hop
        obtain ⟨bf, of, hA, _, _, _, f2⟩ := ns_get hF3.out (q := q) (by omega)
        obtain ⟨bf', of', hA', _, _, _, f2'⟩ := ns_get hF3.out (q := p) (by omega)
        subst hA
        injection hA' with hA'
        injection hA' with hA1 hA2 _
        subst hA1; subst hA2
        obtain ⟨y0, y1⟩ := hgv.out q
        obtain ⟨y2, y3⟩ := hgv.out p
        have hpz : (ps.length : Int) ≠ 0 := by omega
        clear hno hyes hps hpl h2 HP hall hfv hgv hfb hFA hF3 hI3 hj hp0
        generalize (fs.getD q zeroNd).v = ya at *
        generalize (fs.getD p zeroNd).v = yb at *
        have q0 : (0 : Int) ≤ (q : Int) := by omega
        have q1 : (q : Int) < (fs.length : Int) := by omega
        have q2 : (0 : Int) ≤ (p : Int) := by omega
        have q3 : (p : Int) < (fs.length : Int) := by omega
        subst hM
        clear hq hp hl hk hB z2 z3 b3 x3 r3
        go_wp2_with (fail)
        go_region_law (go_simp; go_at_call 131; refine (valueOfOp_any op ya yb _ y0 y1 y2 y3 hop.out).mono ?_; rintro e w' ⟨rfl, rfl⟩)
        all_goals
          go_wp2
          exact node_ret rfl rfl R.out ⟨rfl, RB.out.drew⟩
end Go.Proofs.Ytmhdijklindipaa

/- FoldExpr: the program. -/
namespace Go.Proofs.Ytmhdijklindipaa
open Go.RowKit
set_option linter.unusedVariables false
set_option maxRecDepth 100000

set_option maxHeartbeats 4000000 in
theorem iFoldExpr_any (L B : Nat) (A : Option Addr) (c : Nat) (es : List Nd) (w : World) (hl : es.length ≤ 1048576) (hes : NS w L B A es) (hB : B ≤ w.heap.size) :
    Calls Try.prog 98 #[.slice A es.length c] w (ResFoldExpr (foldR es) (good es) w) := by
  have H := Lib.hid (IsExpr_any L B A c es w hl hes hB)
  have hE := Lib.hid fun (W : World) (hW : Below w.heap.size w W) => hes.below hW hB
  clear hes
  cases hg : good es
  · have hR : Hid (foldR es = []) := by simp [Hid, foldR, hg]
    rw [hg] at H
    clear hg
    go_enter Try.func98, Try.ntmps98
    go_wp2_with (fail)
    refine H.out.mono ?_
    rintro e w2 ⟨rfl, hb⟩
    have hbb := Lib.hid hb
    clear hb
    go_wp2_with (fail)
    go_ret2
    rw [hR.out]
    exact ⟨none, 0, rfl, OK.nil _ _ _ _, hbb.out⟩
  · obtain ⟨hl1, hl24, hok⟩ := good_len hg
    have hR : Hid (foldR es = keepL (fp es es.length) (es.length - 1)) := by unfold Hid foldR foldOf; rw [if_pos hg, fp_all hok]
    have hOkF : Hid (okFrom (fp es es.length) 0 = true) := by unfold Hid; rw [fp_all hok]; exact fo_ok hok (Nat.le_refl _)
    have hOk := Lib.hid hok
    have hFl := Lib.hid (fp_len es)
    have hFv := Lib.hid fun k (hk : k ≤ es.length) => fp_v hok hk
    have hFs := Lib.hid fun k (hk : k < es.length) => (show (fp es k).set k (fnode (fp es k) es[k]) = fp es (k + 1) by rw [fp, List.getD_eq_getElem?_getD, List.getElem?_eq_getElem hk]; rfl)
    have hmk := run_make_Node es.length hl
    rw [hg] at H
    clear hg hok
    go_enter Try.func98, Try.ntmps98
    go_wp2_with (fail)
    refine H.out.mono ?_
    rintro e w2 ⟨rfl, hb⟩
    have hb2 := Lib.hid hb
    clear hb
    obtain ⟨WP, hWP⟩ : ∃ WP, WP = w2.alloc (.cells ((List.replicate es.length zeroNd).flatMap Nd.enc).toArray 40) := ⟨_, rfl⟩
    have bP : Hid (Below w.heap.size w WP) := by unfold Hid; rw [hWP]; exact hb2.out.alloc hb2.out.size _
    have cP : Hid (CB 40 WP w2.heap.size ((fp es 0).flatMap Nd.enc ++ [])) := by
      unfold Hid; rw [hWP, List.append_nil]; exact heap_alloc_new w2 _
    have zP := Lib.hid hb2.out.size
    have HWP := Lib.hid hWP
    clear hWP
    go_wp2_with (fail)
    rw [← HWP.out]
    clear HWP
    generalize w2.heap.size = g at *
    have hgw : w.heap.size ≤ g := zP.out
    go_loopw [15] (fun i wi => ∃ k : Nat, k ≤ es.length ∧ i = .int .i64 k ∧ CB 40 wi g ((fp es k).flatMap Nd.enc ++ []) ∧ Below w.heap.size w wi) (fun i _ => es.length - (intOf i).toNat)
    case atStart => exact ⟨0, Nat.zero_le _, rfl, cP.out, bP.out⟩
    case round =>
      obtain ⟨k, hk, rfl, hc, hbel⟩ := hrel
      have hC := Lib.hid hc
      have hBe := Lib.hid hbel
      clear hc hbel cP bP
      by_cases hlt : k < es.length
      · obtain ⟨b, o, rfl, ⟨_, hbB⟩, hcc⟩ := (hE.out wr hBe.out) (by omega)
        obtain ⟨c1, c2, c3, c4⟩ := hcc k hlt
        have k0 : (0 : Int) ≤ (k : Int) := by omega
        have k1 : (k : Int) < (es.length : Int) := by omega
        have hnd := ok_get hOk.out hlt
        have hSt := Lib.hid (hFs.out k hlt)
        have hfl := hFl.out k
        have hfv := hFv.out k (by omega)
        have hX := xn_new wr es[k]
        have hXb := (Below.refl wr.heap.size wr).alloc (Nat.le_refl _) (.cells #[.string es[k].op, .int .i64 es[k].a, .int .i64 es[k].b, .int .i64 es[k].v] 40)
        obtain ⟨X, hXe⟩ : ∃ X, X = wr.alloc (.cells #[.string es[k].op, .int .i64 es[k].a, .int .i64 es[k].b, .int .i64 es[k].v] 40) := ⟨_, rfl⟩
        rw [← hXe] at hX hXb
        have xC := Lib.hid (hC.out.below hXb hC.out.lt)
        have xE := Lib.hid (hBe.out.trans (hXb.mono hBe.out.size))
        have hglt := hC.out.lt
        have hKB : KB Nd.enc 40 X g (fp es k) := cb_nilNd xC.out
        have hFN := foldNode_any g (g + 1) (some ⟨g, 0, none⟩) es.length k (fp es k) es[k] X (by omega) (by omega) hnd (hKB.toRS Nd.hk).ns (by have := xC.out.lt; omega) hfv
        rw [hfl] at hFN
        have HFN := Lib.hid hFN
        have HX := Lib.hid hXe
        obtain ⟨m0, m1, m2, m3⟩ := hX.cells
        rw [hXe] at m0 m1 m2 m3
        clear hFN hcc hX hXe hKB hfv
        generalize fnode (fp es k) es[k] = m at *
        generalize es[k] = nd at *
        go_wp2_with (fail)
        rw [← HX.out]
        refine HFN.out.mono ?_
        rintro e w3 ⟨rfl, hb3⟩
        have b3 := Lib.hid (xE.out.trans (hb3.mono xE.out.size))
        have C3 := Lib.hid (xC.out.below hb3 xC.out.lt)
        clear hb3 c1 c2 c3 c4 m0 m1 m2 m3 hC hBe xC xE HX HFN
        obtain ⟨z0, z1, z2, z3, d1, d2, d3, d4⟩ := Nd.cellsB C3.out k (by rw [hfl]; exact hlt)
        have f1 := C3.out.frozen (k * 4)
        have f2 := C3.out.frozen (k * 4 + 1)
        have f3 := C3.out.frozen (k * 4 + 2)
        have f4 := C3.out.frozen (k * 4 + 3)
        have hst : Hid (CB 40 (setCells w3 g (k * 4) (Nd.enc m)) g ((fp es (k + 1)).flatMap Nd.enc ++ [])) := by
          have h1 := C3.out.store Nd.hk k (by rw [hfl]; exact hlt) m
          rw [hSt.out] at h1; exact h1
        have hsb : Hid (Below w.heap.size w (setCells w3 g (k * 4) (Nd.enc m))) := by
          have hc9 := chg_setCells (Nd.enc m) g (k * 4) (Chg.refl g (g + 1) w3) (by omega)
          exact below_chg b3.out hc9 b3.out.size hgw
        clear C3 b3
        go_wp2
        go_roundw
        case rel => exact ⟨k + 1, by omega, by go_num, hst.out, hsb.out⟩
        case measure => simp [intOf]; omega
      · obtain rfl : k = es.length := by omega
        have hKB : KB Nd.enc 40 wr g (fp es es.length) := cb_nilNd hC.out
        have hgz := hC.out.lt
        have hS := subExpr_any g (g + 1) (some ⟨g, 0, none⟩) es.length (es.length - 1) (fp es es.length) wr (by rw [hFl.out]; exact hl24) (by rw [hFl.out]; exact Nat.le_refl _) (by rw [hFl.out]; omega) (hKB.toRS Nd.hk).ns (by omega) hOkF.out
        rw [hFl.out, show ((es.length - 1 : Nat) : Int) = (es.length : Int) - 1 by omega] at hS
        have HS := Lib.hid hS
        clear hS hKB
        go_wp2_with (fail)
        refine HS.out.mono ?_
        rintro e w4 ⟨A', c', rfl, ho, hb4⟩
        have ho4 := Lib.hid ho
        have hb5 := Lib.hid (hBe.out.trans (hb4.mono hBe.out.size))
        have hz := hBe.out.size
        clear ho hb4
        go_wp2_with (fail)
        go_ret2
        rw [hR.out]
        exact ⟨A', c', rfl, ho4.out.lower hz, hb5.out⟩
end Go.Proofs.Ytmhdijklindipaa

/- FoldExpr: the model. -/
namespace Go.Proofs.Ytmhdijklindipaa
open Go.RowKit
set_option linter.unusedVariables false
set_option maxRecDepth 100000

theorem four_ones (xs : List Nd) : ∀ u ∈ xs.flatMap Nd.enc, u.oneCell' = true := by
  intro u hu
  simp only [List.mem_flatMap] at hu
  obtain ⟨y, _, hy⟩ := hu
  exact four_one y u hy
theorem cb_ns {t : TypeId} {w : World} {g : Nat} {es : List Nd} {rest : List Value} (h : CB t w g (es.flatMap Nd.enc ++ rest)) : NS w g (g + 1) (some ⟨g, 0, none⟩) es :=
  fun _ => ⟨g, 0, rfl, by omega, fun i hi => by
    simp only [Nat.zero_add]
    exact ⟨h.at Nd.hk i hi 0 _ rfl, h.at Nd.hk i hi 1 _ rfl, h.at Nd.hk i hi 2 _ rfl, h.at Nd.hk i hi 3 _ rfl⟩⟩
theorem cb_v {t : TypeId} {w : World} {g q : Nat} {es : List Nd} {rest : List Value} (h : CB t w g (es.flatMap Nd.enc ++ rest)) (hq : q < es.length) : w.cell? ⟨g, q * 4, none⟩ = some (.string (es.getD q zeroNd).op) ∧ w.cell? ⟨g, q * 4 + 3, none⟩ = some (.int .i64 (es.getD q zeroNd).v) := by
  have e : es.getD q zeroNd = es[q] := by rw [List.getD_eq_getElem?_getD, List.getElem?_eq_getElem hq]; rfl
  rw [e]; exact ⟨h.at Nd.hk q hq 0 _ rfl, h.at Nd.hk q hq 3 _ rfl⟩

set_option maxHeartbeats 16000000 in
theorem exFold_any (L B : Nat) (A : Option Addr) (c : Nat) (es : List Nd) (w : World) (hl1 : 1 ≤ es.length) (hl24 : es.length ≤ 24) (hes : NS w L B A es) (hrs : RS Nd.enc 4 w L B A es) (hB : B ≤ w.heap.size) (hok : okFrom es 0 = true) :
    Calls Try.prog 214 #[.slice A es.length c] w fun e w' => ∃ A' c', e = .returned (.slice A' (keepL (foldOf es) (es.length - 1)).length c') ∧ OK Nd.enc 4 40 w' w.heap.size w'.heap.size (.slice A' (keepL (foldOf es) (es.length - 1)).length c') (keepL (foldOf es) (es.length - 1)) ∧ Below w.heap.size w w' := by
  have hOk := Lib.hid hok
  have hOkF := Lib.hid (fo_ok hok (Nat.le_refl es.length))
  have hFl := Lib.hid (fo_len es)
  have hFv := Lib.hid fun k (hk : k ≤ es.length) => fo_v hok hk
  have hFs := Lib.hid fun k (hk : k < es.length) => (show (fo es k).set k (fnode (fo es k) es[k]) = fo es (k + 1) by rw [fo, List.getD_eq_getElem?_getD, List.getElem?_eq_getElem hk]; rfl)
  have hFr := Lib.hid fun k (hk : k < es.length) => (show (fo es k)[k]? = some es[k] by rw [fo_rest es (Nat.le_refl k), List.getElem?_eq_getElem hk])
  obtain ⟨i0, hi, hz0, hz1, hz2⟩ := info_parts Try.infoNode
  have hb0 := Lib.hid ((Below.refl w.heap.size w).alloc (Nat.le_refl _) (.cells #[] 40))
  have hown := Lib.hid (World.ownsRow_made (base := w.heap.size) (e := 40) (size := 4) w #[] 0 (Nat.le_refl _) (by unfold maxLen; omega) (by simp))
  have hsz0 := Lib.hid hb0.out.size
  have hnews := Lib.hid ((hrs.below hb0.out hB).news Nd.hk)
  clear hes hrs hok
  go_enter Try.func214, Try.ntmps214
  go_wp2_with (at_builtin; refine wpList_append_src rfl (.tmp 11) (.tmp 12) 24 rfl w.heap.size 40 i0 _ 4 40 Try.underlying24 hi hz0 hz1 hz2 rfl (by decide) _ 0 [] rfl hown.out A es.length c (es.flatMap Nd.enc) rfl (kflat_len Nd.hk es) hnews.out (four_ones es) (by unfold maxLen; omega) (by omega) hsz0.out ?_; intro v4 w4 hown4 hgrow4 _; simp only [Nat.zero_add, List.nil_append] at hown4; have hb4 := Lib.hid (hb0.out.grown hgrow4 hsz0.out (fun k hk => (by cases hk; exact Nat.le_refl _))); have hO4 := Lib.hid (show OK Nd.enc 4 40 w4 w.heap.size w4.heap.size v4 es from ⟨hown4, fun j hj => (hown4.lt j hj).2⟩); clear hown4 hgrow4; obtain ⟨g, cap, rfl, hg1, hg2, hcap, hcm, rest, hCB, hCL⟩ : ∃ g cap, v4 = .slice (some ⟨g, 0, none⟩) es.length cap ∧ w.heap.size ≤ g ∧ g < w4.heap.size ∧ es.length ≤ cap ∧ cap ≤ maxLen ∧ ∃ rest, CB 40 w4 g (es.flatMap Nd.enc ++ rest) ∧ (es.flatMap Nd.enc ++ rest).length = cap * 4 := (by rcases hO4.out.open with ⟨_, h0⟩ | h; exact absurd h0 (by omega); exact h))
  have hC0 : Hid (CB 40 w4 g ((fo es 0).flatMap Nd.enc ++ rest)) := hCB
  clear hCB hCL hcm hO4 hnews hown
  go_loopw [16] (fun i wi => ∃ k : Nat, k ≤ es.length ∧ i = .int .i64 k ∧ CB 40 wi g ((fo es k).flatMap Nd.enc ++ rest) ∧ Below w.heap.size w wi) (fun i _ => es.length - (intOf i).toNat)
  case atStart => exact ⟨0, Nat.zero_le _, rfl, hC0.out, hb4.out⟩
  case round =>
    obtain ⟨k, hk, rfl, hc, hbel⟩ := hrel
    have hC := Lib.hid hc
    have hBe := Lib.hid hbel
    clear hc hbel hC0 hb4
    by_cases hlt : k < es.length
    · have k0 : (0 : Int) ≤ (k : Int) := by omega
      have k1 : (k : Int) < (es.length : Int) := by omega
      have hnd := ok_get hOk.out hlt
      have hfl := hFl.out k
      have hfv := hFv.out k (by omega)
      have hkl : k < (fo es k).length := by omega
      have hget : (fo es k)[k] = es[k] := by have := hFr.out k hlt; rw [List.getElem?_eq_getElem hkl] at this; injection this
      have c1 := hC.out.at Nd.hk k hkl 0 _ rfl
      have c2 := hC.out.at Nd.hk k hkl 1 _ rfl
      have c3 := hC.out.at Nd.hk k hkl 2 _ rfl
      have c4 := hC.out.at Nd.hk k hkl 3 _ rfl
      rw [hget] at c1 c2 c3 c4
      rw [Nat.add_zero] at c1
      have hSt := Lib.hid (hFs.out k hlt)
      have hSelf : Hid ((fo es k).set k es[k] = fo es k) := by unfold Hid; rw [← hget]; exact List.set_getElem_self hkl
      have hX := xn_new wr es[k]
      have hXb := (Below.refl wr.heap.size wr).alloc (Nat.le_refl _) (.cells #[.string es[k].op, .int .i64 es[k].a, .int .i64 es[k].b, .int .i64 es[k].v] 40)
      obtain ⟨X, hXe⟩ : ∃ X, X = wr.alloc (.cells #[.string es[k].op, .int .i64 es[k].a, .int .i64 es[k].b, .int .i64 es[k].v] 40) := ⟨_, rfl⟩
      rw [← hXe] at hX hXb
      have HX := Lib.hid hXe
      obtain ⟨m0, m1, m2, m3⟩ := hX.cells
      rw [hXe] at m0 m1 m2 m3
      have xC := Lib.hid (hC.out.below hXb hC.out.lt)
      have xE := Lib.hid (hBe.out.trans (hXb.mono hBe.out.size))
      have xX := Lib.hid hX
      have hps := parts_in hnd
      have hpl : (parts es[k]).length ≤ 2 := parts_len es[k]
      have h2 := Lib.hid (parts_two hnd)
      have hgv := Lib.hid fun i => getD_v hfv i
      have hno := Lib.hid (fun (hh : (decide (0 < (parts (es[k]'hlt)).length) && fall (fo es k) (parts (es[k]'hlt))) = false) => fnode_no hh)
      have hyes := Lib.hid (fun (hh : (decide (0 < (parts (es[k]'hlt)).length) && fall (fo es k) (parts (es[k]'hlt))) = true) => fnode_yes hh)
      have hgk := hC.out.lt
      clear hX hXe hnd hfv hXb
      generalize fnode (fo es k) es[k] = m at *
      obtain ⟨fs, hfs⟩ : ∃ fs, fs = fo es k := ⟨_, rfl⟩
      rw [← hfs] at hfl hkl hSt hSelf xC hgv hno hyes hC
      have HFS := Lib.hid hfs
      clear hget hfs
      generalize es[k] = nd at *
      obtain ⟨op, a, b, v⟩ := nd
      dsimp only at c1 c2 c3 c4 m0 m1 m2 m3
      have hPt := Lib.hid fun (W : World) => exParts_any op a b v W
      obtain ⟨ps, hP⟩ : ∃ ps, ps = parts ⟨op, a, b, v⟩ := ⟨_, rfl⟩
      rw [← hP] at hps hpl h2 hno hyes hPt
      have HP := Lib.hid hP
      clear hP
      go_wp2_with (fail)
      rw [← HX.out]
      refine (hPt.out _).mono ?_
      rintro e w3 ⟨A3, c3', rfl, hIS, hb3⟩
      have b3 := Lib.hid (xE.out.trans (hb3.mono xE.out.size))
      have C3 := Lib.hid (xC.out.below hb3 xC.out.lt)
      have x3 := Lib.hid (xX.out.next hb3)
      have hI3 := Lib.hid hIS
      have z3 := hb3.size
      have zX := xE.out.size
      clear hb3 hIS c1 c2 c3 c4 m0 m1 m2 m3 hC hBe xC xE xX HX
      obtain ⟨d0, d1, d2, d3⟩ := x3.out.cells
      dsimp only at d0 d1 d2 d3
      go_wp2_with (fail)
      go_loopw [7, 28] (fun q i wi => ∃ j : Nat, j ≤ ps.length ∧ i = .int .i64 j ∧ q = .bool (decide (0 < ps.length) && fall fs (ps.take j)) ∧ wi = w3) (fun _ i _ => ps.length - (intOf i).toNat)
      case atStart => exact ⟨0, Nat.zero_le _, rfl, by simp [fall], rfl⟩
      case round =>
        obtain ⟨j, hj, rfl, rfl, rfl⟩ := hrel
        by_cases hjt : j < ps.length
        · obtain ⟨b2, o2, rfl, hbb, hc⟩ := hI3.out (by omega)
          have hcj := hc j hjt
          obtain ⟨hq0, hq1⟩ := hps _ (List.getElem_mem hjt)
          have hTk := Lib.hid (fall_take (fs := fs) hjt)
          obtain ⟨q, hq⟩ := Int.eq_ofNat_of_zero_le hq0
          rw [hq] at hcj hq1 hTk
          rw [Int.toNat_natCast] at hq1 hTk
          have q0 : (0 : Int) ≤ (q : Int) := by omega
          have q1 : (q : Int) < (es.length : Int) := by omega
          obtain ⟨f1, _⟩ := cb_v C3.out (q := q) (by omega)
          have hD : Hid (decide (0 < ps.length) = true) := decide_eq_true (by omega)
          rw [hD.out, Bool.true_and]
          clear hc hq hq0
          cases hy : fall fs (ps.take j)
          · have hT2 := Lib.hid (show fall fs (ps.take (j + 1)) = false by rw [hTk.out, hy, Bool.false_and])
            clear hTk hy f1
            go_wp2
            go_roundw
            case rel => exact ⟨j + 1, by omega, by go_num, by (try rw [hD.out]); rw [hT2.out]; rfl, by first | rfl | trivial⟩
            case measure => simp [intOf]; omega
          · have hT2 := Lib.hid (show fall fs (ps.take (j + 1)) = isConst (fs.getD q zeroNd).op by rw [hTk.out, hy, Bool.true_and])
            clear hTk hy
            generalize (fs.getD q zeroNd).op = s at *
            cases hcs : isConst s
            · have hse : (s.toList == [99,111,110,115,116]) = false := hcs
              rw [hcs] at hT2
              clear hcs
              go_wp2
              go_roundw
              case rel => exact ⟨j + 1, by omega, by go_num, by (try rw [hD.out]); rw [hT2.out]; first | rfl | (simp [hse]; done) | trace_state, by first | rfl | trivial⟩
              case measure => simp [intOf]; omega
            · have hse : (s.toList == [99,111,110,115,116]) = true := hcs
              have hse' : s.toList = [99,111,110,115,116] := by simpa using hse
              rw [hcs] at hT2
              clear hcs
              go_wp2
              go_roundw
              case rel => exact ⟨j + 1, by omega, by go_num, by (try rw [hD.out]); rw [hT2.out]; first | rfl | (simp [hse]; done) | trace_state, by first | rfl | trivial⟩
              case measure => simp [intOf]; omega
        · obtain rfl : j = ps.length := by omega
          rw [List.take_length]
          cases hy : (decide (0 < ps.length) && fall fs ps)
          · have hM := hno.out hy
            rw [hM] at hSt
            have hCk : Hid (CB 40 wr g ((fo es (k + 1)).flatMap Nd.enc ++ rest)) := by unfold Hid; rw [← hSt.out, hSelf.out]; exact C3.out
            clear hno hyes hps h2 HP hy
            go_wp2
            go_roundw
            case rel => exact ⟨k + 1, by omega, by go_num, hCk.out, b3.out⟩
            case measure => simp [intOf]; omega
          · have hM := hyes.out hy
            have hy2 := hy
            rw [Bool.and_eq_true, decide_eq_true_eq] at hy2
            obtain ⟨q, va, vb, rfl, hq, hop, hfv, ha0, ha1, hb0', hb1', hva, hvb⟩ : ∃ (q : Nat) (va vb : Int), a = q ∧ q < k ∧ isOp op = true ∧ fval fs ⟨op, a, b, v⟩ = ap op va vb ∧ 0 ≤ va ∧ va ≤ 63 ∧ 0 ≤ vb ∧ vb ≤ 63 ∧ va = (fs.getD q zeroNd).v ∧ ((ps.length ≤ 1 ∧ vb = 0) ∨ (1 < ps.length ∧ ∃ p : Nat, b = p ∧ p < k ∧ vb = (fs.getD p zeroNd).v)) := by
              rcases h2.out with ⟨h9, _⟩ | ⟨h9, k1, k2, k3, rfl⟩ | ⟨h9, k1, k1', k2, k3, k4, k5⟩
              · rw [h9] at hy2; exact absurd hy2.1 (by simp)
              · obtain ⟨q, rfl⟩ := Int.eq_ofNat_of_zero_le k2
                rw [Int.toNat_natCast] at k3
                obtain ⟨y0, y1⟩ := hgv.out q
                refine ⟨q, _, 0, rfl, k3, by simp [isOp, k1], ?_, y0, y1, by decide, by decide, rfl, Or.inl ⟨by rw [h9]; simp, rfl⟩⟩
                unfold fval; rw [ap_one k1 _ (fB _ _)]; rfl
              · obtain ⟨q, rfl⟩ := Int.eq_ofNat_of_zero_le k2
                obtain ⟨p, rfl⟩ := Int.eq_ofNat_of_zero_le k4
                rw [Int.toNat_natCast] at k3 k5
                obtain ⟨y0, y1⟩ := hgv.out q
                obtain ⟨y2, y3⟩ := hgv.out p
                refine ⟨q, _, _, rfl, k3, by simp [isOp, k1'], ?_, y0, y1, y2, y3, rfl, Or.inr ⟨by rw [h9]; simp, p, rfl, k5, rfl⟩⟩
                unfold fval fB; rw [if_pos (by rw [← HP.out, h9]; exact (by simp : 1 < [(q : Int), (p : Int)].length))]; rfl
            rw [hfv] at hM
            have hop := Lib.hid hop
            have q0 : (0 : Int) ≤ (q : Int) := by omega
            have q1 : (q : Int) < (es.length : Int) := by omega
            obtain ⟨_, f2⟩ := cb_v C3.out (q := q) (by omega)
            rw [← hva] at f2
            have hEx := Lib.hid fun W => exApply_any op va vb W ha0 ha1 hb0' hb1' hop.out
            have w1 := C3.out.frozen (k * 4)
            have w2 := C3.out.frozen (k * 4 + 1)
            have w3 := C3.out.frozen (k * 4 + 2)
            have w4 := C3.out.frozen (k * 4 + 3)
            obtain ⟨z0, z1, z2, z3', t1, t2, t3, t4⟩ := Nd.cellsB C3.out k hkl
            have hst : Hid (CB 40 (setCells wr g (k * 4) (Nd.enc m)) g ((fo es (k + 1)).flatMap Nd.enc ++ rest)) := by
              have h1 := C3.out.store Nd.hk k hkl m
              rw [hSt.out] at h1; exact h1
            have hsb : Hid (Below w.heap.size w (setCells wr g (k * 4) (Nd.enc m))) := by
              have hc9 := chg_setCells (Nd.enc m) g (k * 4) (Chg.refl g (g + 1) wr) (by omega)
              exact below_chg b3.out hc9 b3.out.size hg1
            have hsb' : Hid (Below w.heap.size w (setCells wr.drew g (k * 4) (Nd.enc m))) := by
              have hc9 := chg_setCells (Nd.enc m) g (k * 4) (Chg.refl g (g + 1) wr.drew) (by omega)
              exact below_chg b3.out.drew hc9 b3.out.size hg1
            have hst' : Hid (CB 40 (setCells wr.drew g (k * 4) (Nd.enc m)) g ((fo es (k + 1)).flatMap Nd.enc ++ rest)) := by
              have h9 : CB 40 wr.drew g (fs.flatMap Nd.enc ++ rest) := C3.out
              have h1 := h9.store Nd.hk k hkl m
              rw [hSt.out] at h1; exact h1
            subst hM
            have hTrue : Hid ((decide (0 < ps.length) && fall fs ps) = true) := hy
            clear hno hyes hps h2 HP hy hfv hgv hI3 hva hSt hSelf hPt
            rcases hvb with ⟨hp1, rfl⟩ | ⟨hp1, p, rfl, hp, hvb⟩
            · have hp2 : (ps.length : Int) ≤ 1 := by omega
              clear C3 b3 x3 hst hsb
              go_wp2_with (fail)
              go_region_law (go_simp; go_at_call 133; refine (hEx.out _).mono ?_; rintro e w' ⟨rfl, rfl⟩)
              all_goals
                go_wp2
                go_roundw
                case rel => exact ⟨k + 1, by omega, by go_num, hst'.out, hsb'.out⟩
                case measure => simp [intOf]; omega
            · have hp2 : (1 : Int) < (ps.length : Int) := by omega
              have q2 : (0 : Int) ≤ (p : Int) := by omega
              have q3 : (p : Int) < (es.length : Int) := by omega
              obtain ⟨_, f3⟩ := cb_v C3.out (q := p) (by omega)
              rw [← hvb] at f3
              clear C3 b3 x3 hvb hst hsb
              go_wp2_with (fail)
              go_region_law (go_simp; go_at_call 133; refine (hEx.out _).mono ?_; rintro e w' ⟨rfl, rfl⟩)
              all_goals
                go_wp2
                go_roundw
                case rel => exact ⟨k + 1, by omega, by go_num, hst'.out, hsb'.out⟩
                case measure => simp [intOf]; omega
    · obtain rfl : k = es.length := by omega
      have hgz := hC.out.lt
      have hS := exKeep_any g (g + 1) (some ⟨g, 0, none⟩) cap (es.length - 1) (fo es es.length) wr (by rw [hFl.out]; exact hl24) (by rw [hFl.out]; omega) (cb_ns hC.out) (by omega) hOkF.out
      rw [hFl.out, show ((es.length - 1 : Nat) : Int) = (es.length : Int) - 1 by omega] at hS
      have HS := Lib.hid hS
      clear hS
      go_wp2_with (fail)
      refine HS.out.mono ?_
      rintro e w4 ⟨A', c', rfl, ho, hb4⟩
      have ho4 := Lib.hid ho
      have hb5 := Lib.hid (hBe.out.trans (hb4.mono hBe.out.size))
      have hz := hBe.out.size
      clear ho hb4
      go_wp2_with (fail)
      go_ret
      exact ⟨A', c', rfl, ho4.out.lower hz, hb5.out⟩
end Go.Proofs.Ytmhdijklindipaa

/- FoldExpr: the contracts as the law takes them. -/
namespace Go.Proofs.Ytmhdijklindipaa
open Go.RowKit
set_option linter.unusedVariables false
set_option maxRecDepth 100000

set_option maxHeartbeats 4000000 in
theorem sFoldExpr_k (L B : Nat) (A : Option Addr) (c : Nat) (es : List Nd) (w : World) (hl : es.length ≤ 1048576) (hes : RS Nd.enc 4 w L B A es) (hB : B ≤ w.heap.size) :
    Calls Try.prog 99 #[.slice A es.length c] w (ResFoldExpr (foldR es) (good es) w) := by
  have H := Lib.hid (exGood_any L B A c es w hl hes.ns hB)
  have hE := Lib.hid hes
  have hBB := Lib.hid hB
  clear hes hB
  cases hg : good es
  · have hR : Hid (foldR es = []) := by simp [Hid, foldR, hg]
    rw [hg] at H
    clear hg
    go_enter Try.func99, Try.ntmps99
    go_wp2_with (fail)
    refine H.out.mono ?_
    rintro e w2 ⟨rfl, hb⟩
    have hbb := Lib.hid hb
    clear hb
    go_wp2_with (fail)
    go_ret2
    rw [hR.out]
    exact ⟨none, 0, rfl, OK.nil _ _ _ _, hbb.out⟩
  · obtain ⟨hl1, hl24, hok⟩ := good_len hg
    have hR : Hid (foldR es = keepL (foldOf es) (es.length - 1)) := by unfold Hid foldR; rw [if_pos hg]
    have hOk := Lib.hid hok
    rw [hg] at H
    clear hg hok
    go_enter Try.func99, Try.ntmps99
    go_wp2_with (fail)
    refine H.out.mono ?_
    rintro e w2 ⟨rfl, hb⟩
    have hb2 := Lib.hid hb
    have hX := Lib.hid (exFold_any L B A c es w2 hl1 hl24 (hE.out.below hb hBB.out).ns (hE.out.below hb hBB.out) (Nat.le_trans hBB.out hb.size) hOk.out)
    clear hb
    go_wp2_with (fail)
    refine hX.out.mono ?_
    rintro e w4 ⟨A', c', rfl, ho, hb4⟩
    have ho4 := Lib.hid ho
    have hb5 := Lib.hid (hb2.out.trans (hb4.mono hb2.out.size))
    have hz := hb2.out.size
    clear ho hb4
    go_wp2_with (fail)
    go_ret2
    rw [hR.out]
    exact ⟨A', c', rfl, ho4.out.lower hz, hb5.out⟩
theorem iFoldExpr_k (L B : Nat) (A : Option Addr) (c : Nat) (es : List Nd) (w : World) (hl : es.length ≤ 1048576) (hes : RS Nd.enc 4 w L B A es) (hB : B ≤ w.heap.size) (hc : es.length ≤ c) :
    Calls Try.prog 98 #[.slice A es.length c] w (ResFoldExpr (foldR es) (good es) w) := iFoldExpr_any L B A c es w hl hes.ns hB
end Go.Proofs.Ytmhdijklindipaa

namespace Go.Proofs.Ytmhdijklindipaa
open Go.RowKit
set_option linter.unusedVariables false
set_option maxRecDepth 100000

theorem hasInput1_any (s : ByteArray) (a b v k : Int) (bk : Nat) (w : World) (hc : w.cell? ⟨bk, 0, none⟩ = some (.int .i64 k)) (hbk : bk < w.heap.size) :
    Calls Try.prog 256 #[.agg #[.string s, .int .i64 a, .int .i64 b, .int .i64 v], .pointer (some ⟨bk, 0, none⟩)] w fun e w' => e = .returned (.bool (isInp ⟨s, a, b, v⟩ k)) ∧ Below w.heap.size w w' := by
  have hB1 := Lib.hid (fun o => (Below.refl w.heap.size w).alloc (Nat.le_refl _) o)
  go_enter Try.func256, Try.ntmps256
  go_wp2_with (fail)
  refine (isInput_any _ _ _ _ _ _).mono ?_
  rintro e w2 ⟨rfl, hb⟩
  have hb2 := Lib.hid ((hB1.out _).trans (hb.mono (by simp)))
  clear hb
  go_wp2
  go_ret
  exact ⟨rfl, hb2.out⟩
theorem hasIn_of {es : List Nd} {k : Int} {j : Nat} (h : hasIn (es.take j) k = true) : hasIn es k = true := by
  unfold hasIn at *
  rw [List.any_eq_true] at *
  obtain ⟨x, hx, hp⟩ := h
  exact ⟨x, List.mem_of_mem_take hx, hp⟩
def SomeIn (es : List Nd) (k : Int) (w : World) (e : Ending) (w' : World) : Prop := ∃ j : Int, e = .returned (.int .i64 j) ∧ decide (0 ≤ j) = hasIn es k ∧ Below w.heap.size w w'
set_option maxHeartbeats 1000000 in
theorem IndexFuncH_any (L B : Nat) (A : Option Addr) (c : Nat) (es : List Nd) (k : Int) (bk : Nat) (w : World) (hl : es.length ≤ 1048576) (hes : NS w L B A es) (hB : B ≤ w.heap.size) (hc : w.cell? ⟨bk, 0, none⟩ = some (.int .i64 k)) (hbk : bk < w.heap.size) :
    Calls Try.prog 269 #[.slice A es.length c, .func (.func 256) #[] #[.pointer (some ⟨bk, 0, none⟩)]] w (SomeIn es k w) := by
  have hE := Lib.hid hes
  have hBB := Lib.hid hB
  have hC := Lib.hid (And.intro hc hbk)
  have hBel0 := Below.refl w.heap.size w
  clear hes hB hc hbk
  go_enter Try.func269, Try.ntmps269
  go_wp2
  go_loopw [5, 8] (fun _ i wr => ∃ j : Nat, j ≤ es.length ∧ i = .int .i64 j ∧ hasIn (es.take j) k = false ∧ Below w.heap.size w wr) (fun _ i _ => es.length - (intOf i).toNat)
  case atStart => exact ⟨0, Nat.zero_le _, rfl, rfl, hBel0⟩
  case round =>
    obtain ⟨j, hj, rfl, hno, hbel⟩ := hrel
    have hNo := Lib.hid hno
    have hBL := Lib.hid hbel
    clear hno
    by_cases hlt : j < es.length
    · obtain ⟨b, o, rfl, ⟨_, hbB⟩, hcc⟩ := (hE.out.below hbel hBB.out) (by omega)
      obtain ⟨c1, c2, c3, c4⟩ := hcc j hlt
      have hck := Lib.hid ((hbel.cell (p := ⟨bk, 0, none⟩) hC.out.2).trans hC.out.1)
      have hbk2 := Lib.hid (Nat.lt_of_lt_of_le hC.out.2 hbel.size)
      clear hcc hbel
      have hS := Lib.hid (hasIn_snoc hlt k)
      have hOf := Lib.hid (fun h => hasIn_of (es := es) (k := k) (j := j + 1) h)
      generalize es[j] = nd at *
      obtain ⟨s, a, bb, v⟩ := nd
      have hcl := Lib.hid (hasInput1_any s a bb v k bk wr hck.out hbk2.out)
      cases hp : isInp ⟨s, a, bb, v⟩ k
      · rw [hp] at hcl
        have hx : Hid (hasIn (es.take (j + 1)) k = false) := by rw [Hid, hS.out, hNo.out, hp]; rfl
        clear hp
        go_wp2_with (go_at_call 256; (with_reducible refine hcl.out.mono ?_); rintro e w3 ⟨rfl, hb3⟩)
        have hB3 := Lib.hid (hBL.out.trans (hb3.mono hBL.out.size))
        clear hb3
        go_roundw
        case rel => exact ⟨j + 1, by omega, by go_num, hx.out, hB3.out⟩
        case measure => simp [intOf]; omega
      · rw [hp] at hcl
        have hx : Hid (hasIn es k = true) := hOf.out (by rw [hS.out, hp]; simp)
        clear hp
        go_wp2_with (go_at_call 256; (with_reducible refine hcl.out.mono ?_); rintro e w3 ⟨rfl, hb3⟩)
        have hB3 := Lib.hid (hBL.out.trans (hb3.mono hBL.out.size))
        clear hb3
        go_ret
        exact ⟨j, rfl, by rw [hx.out]; simp, hB3.out⟩
    · obtain rfl : j = es.length := by omega
      go_wp2
      go_ret
      exact ⟨-1, rfl, by have := hNo.out; rw [List.take_length] at this; rw [this]; rfl, hbel⟩
theorem ContainsFuncH_any (L B : Nat) (A : Option Addr) (c : Nat) (es : List Nd) (k : Int) (bk : Nat) (w : World) (hl : es.length ≤ 1048576) (hes : NS w L B A es) (hB : B ≤ w.heap.size) (hc : w.cell? ⟨bk, 0, none⟩ = some (.int .i64 k)) (hbk : bk < w.heap.size) :
    Calls Try.prog 255 #[.slice A es.length c, .func (.func 256) #[] #[.pointer (some ⟨bk, 0, none⟩)]] w fun e w' => e = .returned (.bool (hasIn es k)) ∧ Below w.heap.size w w' := by
  have H := Lib.hid (IndexFuncH_any L B A c es k bk w hl hes hB hc hbk)
  clear hes hB hc hbk
  go_enter Try.func255, Try.ntmps255
  go_wp2_with (fail)
  refine H.out.mono ?_
  rintro e w' ⟨j, rfl, hk, hb⟩
  have hK := Lib.hid hk; clear hk
  go_wp2
  go_ret
  exact ⟨ret_bool hK.out, hb⟩
theorem hasInput_any (L B : Nat) (A : Option Addr) (c : Nat) (es : List Nd) (k : Int) (w : World) (hl : es.length ≤ 1048576) (hes : NS w L B A es) (hB : B ≤ w.heap.size) :
    Calls Try.prog 216 #[.slice A es.length c, .int .i64 k] w fun e w' => e = .returned (.bool (hasIn es k)) ∧ Below w.heap.size w w' := by
  have hb1 := Lib.hid ((Below.refl w.heap.size w).alloc (Nat.le_refl _) (.cells #[.int .i64 k] 3))
  have H := Lib.hid (ContainsFuncH_any L B A c es k w.heap.size (w.alloc (.cells #[.int .i64 k] 3)) hl (hes.below hb1.out hB) (Nat.le_trans hB hb1.out.size) (by simp) (by simp))
  clear hes hB
  go_enter Try.func216, Try.ntmps216
  go_wp2_with (fail)
  refine H.out.mono ?_
  rintro e w' ⟨rfl, hb⟩
  have hb2 := Lib.hid (hb1.out.trans (hb.mono hb1.out.size))
  clear hb
  go_wp2
  go_ret
  exact ⟨rfl, hb2.out⟩
end Go.Proofs.Ytmhdijklindipaa
