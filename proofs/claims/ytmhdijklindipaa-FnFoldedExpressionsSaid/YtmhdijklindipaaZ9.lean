/- Texts of this proof, one behind the other: FA, RD, KMNode, RE, UB. -/
import Derived.Test.YtmhdijklindipaaZ12
import Derived.Test.YtmhdijklindipaaK2
import Derived.Test.YtmhdijklindipaaZ10
import Derived.Test.YtmhdijklindipaaZ17
import Derived.Test.YtmhdijklindipaaZ11
import Derived.Test.YtmhdijklindipaaLT
import Derived.Test.YtmhdijklindipaaLI
import Derived.WalkKit
import Derived.WalkSpells
import Derived.WalkLawsBesides
import Derived.StillTailTactics
import Derived.Deep.RegionHeld3
import Derived.Lib.Hide
import Derived.Laws.StructEq
/- Constants folded. No program. -/
namespace Go.Proofs.Ytmhdijklindipaa
open Go.RowKit
set_option linter.unusedVariables false

def constB : ByteArray := ⟨#[99, 111, 110, 115, 116]⟩
def fall (fs : List Nd) (ps : List Int) : Bool := ps.all fun p => isConst (fs.getD p.toNat zeroNd).op
def fB (fs : List Nd) (n : Nd) : Int := if 1 < (parts n).length then (fs.getD n.b.toNat zeroNd).v else 0
def fval (fs : List Nd) (n : Nd) : Int := ap n.op (fs.getD n.a.toNat zeroNd).v (fB fs n)
def fnode (fs : List Nd) (n : Nd) : Nd := if (decide (0 < (parts n).length) && fall fs (parts n)) = true then ⟨constB, 0, 0, fval fs n⟩ else n
/-- The model: each node put in its own place. -/
def fo (es : List Nd) : Nat → List Nd
  | 0 => es
  | k + 1 => (fo es k).set k (fnode (fo es k) (es.getD k zeroNd))
/-- The program: a list of its own. -/
def fp (es : List Nd) : Nat → List Nd
  | 0 => List.replicate es.length zeroNd
  | k + 1 => (fp es k).set k (fnode (fp es k) (es.getD k zeroNd))
theorem fo_len (es : List Nd) (k : Nat) : (fo es k).length = es.length := by
  induction k with
  | zero => rfl
  | succ k ih => rw [fo, List.length_set, ih]
theorem fp_len (es : List Nd) (k : Nat) : (fp es k).length = es.length := by
  induction k with
  | zero => simp [fp]
  | succ k ih => rw [fp, List.length_set, ih]
theorem fo_rest (es : List Nd) {k i : Nat} (h : k ≤ i) : (fo es k)[i]? = es[i]? := by
  induction k with
  | zero => rfl
  | succ k ih => rw [fo, List.getElem?_set_ne (by omega), ih (by omega)]
theorem fp_rest (es : List Nd) {k i : Nat} (h : k ≤ i) : (fp es k)[i]? = (List.replicate es.length zeroNd)[i]? := by
  induction k with
  | zero => rfl
  | succ k ih => rw [fp, List.getElem?_set_ne (by omega), ih (by omega)]
theorem parts_in {n : Nd} {k : Nat} (h : isNode n k = true) : ∀ p ∈ parts n, 0 ≤ p ∧ p.toNat < k := by
  intro p hp
  have := isNode_parts h p hp
  omega
theorem nd_v {n : Nd} {i : Int} (h : isNode n i = true) : 0 ≤ n.v ∧ n.v ≤ 63 := by
  unfold isNode at h
  split at h
  · simp only [Bool.and_eq_true] at h; have := (inR_iff _ _ _).1 h.2; omega
  · split at h
    · simp only [Bool.and_eq_true] at h; have := h.2; unfold isW at this; have := (inR_iff _ _ _).1 this; omega
    · split at h
      · simp only [Bool.and_eq_true, beq_iff_eq] at h; omega
      · simp only [Bool.and_eq_true, beq_iff_eq] at h; omega
theorem parts_two {n : Nd} {k : Nat} (h : isNode n k = true) : ((parts n) = [] ∧ ar n.op = 0) ∨ (parts n = [n.a] ∧ isOne n.op = true ∧ 0 ≤ n.a ∧ n.a.toNat < k ∧ n.b = 0) ∨ (parts n = [n.a, n.b] ∧ isOne n.op = false ∧ isTwo n.op = true ∧ 0 ≤ n.a ∧ n.a.toNat < k ∧ 0 ≤ n.b ∧ n.b.toNat < k) := by
  rcases ar_cases_nd h with ⟨h1, h2, h3, _⟩ | ⟨_, h2, h3, h4, h5, h6⟩ | ⟨_, h2, h3, h4, h5, h6, h7⟩
  · left; exact ⟨by simp [parts, h2, h3], h1⟩
  · right; left; exact ⟨by simp [parts, h2], h2, h4, by omega, h6⟩
  · right; right; exact ⟨by simp [parts, h2, h3], h2, h3, h4, by omega, h6, by omega⟩
theorem fnode_ext {n : Nd} {k : Nat} {fs gs : List Nd} (h : isNode n k = true) (he : ∀ i, i < k → fs[i]? = gs[i]?) : fnode fs n = fnode gs n := by
  have hd : ∀ i, i < k → fs.getD i zeroNd = gs.getD i zeroNd := fun i hi => by rw [List.getD_eq_getElem?_getD, List.getD_eq_getElem?_getD, he i hi]
  unfold fnode fall fval fB
  rcases parts_two h with ⟨h1, _⟩ | ⟨h1, _, h2, h3, _⟩ | ⟨h1, _, _, h2, h3, h4, h5⟩
  · simp [h1]
  · simp only [h1, List.all_cons, List.all_nil, List.length_cons, List.length_nil]
    rw [hd _ h3]; simp
  · simp only [h1, List.all_cons, List.all_nil, List.length_cons, List.length_nil]
    rw [hd _ h3, hd _ h5]
theorem fp_fo {es : List Nd} (hok : okFrom es 0 = true) {k : Nat} (hk : k ≤ es.length) : ∀ i, i < k → (fp es k)[i]? = (fo es k)[i]? := by
  induction k with
  | zero => intro i hi; omega
  | succ k ih =>
    intro i hi
    have ih := ih (by omega)
    have hg : es.getD k zeroNd = es[k]'(by omega) := by rw [List.getD_eq_getElem?_getD, List.getElem?_eq_getElem (by omega)]; rfl
    rw [fp, fo]
    rw [fnode_ext (k := k) (fs := fp es k) (gs := fo es k) (by rw [hg]; exact ok_get hok (by omega)) ih]
    rw [List.getElem?_set, List.getElem?_set, fp_len, fo_len]
    split
    · rfl
    · exact ih i (by omega)
theorem fp_all {es : List Nd} (hok : okFrom es 0 = true) : fp es es.length = fo es es.length := by
  apply List.ext_getElem?
  intro i
  rcases Nat.lt_or_ge i es.length with h | h
  · exact fp_fo hok (Nat.le_refl _) i h
  · rw [List.getElem?_eq_none (by rw [fp_len]; exact h), List.getElem?_eq_none (by rw [fo_len]; exact h)]
theorem okFrom_all : ∀ (es : List Nd) (i : Int), (∀ k (h : k < es.length), isNode es[k] (i + k) = true) → okFrom es i = true
  | [], _, _ => rfl
  | n :: t, i, h => by
    rw [okFrom, Bool.and_eq_true]
    refine ⟨by have := h 0 (by simp); simpa using this, okFrom_all t (i + 1) fun k hk => ?_⟩
    have := h (k + 1) (by simp; omega)
    simp only [List.getElem_cons_succ] at this
    rw [show i + 1 + (k : Int) = i + ((k + 1 : Nat) : Int) by omega]; exact this
theorem isNode_const {x : Int} (i : Int) (h0 : 0 ≤ x) (h1 : x ≤ 63) : isNode ⟨constB, 0, 0, x⟩ i = true := by
  unfold isNode
  rw [if_neg (show ¬ isIn constB = true by decide +kernel), if_pos (show isConst constB = true by decide +kernel)]
  simp [isW, h0, h1]
theorem getD_v {fs : List Nd} (h : ∀ n ∈ fs, 0 ≤ n.v ∧ n.v ≤ 63) (i : Nat) : 0 ≤ (fs.getD i zeroNd).v ∧ (fs.getD i zeroNd).v ≤ 63 := by
  rw [List.getD_eq_getElem?_getD]
  rcases Nat.lt_or_ge i fs.length with hl | hl
  · rw [List.getElem?_eq_getElem hl]; exact h _ (List.getElem_mem hl)
  · rw [List.getElem?_eq_none hl]; decide
theorem fval_bd {fs : List Nd} {n : Nd} (h : ∀ n ∈ fs, 0 ≤ n.v ∧ n.v ≤ 63) : 0 ≤ fval fs n ∧ fval fs n ≤ 63 := by
  have ha := getD_v h n.a.toNat
  have hb := getD_v h n.b.toNat
  unfold fval
  have : 0 ≤ fB fs n ∧ fB fs n ≤ 63 := by unfold fB; split <;> omega
  exact ap_bd _ _ _ ha.1 ha.2 this.1 this.2
theorem fnode_isNode {fs : List Nd} {n : Nd} {i : Int} (hn : isNode n i = true) (h : ∀ n ∈ fs, 0 ≤ n.v ∧ n.v ≤ 63) : isNode (fnode fs n) i = true := by
  unfold fnode; split
  · exact isNode_const i (fval_bd h).1 (fval_bd h).2
  · exact hn
theorem fo_ok {es : List Nd} (hok : okFrom es 0 = true) {k : Nat} (hk : k ≤ es.length) : okFrom (fo es k) 0 = true := by
  induction k with
  | zero => exact hok
  | succ k ih =>
    have ih := ih (by omega)
    have hv : ∀ n ∈ fo es k, 0 ≤ n.v ∧ n.v ≤ 63 := by
      intro n hn
      obtain ⟨j, hj, rfl⟩ := List.getElem_of_mem hn
      exact nd_v (ok_get ih hj)
    apply okFrom_all
    intro j hj
    rw [Int.zero_add]
    simp only [fo] at hj ⊢
    rw [List.getElem_set]
    split
    · rename_i e; subst e
      have hg : es.getD k zeroNd = es[k]'(by omega) := by rw [List.getD_eq_getElem?_getD, List.getElem?_eq_getElem (by omega)]; rfl
      rw [hg]; exact fnode_isNode (ok_get hok (by omega)) hv
    · exact ok_get ih (by simpa using hj)
theorem fo_v {es : List Nd} (hok : okFrom es 0 = true) {k : Nat} (hk : k ≤ es.length) : ∀ n ∈ fo es k, 0 ≤ n.v ∧ n.v ≤ 63 := by
  intro n hn
  obtain ⟨j, hj, rfl⟩ := List.getElem_of_mem hn
  exact nd_v (ok_get (fo_ok hok hk) hj)
theorem fp_v {es : List Nd} (hok : okFrom es 0 = true) {k : Nat} (hk : k ≤ es.length) : ∀ n ∈ fp es k, 0 ≤ n.v ∧ n.v ≤ 63 := by
  intro n hn
  obtain ⟨j, hj, rfl⟩ := List.getElem_of_mem hn
  rw [fp_len] at hj
  rcases Nat.lt_or_ge j k with h | h
  · have h1 := fp_fo hok hk j h
    rw [List.getElem?_eq_getElem (by rw [fp_len]; exact hj), List.getElem?_eq_getElem (by rw [fo_len]; exact hj)] at h1
    injection h1 with h1
    rw [h1]; exact fo_v hok hk _ (List.getElem_mem _)
  · have h1 := fp_rest es (i := j) h
    rw [List.getElem?_eq_getElem (by rw [fp_len]; exact hj), List.getElem?_eq_getElem (by simp; exact hj)] at h1
    injection h1 with h1
    rw [h1]; simp [zeroNd]
def foldOf (es : List Nd) : List Nd := fo es es.length
def foldR (es : List Nd) : List Nd := if good es = true then keepL (foldOf es) (es.length - 1) else []
theorem foldR_len (es : List Nd) : (foldR es).length ≤ 1048576 := by
  unfold foldR; split
  · rename_i h
    have := (good_len h).2.1
    have := ke_len (foldOf es) (need (foldOf es) (es.length - 1)) (es.length - 1 + 1) (es.length - 1 + 1)
    unfold keepL; omega
  · simp
theorem fnode_no {fs : List Nd} {n : Nd} (h : (decide (0 < (parts n).length) && fall fs (parts n)) = false) : fnode fs n = n := by unfold fnode; rw [h]; rfl
theorem fnode_yes {fs : List Nd} {n : Nd} (h : (decide (0 < (parts n).length) && fall fs (parts n)) = true) : fnode fs n = ⟨constB, 0, 0, fval fs n⟩ := by unfold fnode; rw [h]; rfl
theorem fall_take {fs : List Nd} {ps : List Int} {j : Nat} (hj : j < ps.length) : fall fs (ps.take (j + 1)) = (fall fs (ps.take j) && isConst (fs.getD (ps[j]).toNat zeroNd).op) := by
  unfold fall; rw [List.take_succ_eq_append_getElem hj, List.all_append]; simp
theorem fall_pre {fs : List Nd} {ps : List Int} {j : Nat} (h : fall fs (ps.take j) = false) : fall fs ps = false := by
  cases hx : fall fs ps
  · rfl
  · exfalso
    unfold fall at h hx
    rw [List.all_eq_true] at hx
    have : (ps.take j).all (fun p => isConst (fs.getD p.toNat zeroNd).op) = true := List.all_eq_true.2 fun p hp => hx p (List.mem_of_mem_take hp)
    rw [this] at h; cases h
end Go.Proofs.Ytmhdijklindipaa

/- A tree in the order of its walk: an expression that is no tree grows as it is expanded. No program. -/
namespace Go.Proofs.Ytmhdijklindipaa
open Go.RowKit
set_option linter.unusedVariables false

/-! ### Sums -/
def nsum (g : Nat → Int) : Nat → Int
  | 0 => 0
  | k + 1 => nsum g k + g k
theorem nsum_congr {g h : Nat → Int} : ∀ n, (∀ k, k < n → g k = h k) → nsum g n = nsum h n := by
  intro n
  induction n with
  | zero => intro _; rfl
  | succ n ih => intro he; rw [nsum, nsum, ih (fun k hk => he k (by omega)), he n (by omega)]
theorem nsum_zero (n : Nat) : nsum (fun _ => 0) n = 0 := by
  induction n with
  | zero => rfl
  | succ n ih => rw [nsum, ih]; rfl
theorem nsum_sub (g h : Nat → Int) (n : Nat) : nsum (fun k => g k - h k) n = nsum g n - nsum h n := by
  induction n with
  | zero => rfl
  | succ n ih => simp only [nsum]; rw [ih]; omega
theorem nsum_one (n : Nat) : nsum (fun _ => 1) n = (n : Int) := by
  induction n with
  | zero => rfl
  | succ n ih => rw [nsum, ih]; omega
theorem nsum_nonneg {g : Nat → Int} : ∀ n, (∀ k, k < n → 0 ≤ g k) → 0 ≤ nsum g n := by
  intro n
  induction n with
  | zero => intro _; exact Int.le_refl _
  | succ n ih => intro h; have h1 := ih (fun k hk => h k (by omega)); have h2 := h n (by omega); simp only [nsum]; omega
theorem nsum_pos {g : Nat → Int} : ∀ n, (∀ k, k < n → 0 ≤ g k) → (∃ k, k < n ∧ 1 ≤ g k) → 1 ≤ nsum g n := by
  intro n
  induction n with
  | zero => rintro _ ⟨k, hk, _⟩; omega
  | succ n ih =>
    rintro h ⟨k, hk, h1⟩
    have h3 := h n (by omega)
    have h4 := nsum_nonneg n (fun k hk => h k (by omega))
    simp only [nsum]
    by_cases hkn : k = n
    · subst hkn; omega
    · have := ih (fun k hk => h k (by omega)) ⟨k, by omega, h1⟩; omega
theorem getD_bump (u : List Int) (p : Int) (k : Nat) (hp : p.toNat < u.length) : (bump u p).getD k 0 = if k = p.toNat then u.getD k 0 + 1 else u.getD k 0 := by
  unfold bump
  rw [List.getD_eq_getElem?_getD, List.getD_eq_getElem?_getD, List.getD_eq_getElem?_getD, List.getElem?_set]
  by_cases h : p.toNat = k
  · subst h; simp [hp]
  · rw [if_neg h, if_neg (Ne.symm h)]
theorem nsum_bump (f : Nat → Int) (u : List Int) (p : Int) (hp : p.toNat < u.length) : ∀ n, nsum (fun k => f k * (bump u p).getD k 0) n = nsum (fun k => f k * u.getD k 0) n + (if p.toNat < n then f p.toNat else 0) := by
  intro n
  induction n with
  | zero => simp [nsum]
  | succ n ih =>
    simp only [nsum]
    rw [ih, getD_bump u p n hp]
    by_cases h : n = p.toNat
    · subst h
      rw [if_pos rfl, if_neg (by omega), if_pos (by omega), Int.mul_add, Int.mul_one]; omega
    · rw [if_neg h]
      by_cases h2 : p.toNat < n
      · rw [if_pos h2, if_pos (by omega)]; omega
      · rw [if_neg h2, if_neg (by omega)]; omega
def psum (f : Nat → Int) (ps : List Int) : Int := (ps.map fun p => f p.toNat).sum
theorem nsum_foldl (f : Nat → Int) (n : Nat) : ∀ (ps : List Int) (u : List Int), u.length = n → (∀ p ∈ ps, p.toNat < n) → nsum (fun k => f k * (ps.foldl bump u).getD k 0) n = nsum (fun k => f k * u.getD k 0) n + psum f ps := by
  intro ps
  induction ps with
  | nil => intro u _ _; simp [psum]
  | cons p ps ih =>
    intro u hu h
    rw [List.foldl_cons, ih (bump u p) (by rw [length_bump, hu]) (fun q hq => h q (by simp [hq])), nsum_bump f u p (by rw [hu]; exact h p (by simp)), if_pos (h p (by simp))]
    simp only [psum, List.map_cons, List.sum_cons]; omega
theorem nsum_uses (f : Nat → Int) {es : List Nd} (hp : ∀ k (h : k < es.length), ∀ p ∈ parts es[k], p.toNat < es.length) : ∀ m, m ≤ es.length → nsum (fun k => f k * (usesAt es m).getD k 0) es.length = nsum (fun i => psum f (parts (es.getD i zeroNd))) m := by
  intro m
  induction m with
  | zero =>
    intro _
    rw [usesAt_zero]
    have : ∀ k, (List.replicate es.length (0 : Int)).getD k 0 = 0 := fun k => by
      rw [List.getD_eq_getElem?_getD, List.getElem?_replicate]; split <;> rfl
    rw [nsum_congr es.length (h := fun _ => 0) (fun k _ => by rw [this]; simp), nsum_zero]; rfl
  | succ m ih =>
    intro hm
    rw [usesAt_succ (by omega), nsum_foldl f es.length _ _ (usesAt_len es m) (hp m (by omega)), ih (by omega), nsum, getD_nd (by omega)]

/-! ### The size of what a node grows to -/
def ts (es : List Nd) : Nat → Nat → Int
  | 0, _ => 0
  | F + 1, i => 1 + psum (ts es F) (parts (es.getD i zeroNd))
theorem parts_ar {n : Nd} : (ar n.op = 1 → isOne n.op = true → parts n = [n.a]) ∧ (isOne n.op = false → isTwo n.op = true → parts n = [n.a, n.b]) ∧ (isOne n.op = false → isTwo n.op = false → parts n = []) := by
  refine ⟨fun _ h => by simp [parts, h], fun h1 h2 => by simp [parts, h1, h2], fun h1 h2 => by simp [parts, h1, h2]⟩
theorem tr_ts {es : List Nd} (hok : okFrom es 0 = true) : ∀ (F o i : Nat), i < F → i < es.length → ((tr es F o i).length : Int) = ts es F i := by
  intro F
  induction F with
  | zero => intro o i h; omega
  | succ F ih =>
    intro o i hi hie
    have hnd := ok_get hok hie
    unfold tr ts; simp only []; rw [getD_nd hie]
    generalize es[i] = n at *
    rcases ar_cases_nd hnd with ⟨h1, h2, h3, -, -⟩ | ⟨h1, h2, h3, ha, ha', -⟩ | ⟨h1, h2, h3, ha, ha', hb, hb'⟩
    · rw [if_neg (by omega), if_neg (by omega), parts_ar.2.2 h2 h3]; simp [psum]
    · rw [if_pos h1, parts_ar.1 h1 h2]
      have e := ih o n.a.toNat (by omega) (by omega)
      simp only [psum, List.map_cons, List.map_nil, List.sum_cons, List.sum_nil, List.length_append, List.length_cons, List.length_nil]
      omega
    · rw [if_neg (by omega), if_pos h1, parts_ar.2.1 h2 h3]
      have e1 := ih o n.a.toNat (by omega) (by omega)
      have e2 := ih (o + (tr es F o n.a.toNat).length) n.b.toNat (by omega) (by omega)
      simp only [psum, List.map_cons, List.map_nil, List.sum_cons, List.sum_nil, List.length_append, List.length_cons, List.length_nil]
      omega
theorem psum_congr {f g : Nat → Int} {ps : List Int} (h : ∀ p ∈ ps, f p.toNat = g p.toNat) : psum f ps = psum g ps := by
  unfold psum; rw [List.map_congr_left h]
theorem ts_fuel {es : List Nd} (hok : okFrom es 0 = true) : ∀ (F G i : Nat), i < F → i < G → i < es.length → ts es F i = ts es G i := by
  intro F
  induction F with
  | zero => intro G i h; omega
  | succ F ih =>
    intro G i hi hg hie
    cases G with
    | zero => omega
    | succ G =>
      unfold ts
      rw [getD_nd hie]
      congr 1
      refine psum_congr fun p hp => ?_
      have h9 := (parts_in (ok_get hok hie) p hp).2
      exact ih G p.toNat (by omega) (by omega) (by omega)
theorem ts_pos (es : List Nd) (hok : okFrom es 0 = true) : ∀ (F i : Nat), i < F → i < es.length → 1 ≤ ts es F i := by
  intro F
  induction F with
  | zero => intro i h; omega
  | succ F ih =>
    intro i hi hie
    unfold ts
    rw [getD_nd hie]
    have : ∀ ps : List Int, (∀ p ∈ ps, p.toNat < F ∧ p.toNat < es.length) → 0 ≤ psum (ts es F) ps := by
      intro ps
      induction ps with
      | nil => intro _; exact Int.le_refl _
      | cons p ps ih2 =>
        intro h
        have h1 := ih p.toNat (h p (by simp)).1 (h p (by simp)).2
        have h2 := ih2 (fun q hq => h q (by simp [hq]))
        simp only [psum, List.map_cons, List.sum_cons] at *
        omega
    have := this (parts es[i]) (fun p hp => by have h9 := (parts_in (ok_get hok hie) p hp).2; exact ⟨by omega, by omega⟩)
    omega
theorem tree_size {es : List Nd} (hg : good es = true) : (tree es = true → (expandL es).length = es.length) ∧ (tree es = false → es.length < (expandL es).length) := by
  obtain ⟨hl1, hl24, hok⟩ := good_len hg
  obtain ⟨m, hm⟩ : ∃ m, es.length = m + 1 := ⟨es.length - 1, by omega⟩
  have hE : ((expandL es).length : Int) = ts es es.length m := by
    have := tr_ts hok es.length 0 (es.length - 1) (by omega) (by omega)
    rw [show es.length - 1 = m by omega] at this
    unfold expandL; rw [show es.length - 1 = m by omega]; exact this
  have hp : ∀ k (h : k < es.length), ∀ p ∈ parts es[k], p.toNat < es.length := fun k h p hp => by have := (parts_in (ok_get hok h) p hp).2; omega
  have hpm : ∀ k (h : k < es.length), ∀ p ∈ parts es[k], p.toNat < m := fun k h p hp => by have := (parts_in (ok_get hok h) p hp).2; omega
  have hU := fun f => nsum_uses f hp es.length (Nat.le_refl _)
  have hlen : (uses es).length = m + 1 := by rw [← hm]; exact usesAt_len _ _
  have hBd : ∀ k, 0 ≤ (uses es).getD k 0 := fun k => (usesAt_Bd (Nat.le_refl es.length) k).1
  have hge : ∀ k, k < m → 1 ≤ (uses es).getD k 0 := by
    intro k hk
    have h0 := hBd k
    have hne : (uses es).getD k 0 ≠ 0 := by
      intro e
      have hh : hasI ((uses es).take (es.length - 1)) 0 = false := by
        simp only [good, Bool.and_eq_true, Bool.not_eq_true'] at hg; exact hg.2
      unfold hasI at hh
      rw [List.any_eq_false] at hh
      have hmem : (uses es).getD k 0 ∈ (uses es).take (es.length - 1) := by
        rw [List.getD_eq_getElem?_getD, List.getElem?_eq_getElem (by omega), Option.getD_some, List.mem_take_iff_getElem]
        exact ⟨k, by omega, rfl⟩
      have := hh _ hmem
      rw [e] at this; simp at this
    omega
  have hroot : (uses es).getD m 0 = 0 := by
    have h := hU (fun k => if k = m then 1 else 0)
    rw [hm, nsum] at h
    have h1 : nsum (fun k => (if k = m then (1 : Int) else 0) * (usesAt es (m + 1)).getD k 0) m = 0 := by
      rw [nsum_congr m (h := fun _ => 0) (fun k hk => by rw [if_neg (by omega)]; simp), nsum_zero]
    have h2 : nsum (fun i => psum (fun k => if k = m then (1 : Int) else 0) (parts (es.getD i zeroNd))) (m + 1) = 0 := by
      rw [nsum_congr (m + 1) (h := fun _ => 0) (fun k hk => ?_), nsum_zero]
      rw [getD_nd (by omega), psum_congr (g := fun _ => 0) (fun p hp' => by have := hpm k (by omega) p hp'; rw [if_neg (by omega)])]
      unfold psum
      generalize parts es[k] = ps
      induction ps with
      | nil => rfl
      | cons p ps ih => simp only [List.map_cons, List.sum_cons] at ih ⊢; omega
    rw [h1, h2] at h
    simp only [if_pos] at h
    unfold uses; rw [hm]; omega
  have hmain : nsum (fun k => ts es es.length k * ((uses es).getD k 0 - 1)) m = ts es es.length m - (m + 1) := by
    obtain ⟨T, hT⟩ : ∃ T, T = ts es es.length := ⟨_, rfl⟩
    have hTk : ∀ k, T k = ts es es.length k := fun k => by rw [hT]
    rw [← hT]
    have h := hU (fun k => if k < m then T k else 0)
    rw [hm, nsum] at h
    rw [nsum_congr m (h := fun k => T k * (usesAt es (m + 1)).getD k 0) (fun k hk => by rw [if_pos hk]), if_neg (by omega)] at h
    have h2 : nsum (fun i => psum (fun k => if k < m then T k else 0) (parts (es.getD i zeroNd))) (m + 1) = nsum (fun i => T i - 1) (m + 1) := by
      refine nsum_congr _ fun i hi => ?_
      have hie : i < es.length := by omega
      rw [hTk i, ts_fuel hok es.length (i + 1) i hie (by omega) hie, ts, getD_nd hie]
      rw [psum_congr (g := ts es i) (fun p hp' => ?_)]
      · omega
      · have h9 := hpm i hie p hp'
        have h8 := (parts_in (ok_get hok hie) p hp').2
        rw [if_pos h9, hTk]; exact ts_fuel hok _ _ _ (by omega) h8 (by omega)
    rw [h2, nsum_sub, nsum_one, nsum] at h
    have h3 : nsum (fun k => T k * ((uses es).getD k 0 - 1)) m = nsum (fun k => T k * (usesAt es (m + 1)).getD k 0) m - nsum T m := by
      rw [← nsum_sub]
      refine nsum_congr m fun k hk => ?_
      unfold uses; rw [hm, Int.mul_sub, Int.mul_one]
    rw [h3]; omega
  have hts : ∀ k, k < m → 1 ≤ ts es es.length k := fun k hk => ts_pos es hok es.length k (by omega) (by omega)
  constructor
  · intro ht
    have hall : ∀ k, k < m → (uses es).getD k 0 = 1 := by
      intro k hk
      unfold tree allR at ht
      rw [List.all_eq_true] at ht
      have hmem : (uses es).getD k 0 ∈ uses es := by
        rw [List.getD_eq_getElem?_getD, List.getElem?_eq_getElem (by omega), Option.getD_some]; exact List.getElem_mem _
      have h1 := (inR_iff _ _ _).1 (ht _ hmem)
      have := hge k hk; omega
    have h0 : nsum (fun k => ts es es.length k * ((uses es).getD k 0 - 1)) m = 0 := by
      rw [nsum_congr m (h := fun _ => 0) (fun k hk => by rw [hall k hk]; simp), nsum_zero]
    rw [h0] at hmain; omega
  · intro ht
    unfold tree allR at ht
    rw [List.all_eq_false] at ht
    obtain ⟨x, hx, hb⟩ := ht
    obtain ⟨k, hk, rfl⟩ := List.getElem_of_mem hx
    have hgk : (uses es).getD k 0 = (uses es)[k] := by rw [List.getD_eq_getElem?_getD, List.getElem?_eq_getElem hk]; rfl
    have h0 := hBd k
    rw [hgk] at h0
    have h1 : 1 < (uses es)[k] := by
      rcases Int.lt_or_le 1 (uses es)[k] with h | h
      · exact h
      · exact absurd ((inR_iff _ 0 1).2 ⟨h0, h⟩) hb
    have hkm : k < m := by
      rcases Nat.lt_or_ge k m with h | h
      · exact h
      · have : k = m := by omega
        subst this; rw [hroot] at hgk; omega
    have hpos : 1 ≤ nsum (fun k => ts es es.length k * ((uses es).getD k 0 - 1)) m := by
      refine nsum_pos m (fun j hj => ?_) ⟨k, hkm, ?_⟩
      · have a := hts j hj; have b := hge j hj
        exact Int.mul_nonneg (by omega) (by omega)
      · rw [hgk]
        have a := hts k hkm
        have : 1 * 1 ≤ ts es es.length k * ((uses es)[k] - 1) := Int.mul_le_mul a (by omega) (by omega) (by omega)
        omega
    rw [hmain] at hpos; omega

/-- An expression that is a tree in the order of the walk of its root. -/
def sameN (x y : Nd) : Bool := x.op.toList == y.op.toList && x.a == y.a && x.b == y.b && x.v == y.v
def sameL (xs ys : List Nd) : Bool := decide (xs.length = ys.length) && (List.range xs.length).all fun k => sameN (xs.getD k zeroNd) (ys.getD k zeroNd)
def walked (es : List Nd) : Bool := expandOk es && sameL (expandL es) es
theorem walked_tree {es : List Nd} (hg : good es = true) : walked es = (tree es && sameL (expandL es) es) := by
  obtain ⟨h1, h2⟩ := tree_size hg
  obtain ⟨hl1, hl24, hok⟩ := good_len hg
  unfold walked expandOk
  cases ht : tree es
  · have := h2 ht
    have : sameL (expandL es) es = false := by unfold sameL; rw [decide_eq_false (by omega)]; rfl
    rw [this]; simp
  · rw [h1 ht, hg, decide_eq_true hl24]; rfl
theorem walked_good {es : List Nd} (h : walked es = true) : good es = true := by
  unfold walked expandOk at h; simp only [Bool.and_eq_true] at h; exact h.1.1
end Go.Proofs.Ytmhdijklindipaa

/- Slices of Node: marks. -/
namespace Go.Proofs.Ytmhdijklindipaa
open Go.RowKit
set_option linter.unusedVariables false

theorem Nd.rs {t : TypeId} {w : World} {lo hi n c : Nat} {A : Option Addr} {xs : List Nd} (h : OK Nd.enc 4 t w lo hi (.slice A n c) xs) : RS Nd.enc 4 w lo hi A xs := by
  obtain ⟨A', c', e, his⟩ := h.form Nd.hk
  injection e with a _ _; subst a; exact his
theorem Nd.boxed {t : TypeId} {w : World} (x : Nd) : RS Nd.enc 4 (w.alloc (.cells #[.string x.op, .int .i64 x.a, .int .i64 x.b, .int .i64 x.v] t)) w.heap.size (w.heap.size + 1) (some ⟨w.heap.size, 0, none⟩) [x] :=
  KB.toRS Nd.hk (t := t) (by unfold KB; rw [heap_alloc_new]; rfl)
theorem Nd.box {w : World} {lo hi g : Nat} {x : Nd} (h : RS Nd.enc 4 w lo hi (some ⟨g, 0, none⟩) [x]) : w.cell? ⟨g, 0, none⟩ = some (.string x.op) ∧ w.cell? ⟨g, 1, none⟩ = some (.int .i64 x.a) ∧ w.cell? ⟨g, 2, none⟩ = some (.int .i64 x.b) ∧ w.cell? ⟨g, 3, none⟩ = some (.int .i64 x.v) := by
  obtain ⟨b, o, e, _, hc⟩ := h (by simp)
  injection e with e; injection e with e1 e2 _; subst e1; subst e2
  have := fun j v hv => hc 0 (by simp) j v hv
  simp only [Nat.zero_mul, Nat.zero_add, List.getElem_cons_zero] at this
  exact ⟨this 0 _ rfl, this 1 _ rfl, this 2 _ rfl, this 3 _ rfl⟩
def markNd (k0 : Int) (i : Nat) : Nd := ⟨mtx (k0 + 4 * (i : Int)), k0 + 4 * (i : Int) + 1, k0 + 4 * (i : Int) + 1 + 1, k0 + 4 * (i : Int) + 1 + 1 + 1⟩
def marksNd (k0 : Int) (n : Nat) : List Nd := (List.range n).map (markNd k0)
theorem marksNd_len (k0 : Int) (n : Nat) : (marksNd k0 n).length = n := by simp [marksNd]
def MarkedNode (w : World) (lo hi : Nat) (sl : Value) (n : Nat) (k0 : Int) (e : Ending) (w' : World) : Prop :=
  e = .returned (.int .i64 (k0 + 4 * n)) ∧ OK Nd.enc 4 40 w' lo hi sl (marksNd k0 n) ∧ Chg lo hi w w'
end Go.Proofs.Ytmhdijklindipaa

/- Nodes compared by '=='. -/
namespace Go.Proofs.Ytmhdijklindipaa
open Go.RowKit
set_option linter.unusedVariables false
set_option maxRecDepth 100000
theorem nd_guard : Try.prog.eqGuardType Try.prog.depth 40 = false := by kernel_rfl
theorem equalIn_nd (op op' : ByteArray) (a b v a' b' v' : Int) (w : World) : (Op.equalIn 10000 40 (.agg #[.string op, .int .i64 a, .int .i64 b, .int .i64 v]) (.agg #[.string op', .int .i64 a', .int .i64 b', .int .i64 v'])).run Try.prog w = .ok (sameN ⟨op, a, b, v⟩ ⟨op', a', b', v'⟩) w := by
  have u3 := Try.underlying3
  have a3 := Try.isAgg3
  have z3 := Try.sizeOf3
  have u9 := Try.underlying9
  have a9 := Try.isAgg9
  have z9 := Try.sizeOf9
  have hS : Try.prog.underlying 40 = some (.struct (Try.prog.fieldsOf 40)) := by kernel_rfl
  have hp : Try.prog.stoodInHeld 40 = false := by kernel_rfl
  rw [show (10000 : Nat) = 9999 + 1 from rfl, run_equalIn_agg w 9999 40 _ _ hS hp]
  simp only [Program.fieldsOf, Try.underlying40]
  unfold sameN
  go_simp
  by_cases h0 : op.toList = op'.toList <;> by_cases h1 : a = a' <;> by_cases h2 : b = b' <;> by_cases h3 : v = v' <;> simp [h0, h1, h2, h3]
theorem sameL_no {xs ys : List Nd} {k : Nat} (hk : k < xs.length) (h : sameN (xs.getD k zeroNd) (ys.getD k zeroNd) = false) : sameL xs ys = false := by
  unfold sameL
  rw [Bool.and_eq_false_iff]; right
  rw [List.all_eq_false]
  exact ⟨k, by simpa using hk, by simpa using h⟩
theorem sameL_yes {xs ys : List Nd} (hl : xs.length = ys.length) (h : ∀ k, k < xs.length → sameN (xs.getD k zeroNd) (ys.getD k zeroNd) = true) : sameL xs ys = true := by
  unfold sameL
  rw [Bool.and_eq_true]
  refine ⟨decide_eq_true hl, ?_⟩
  rw [List.all_eq_true]
  intro k hk
  exact h k (by simpa using hk)
theorem sameL_len {xs ys : List Nd} (hl : xs.length ≠ ys.length) : sameL xs ys = false := by
  unfold sameL; rw [decide_eq_false hl]; rfl

end Go.Proofs.Ytmhdijklindipaa

/- ShareExpr: what it answers. No program. -/
namespace Go.Proofs.Ytmhdijklindipaa
open Go.RowKit
set_option linter.unusedVariables false

theorem sameN_comm (x y : Nd) : sameN x y = sameN y x := by
  unfold sameN
  rw [Bool.beq_comm (a := x.op.toList), Bool.beq_comm (a := x.a), Bool.beq_comm (a := x.b), Bool.beq_comm (a := x.v)]
def nidx (xs : List Nd) (y : Nd) : Int := firstI (fun k => sameN (xs.getD k zeroNd) y) xs.length
def po1 (xs : List Nd) (y : Nd) : List Nd × Int := if 0 ≤ nidx xs y then (xs, nidx xs y) else (xs ++ [y], (xs.length : Int))
theorem po1_yes {xs : List Nd} {y : Nd} (h : 0 ≤ nidx xs y) : po1 xs y = (xs, nidx xs y) := by unfold po1; rw [if_pos h]
theorem po1_no {xs : List Nd} {y : Nd} (h : ¬ 0 ≤ nidx xs y) : po1 xs y = (xs ++ [y], (xs.length : Int)) := by unfold po1; rw [if_neg h]
theorem po1_idx (xs : List Nd) (y : Nd) : 0 ≤ (po1 xs y).2 ∧ (po1 xs y).1.length ≤ xs.length + 1 := by
  unfold po1; split
  · rename_i h; exact ⟨h, by simp⟩
  · exact ⟨by simp, by simp⟩
/-- Each node once: the nodes so far, and where each node stands, -1 for one that has not been walked. -/
def on (es : List Nd) : Nat → Nat → List Nd × List Int → (List Nd × List Int) × Int
  | 0, _, s => (s, 0)
  | F + 1, i, s => if 0 ≤ s.2.getD i 0 then (s, s.2.getD i 0) else
    (((po1 (woG (on es F) (es.getD i zeroNd) s).1.1 (woG (on es F) (es.getD i zeroNd) s).2).1, (woG (on es F) (es.getD i zeroNd) s).1.2.set i (po1 (woG (on es F) (es.getD i zeroNd) s).1.1 (woG (on es F) (es.getD i zeroNd) s).2).2), (po1 (woG (on es F) (es.getD i zeroNd) s).1.1 (woG (on es F) (es.getD i zeroNd) s).2).2)
def cntD (ds : List Int) : Nat := ds.countP fun d => decide (0 ≤ d)
theorem cntD_set {ds : List Int} {i : Nat} {x : Int} (hi : i < ds.length) (h : ds.getD i 0 < 0) (hx : 0 ≤ x) : cntD (ds.set i x) = cntD ds + 1 := by
  unfold cntD
  have h1 : ds[i] < 0 := by rw [List.getD_eq_getElem?_getD, List.getElem?_eq_getElem hi] at h; exact h
  rw [List.countP_set hi, decide_eq_false (by omega : ¬ 0 ≤ ds[i]), decide_eq_true hx]; simp
theorem cntD_lt {ds : List Int} {i : Nat} (hi : i < ds.length) (h : ds.getD i 0 < 0) : cntD ds < ds.length := by
  have h1 := cntD_set (x := 0) hi h (Int.le_refl _)
  have h2 : cntD (ds.set i 0) ≤ (ds.set i 0).length := List.countP_le_length
  rw [List.length_set] at h2; omega
def InvO (n : Nat) (s : List Nd × List Int) : Prop := s.2.length = n ∧ s.1.length ≤ cntD s.2
theorem getD_set_int {ds : List Int} {i j : Nat} (x : Int) (h : i ≠ j) : (ds.set i x).getD j 0 = ds.getD j 0 := by
  rw [List.getD_eq_getElem?_getD, List.getD_eq_getElem?_getD, List.getElem?_set_ne h]
theorem on_inv {es : List Nd} (hok : okFrom es 0 = true) : ∀ (F i : Nat) (s : List Nd × List Int), i < F → i < es.length → InvO es.length s →
    InvO es.length (on es F i s).1 ∧ (∀ j, i < j → (on es F i s).1.2.getD j 0 = s.2.getD j 0) ∧ 0 ≤ (on es F i s).2 ∧ (s.2.getD i 0 < 0 → ∀ G, F = G + 1 → InvO es.length (woG (on es G) (es.getD i zeroNd) s).1 ∧ (woG (on es G) (es.getD i zeroNd) s).1.2.getD i 0 < 0) := by
  intro F
  induction F with
  | zero => intro i s h; omega
  | succ F ih =>
    intro i s hi hie hI
    by_cases h0 : 0 ≤ s.2.getD i 0
    · have e : on es (F + 1) i s = (s, s.2.getD i 0) := by rw [on, if_pos h0]
      rw [e]
      exact ⟨hI, fun j hj => rfl, h0, fun h => absurd h0 (by omega)⟩
    · have hnd := ok_get hok hie
      have hg := getD_nd hie
      -- what the operands leave
      have key : InvO es.length (woG (on es F) (es.getD i zeroNd) s).1 ∧ ∀ j, i ≤ j → (woG (on es F) (es.getD i zeroNd) s).1.2.getD j 0 = s.2.getD j 0 := by
        rw [hg]
        generalize es[i] = n at *
        unfold woG
        rcases ar_cases_nd hnd with ⟨h1, -, -, -, -⟩ | ⟨h1, -, -, ha, ha', -⟩ | ⟨h1, -, -, ha, ha', hb, hb'⟩
        · rw [if_neg (by omega), if_neg (by omega)]; exact ⟨hI, fun j _ => rfl⟩
        · rw [if_pos h1]
          obtain ⟨a1, a2, -, -⟩ := ih n.a.toNat s (by omega) (by omega) hI
          exact ⟨a1, fun j hj => a2 j (by omega)⟩
        · rw [if_neg (by omega), if_pos h1]
          obtain ⟨a1, a2, -, -⟩ := ih n.a.toNat s (by omega) (by omega) hI
          obtain ⟨b1, b2, -, -⟩ := ih n.b.toNat _ (by omega) (by omega) a1
          exact ⟨b1, fun j hj => (b2 j (by omega)).trans (a2 j (by omega))⟩
      obtain ⟨k1, k2⟩ := key
      have hneg : (woG (on es F) (es.getD i zeroNd) s).1.2.getD i 0 < 0 := by rw [k2 i (Nat.le_refl _)]; omega
      have e : on es (F + 1) i s = (((po1 (woG (on es F) (es.getD i zeroNd) s).1.1 (woG (on es F) (es.getD i zeroNd) s).2).1, (woG (on es F) (es.getD i zeroNd) s).1.2.set i (po1 (woG (on es F) (es.getD i zeroNd) s).1.1 (woG (on es F) (es.getD i zeroNd) s).2).2), (po1 (woG (on es F) (es.getD i zeroNd) s).1.1 (woG (on es F) (es.getD i zeroNd) s).2).2) := by rw [on, if_neg h0]
      rw [e]
      have hp := po1_idx (woG (on es F) (es.getD i zeroNd) s).1.1 (woG (on es F) (es.getD i zeroNd) s).2
      refine ⟨⟨?_, ?_⟩, fun j hj => ?_, hp.1, fun _ G hG => ?_⟩
      · simp only [List.length_set]; exact k1.1
      · have h9 := cntD_set (x := (po1 (woG (on es F) (es.getD i zeroNd) s).1.1 (woG (on es F) (es.getD i zeroNd) s).2).2) (by rw [k1.1]; exact hie) hneg hp.1
        have h8 := k1.2
        have h7 := hp.2
        show (po1 _ _).1.length ≤ cntD (List.set _ _ _)
        omega
      · show (List.set _ _ _).getD j 0 = _
        rw [getD_set_int _ (by omega)]; exact k2 j (by omega)
      · have : G = F := by omega
        subst this
        exact ⟨k1, hneg⟩
def plOf (ds : List Int) : List Int := ds.map fun d => if d < 0 then 0 else d
def seenOf (ds : List Int) : List Bool := ds.map fun d => decide (0 ≤ d)
theorem plOf_set (ds : List Int) (i : Nat) {x : Int} (hx : 0 ≤ x) : (plOf ds).set i x = plOf (ds.set i x) := by
  unfold plOf; rw [List.map_set, if_neg (by omega)]
theorem seenOf_set (ds : List Int) (i : Nat) {x : Int} (hx : 0 ≤ x) : (seenOf ds).set i true = seenOf (ds.set i x) := by
  unfold seenOf; rw [List.map_set, decide_eq_true hx]
theorem plOf_get {ds : List Int} {i : Nat} (h : 0 ≤ ds.getD i 0) (hi : i < ds.length) : (plOf ds).getD i 0 = ds.getD i 0 := by
  have e : ds.getD i 0 = ds[i] := by rw [List.getD_eq_getElem?_getD, List.getElem?_eq_getElem hi]; rfl
  rw [e] at h ⊢
  unfold plOf; rw [List.getD_eq_getElem?_getD, List.getElem?_map, List.getElem?_eq_getElem hi]
  show (if ds[i] < 0 then 0 else ds[i]) = _
  rw [if_neg (by omega)]
theorem seenOf_get {ds : List Int} {i : Nat} (hi : i < ds.length) : (seenOf ds).getD i false = decide (0 ≤ ds.getD i 0) := by
  have e : ds.getD i 0 = ds[i] := by rw [List.getD_eq_getElem?_getD, List.getElem?_eq_getElem hi]; rfl
  rw [e]
  unfold seenOf; rw [List.getD_eq_getElem?_getD, List.getElem?_map, List.getElem?_eq_getElem hi]; rfl
def shareL (es : List Nd) : List Nd := (on es es.length (es.length - 1) ([], List.replicate es.length (-1))).1.1
def shareR (es : List Nd) : List Nd := if good es = true then shareL es else []
theorem inv_start (n : Nat) : InvO n ([], List.replicate n (-1)) := ⟨by simp, by simp⟩
theorem shareR_len (es : List Nd) : (shareR es).length ≤ 1048576 := by
  unfold shareR; split
  · rename_i h
    obtain ⟨h1, h24, hok⟩ := good_len h
    have h9 := (on_inv hok es.length (es.length - 1) ([], List.replicate es.length (-1)) (by omega) (by omega) (inv_start _)).1
    have h8 : cntD _ ≤ _ := List.countP_le_length (l := (on es es.length (es.length - 1) ([], List.replicate es.length (-1))).1.2)
    have := h9.1; have := h9.2
    unfold shareL; omega
  · simp
end Go.Proofs.Ytmhdijklindipaa
