import Derived.Test.YthjfedidpjfboaaXG
import Derived.Test.YthjfedidpjfboaaJ
import Derived.Test.YthjfedidpjfboaaFA
/- A tree in the order of its walk: an expression that is no tree grows as it is expanded. No program. -/
namespace Go.Proofs.Ythjfedidpjfboaa
open Go.RowKit
set_option linter.unusedVariables false

/-! ### Sums -/
def nsum (g : Nat → Int) : Nat → Int
  | 0 => 0
  | k + 1 => nsum g k + g k
theorem nsum_congr {g h : Nat → Int} : ∀ n, (∀ k, k < n → g k = h k) → nsum g n = nsum h n := by
  intro n
  induction n with
  | zero => intro _; rfl
  | succ n ih => intro he; rw [nsum, nsum, ih (fun k hk => he k (by omega)), he n (by omega)]
theorem nsum_zero (n : Nat) : nsum (fun _ => 0) n = 0 := by
  induction n with
  | zero => rfl
  | succ n ih => rw [nsum, ih]; rfl
theorem nsum_sub (g h : Nat → Int) (n : Nat) : nsum (fun k => g k - h k) n = nsum g n - nsum h n := by
  induction n with
  | zero => rfl
  | succ n ih => simp only [nsum]; rw [ih]; omega
theorem nsum_one (n : Nat) : nsum (fun _ => 1) n = (n : Int) := by
  induction n with
  | zero => rfl
  | succ n ih => rw [nsum, ih]; omega
theorem nsum_nonneg {g : Nat → Int} : ∀ n, (∀ k, k < n → 0 ≤ g k) → 0 ≤ nsum g n := by
  intro n
  induction n with
  | zero => intro _; exact Int.le_refl _
  | succ n ih => intro h; have h1 := ih (fun k hk => h k (by omega)); have h2 := h n (by omega); simp only [nsum]; omega
theorem nsum_pos {g : Nat → Int} : ∀ n, (∀ k, k < n → 0 ≤ g k) → (∃ k, k < n ∧ 1 ≤ g k) → 1 ≤ nsum g n := by
  intro n
  induction n with
  | zero => rintro _ ⟨k, hk, _⟩; omega
  | succ n ih =>
    rintro h ⟨k, hk, h1⟩
    have h3 := h n (by omega)
    have h4 := nsum_nonneg n (fun k hk => h k (by omega))
    simp only [nsum]
    by_cases hkn : k = n
    · subst hkn; omega
    · have := ih (fun k hk => h k (by omega)) ⟨k, by omega, h1⟩; omega
theorem getD_bump (u : List Int) (p : Int) (k : Nat) (hp : p.toNat < u.length) : (bump u p).getD k 0 = if k = p.toNat then u.getD k 0 + 1 else u.getD k 0 := by
  unfold bump
  rw [List.getD_eq_getElem?_getD, List.getD_eq_getElem?_getD, List.getD_eq_getElem?_getD, List.getElem?_set]
  by_cases h : p.toNat = k
  · subst h; simp [hp]
  · rw [if_neg h, if_neg (Ne.symm h)]
theorem nsum_bump (f : Nat → Int) (u : List Int) (p : Int) (hp : p.toNat < u.length) : ∀ n, nsum (fun k => f k * (bump u p).getD k 0) n = nsum (fun k => f k * u.getD k 0) n + (if p.toNat < n then f p.toNat else 0) := by
  intro n
  induction n with
  | zero => simp [nsum]
  | succ n ih =>
    simp only [nsum]
    rw [ih, getD_bump u p n hp]
    by_cases h : n = p.toNat
    · subst h
      rw [if_pos rfl, if_neg (by omega), if_pos (by omega), Int.mul_add, Int.mul_one]; omega
    · rw [if_neg h]
      by_cases h2 : p.toNat < n
      · rw [if_pos h2, if_pos (by omega)]; omega
      · rw [if_neg h2, if_neg (by omega)]; omega
def psum (f : Nat → Int) (ps : List Int) : Int := (ps.map fun p => f p.toNat).sum
theorem nsum_foldl (f : Nat → Int) (n : Nat) : ∀ (ps : List Int) (u : List Int), u.length = n → (∀ p ∈ ps, p.toNat < n) → nsum (fun k => f k * (ps.foldl bump u).getD k 0) n = nsum (fun k => f k * u.getD k 0) n + psum f ps := by
  intro ps
  induction ps with
  | nil => intro u _ _; simp [psum]
  | cons p ps ih =>
    intro u hu h
    rw [List.foldl_cons, ih (bump u p) (by rw [length_bump, hu]) (fun q hq => h q (by simp [hq])), nsum_bump f u p (by rw [hu]; exact h p (by simp)), if_pos (h p (by simp))]
    simp only [psum, List.map_cons, List.sum_cons]; omega
theorem nsum_uses (f : Nat → Int) {es : List Nd} (hp : ∀ k (h : k < es.length), ∀ p ∈ parts es[k], p.toNat < es.length) : ∀ m, m ≤ es.length → nsum (fun k => f k * (usesAt es m).getD k 0) es.length = nsum (fun i => psum f (parts (es.getD i zeroNd))) m := by
  intro m
  induction m with
  | zero =>
    intro _
    rw [usesAt_zero]
    have : ∀ k, (List.replicate es.length (0 : Int)).getD k 0 = 0 := fun k => by
      rw [List.getD_eq_getElem?_getD, List.getElem?_replicate]; split <;> rfl
    rw [nsum_congr es.length (h := fun _ => 0) (fun k _ => by rw [this]; simp), nsum_zero]; rfl
  | succ m ih =>
    intro hm
    rw [usesAt_succ (by omega), nsum_foldl f es.length _ _ (usesAt_len es m) (hp m (by omega)), ih (by omega), nsum, getD_nd (by omega)]

/-! ### The size of what a node grows to -/
def ts (es : List Nd) : Nat → Nat → Int
  | 0, _ => 0
  | F + 1, i => 1 + psum (ts es F) (parts (es.getD i zeroNd))
theorem parts_ar {n : Nd} : (ar n.op = 1 → isOne n.op = true → parts n = [n.a]) ∧ (isOne n.op = false → isTwo n.op = true → parts n = [n.a, n.b]) ∧ (isOne n.op = false → isTwo n.op = false → parts n = []) := by
  refine ⟨fun _ h => by simp [parts, h], fun h1 h2 => by simp [parts, h1, h2], fun h1 h2 => by simp [parts, h1, h2]⟩
theorem tr_ts {es : List Nd} (hok : okFrom es 0 = true) : ∀ (F o i : Nat), i < F → i < es.length → ((tr es F o i).length : Int) = ts es F i := by
  intro F
  induction F with
  | zero => intro o i h; omega
  | succ F ih =>
    intro o i hi hie
    have hnd := ok_get hok hie
    unfold tr ts; simp only []; rw [getD_nd hie]
    generalize es[i] = n at *
    rcases ar_cases_nd hnd with ⟨h1, h2, h3, -, -⟩ | ⟨h1, h2, h3, ha, ha', -⟩ | ⟨h1, h2, h3, ha, ha', hb, hb'⟩
    · rw [if_neg (by omega), if_neg (by omega), parts_ar.2.2 h2 h3]; simp [psum]
    · rw [if_pos h1, parts_ar.1 h1 h2]
      have e := ih o n.a.toNat (by omega) (by omega)
      simp only [psum, List.map_cons, List.map_nil, List.sum_cons, List.sum_nil, List.length_append, List.length_cons, List.length_nil]
      omega
    · rw [if_neg (by omega), if_pos h1, parts_ar.2.1 h2 h3]
      have e1 := ih o n.a.toNat (by omega) (by omega)
      have e2 := ih (o + (tr es F o n.a.toNat).length) n.b.toNat (by omega) (by omega)
      simp only [psum, List.map_cons, List.map_nil, List.sum_cons, List.sum_nil, List.length_append, List.length_cons, List.length_nil]
      omega
theorem psum_congr {f g : Nat → Int} {ps : List Int} (h : ∀ p ∈ ps, f p.toNat = g p.toNat) : psum f ps = psum g ps := by
  unfold psum; rw [List.map_congr_left h]
theorem ts_fuel {es : List Nd} (hok : okFrom es 0 = true) : ∀ (F G i : Nat), i < F → i < G → i < es.length → ts es F i = ts es G i := by
  intro F
  induction F with
  | zero => intro G i h; omega
  | succ F ih =>
    intro G i hi hg hie
    cases G with
    | zero => omega
    | succ G =>
      unfold ts
      rw [getD_nd hie]
      congr 1
      refine psum_congr fun p hp => ?_
      have h9 := (parts_in (ok_get hok hie) p hp).2
      exact ih G p.toNat (by omega) (by omega) (by omega)
theorem ts_pos (es : List Nd) (hok : okFrom es 0 = true) : ∀ (F i : Nat), i < F → i < es.length → 1 ≤ ts es F i := by
  intro F
  induction F with
  | zero => intro i h; omega
  | succ F ih =>
    intro i hi hie
    unfold ts
    rw [getD_nd hie]
    have : ∀ ps : List Int, (∀ p ∈ ps, p.toNat < F ∧ p.toNat < es.length) → 0 ≤ psum (ts es F) ps := by
      intro ps
      induction ps with
      | nil => intro _; exact Int.le_refl _
      | cons p ps ih2 =>
        intro h
        have h1 := ih p.toNat (h p (by simp)).1 (h p (by simp)).2
        have h2 := ih2 (fun q hq => h q (by simp [hq]))
        simp only [psum, List.map_cons, List.sum_cons] at *
        omega
    have := this (parts es[i]) (fun p hp => by have h9 := (parts_in (ok_get hok hie) p hp).2; exact ⟨by omega, by omega⟩)
    omega
theorem tree_size {es : List Nd} (hg : good es = true) : (tree es = true → (expandL es).length = es.length) ∧ (tree es = false → es.length < (expandL es).length) := by
  obtain ⟨hl1, hl24, hok⟩ := good_len hg
  obtain ⟨m, hm⟩ : ∃ m, es.length = m + 1 := ⟨es.length - 1, by omega⟩
  have hE : ((expandL es).length : Int) = ts es es.length m := by
    have := tr_ts hok es.length 0 (es.length - 1) (by omega) (by omega)
    rw [show es.length - 1 = m by omega] at this
    unfold expandL; rw [show es.length - 1 = m by omega]; exact this
  have hp : ∀ k (h : k < es.length), ∀ p ∈ parts es[k], p.toNat < es.length := fun k h p hp => by have := (parts_in (ok_get hok h) p hp).2; omega
  have hpm : ∀ k (h : k < es.length), ∀ p ∈ parts es[k], p.toNat < m := fun k h p hp => by have := (parts_in (ok_get hok h) p hp).2; omega
  have hU := fun f => nsum_uses f hp es.length (Nat.le_refl _)
  have hlen : (uses es).length = m + 1 := by rw [← hm]; exact usesAt_len _ _
  have hBd : ∀ k, 0 ≤ (uses es).getD k 0 := fun k => (usesAt_Bd (Nat.le_refl es.length) k).1
  have hge : ∀ k, k < m → 1 ≤ (uses es).getD k 0 := by
    intro k hk
    have h0 := hBd k
    have hne : (uses es).getD k 0 ≠ 0 := by
      intro e
      have hh : hasI ((uses es).take (es.length - 1)) 0 = false := by
        simp only [good, Bool.and_eq_true, Bool.not_eq_true'] at hg; exact hg.2
      unfold hasI at hh
      rw [List.any_eq_false] at hh
      have hmem : (uses es).getD k 0 ∈ (uses es).take (es.length - 1) := by
        rw [List.getD_eq_getElem?_getD, List.getElem?_eq_getElem (by omega), Option.getD_some, List.mem_take_iff_getElem]
        exact ⟨k, by omega, rfl⟩
      have := hh _ hmem
      rw [e] at this; simp at this
    omega
  have hroot : (uses es).getD m 0 = 0 := by
    have h := hU (fun k => if k = m then 1 else 0)
    rw [hm, nsum] at h
    have h1 : nsum (fun k => (if k = m then (1 : Int) else 0) * (usesAt es (m + 1)).getD k 0) m = 0 := by
      rw [nsum_congr m (h := fun _ => 0) (fun k hk => by rw [if_neg (by omega)]; simp), nsum_zero]
    have h2 : nsum (fun i => psum (fun k => if k = m then (1 : Int) else 0) (parts (es.getD i zeroNd))) (m + 1) = 0 := by
      rw [nsum_congr (m + 1) (h := fun _ => 0) (fun k hk => ?_), nsum_zero]
      rw [getD_nd (by omega), psum_congr (g := fun _ => 0) (fun p hp' => by have := hpm k (by omega) p hp'; rw [if_neg (by omega)])]
      unfold psum
      generalize parts es[k] = ps
      induction ps with
      | nil => rfl
      | cons p ps ih => simp only [List.map_cons, List.sum_cons] at ih ⊢; omega
    rw [h1, h2] at h
    simp only [if_pos] at h
    unfold uses; rw [hm]; omega
  have hmain : nsum (fun k => ts es es.length k * ((uses es).getD k 0 - 1)) m = ts es es.length m - (m + 1) := by
    obtain ⟨T, hT⟩ : ∃ T, T = ts es es.length := ⟨_, rfl⟩
    have hTk : ∀ k, T k = ts es es.length k := fun k => by rw [hT]
    rw [← hT]
    have h := hU (fun k => if k < m then T k else 0)
    rw [hm, nsum] at h
    rw [nsum_congr m (h := fun k => T k * (usesAt es (m + 1)).getD k 0) (fun k hk => by rw [if_pos hk]), if_neg (by omega)] at h
    have h2 : nsum (fun i => psum (fun k => if k < m then T k else 0) (parts (es.getD i zeroNd))) (m + 1) = nsum (fun i => T i - 1) (m + 1) := by
      refine nsum_congr _ fun i hi => ?_
      have hie : i < es.length := by omega
      rw [hTk i, ts_fuel hok es.length (i + 1) i hie (by omega) hie, ts, getD_nd hie]
      rw [psum_congr (g := ts es i) (fun p hp' => ?_)]
      · omega
      · have h9 := hpm i hie p hp'
        have h8 := (parts_in (ok_get hok hie) p hp').2
        rw [if_pos h9, hTk]; exact ts_fuel hok _ _ _ (by omega) h8 (by omega)
    rw [h2, nsum_sub, nsum_one, nsum] at h
    have h3 : nsum (fun k => T k * ((uses es).getD k 0 - 1)) m = nsum (fun k => T k * (usesAt es (m + 1)).getD k 0) m - nsum T m := by
      rw [← nsum_sub]
      refine nsum_congr m fun k hk => ?_
      unfold uses; rw [hm, Int.mul_sub, Int.mul_one]
    rw [h3]; omega
  have hts : ∀ k, k < m → 1 ≤ ts es es.length k := fun k hk => ts_pos es hok es.length k (by omega) (by omega)
  constructor
  · intro ht
    have hall : ∀ k, k < m → (uses es).getD k 0 = 1 := by
      intro k hk
      unfold tree allR at ht
      rw [List.all_eq_true] at ht
      have hmem : (uses es).getD k 0 ∈ uses es := by
        rw [List.getD_eq_getElem?_getD, List.getElem?_eq_getElem (by omega), Option.getD_some]; exact List.getElem_mem _
      have h1 := (inR_iff _ _ _).1 (ht _ hmem)
      have := hge k hk; omega
    have h0 : nsum (fun k => ts es es.length k * ((uses es).getD k 0 - 1)) m = 0 := by
      rw [nsum_congr m (h := fun _ => 0) (fun k hk => by rw [hall k hk]; simp), nsum_zero]
    rw [h0] at hmain; omega
  · intro ht
    unfold tree allR at ht
    rw [List.all_eq_false] at ht
    obtain ⟨x, hx, hb⟩ := ht
    obtain ⟨k, hk, rfl⟩ := List.getElem_of_mem hx
    have hgk : (uses es).getD k 0 = (uses es)[k] := by rw [List.getD_eq_getElem?_getD, List.getElem?_eq_getElem hk]; rfl
    have h0 := hBd k
    rw [hgk] at h0
    have h1 : 1 < (uses es)[k] := by
      rcases Int.lt_or_le 1 (uses es)[k] with h | h
      · exact h
      · exact absurd ((inR_iff _ 0 1).2 ⟨h0, h⟩) hb
    have hkm : k < m := by
      rcases Nat.lt_or_ge k m with h | h
      · exact h
      · have : k = m := by omega
        subst this; rw [hroot] at hgk; omega
    have hpos : 1 ≤ nsum (fun k => ts es es.length k * ((uses es).getD k 0 - 1)) m := by
      refine nsum_pos m (fun j hj => ?_) ⟨k, hkm, ?_⟩
      · have a := hts j hj; have b := hge j hj
        exact Int.mul_nonneg (by omega) (by omega)
      · rw [hgk]
        have a := hts k hkm
        have : 1 * 1 ≤ ts es es.length k * ((uses es)[k] - 1) := Int.mul_le_mul a (by omega) (by omega) (by omega)
        omega
    rw [hmain] at hpos; omega

/-- An expression that is a tree in the order of the walk of its root. -/
def sameN (x y : Nd) : Bool := x.op.toList == y.op.toList && x.a == y.a && x.b == y.b && x.v == y.v
def sameL (xs ys : List Nd) : Bool := decide (xs.length = ys.length) && (List.range xs.length).all fun k => sameN (xs.getD k zeroNd) (ys.getD k zeroNd)
def walked (es : List Nd) : Bool := expandOk es && sameL (expandL es) es
theorem walked_tree {es : List Nd} (hg : good es = true) : walked es = (tree es && sameL (expandL es) es) := by
  obtain ⟨h1, h2⟩ := tree_size hg
  obtain ⟨hl1, hl24, hok⟩ := good_len hg
  unfold walked expandOk
  cases ht : tree es
  · have := h2 ht
    have : sameL (expandL es) es = false := by unfold sameL; rw [decide_eq_false (by omega)]; rfl
    rw [this]; simp
  · rw [h1 ht, hg, decide_eq_true hl24]; rfl
theorem walked_good {es : List Nd} (h : walked es = true) : good es = true := by
  unfold walked expandOk at h; simp only [Bool.and_eq_true] at h; exact h.1.1
end Go.Proofs.Ythjfedidpjfboaa
