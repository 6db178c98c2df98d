import Derived.Test.YthjfedidpjfboaaXF
/- ExpandExpr: what it answers. No program. -/
namespace Go.Proofs.Ythjfedidpjfboaa
open Go.RowKit
set_option linter.unusedVariables false

/-- The program's walk, as a change of the builder's state. -/
def ew (es : List Nd) : Nat → Nat → List Nd × Bool → (List Nd × Bool) × Int
  | 0, _, s => (s, 0)
  | F + 1, i, s => if s.2 = true then (s, 0) else bp (woN (ew es F) (es.getD i zeroNd) s).1 (woN (ew es F) (es.getD i zeroNd) s).2
/-- The model's walk. -/
def woM (T : Nat → List Nd → List Nd × Int) (n : Nd) (xs : List Nd) : List Nd × Nd :=
  if ar n.op = 1 then ((T n.a.toNat xs).1, ⟨n.op, (T n.a.toNat xs).2, 0, n.v⟩)
  else if ar n.op = 2 then ((T n.b.toNat (T n.a.toNat xs).1).1, ⟨n.op, (T n.a.toNat xs).2, (T n.b.toNat (T n.a.toNat xs).1).2, n.v⟩)
  else (xs, ⟨n.op, 0, 0, n.v⟩)
def mw (es : List Nd) : Nat → Nat → List Nd → List Nd × Int
  | 0, _, xs => (xs, 0)
  | F + 1, i, xs => if 24 < xs.length then (xs, 0) else ((woM (mw es F) (es.getD i zeroNd) xs).1 ++ [(woM (mw es F) (es.getD i zeroNd) xs).2], ((woM (mw es F) (es.getD i zeroNd) xs).1.length : Int))
/-- The tree itself, from the index o on. -/
def tr (es : List Nd) : Nat → Nat → Nat → List Nd
  | 0, _, _ => []
  | F + 1, o, i =>
    let n := es.getD i zeroNd
    if ar n.op = 1 then
      let la := tr es F o n.a.toNat
      la ++ [⟨n.op, ((o + la.length : Nat) : Int) - 1, 0, n.v⟩]
    else if ar n.op = 2 then
      let la := tr es F o n.a.toNat
      let lb := tr es F (o + la.length) n.b.toNat
      la ++ lb ++ [⟨n.op, ((o + la.length : Nat) : Int) - 1, ((o + la.length + lb.length : Nat) : Int) - 1, n.v⟩]
    else [⟨n.op, 0, 0, n.v⟩]
theorem tr_pos (es : List Nd) (F o i : Nat) : 1 ≤ (tr es (F + 1) o i).length := by
  rw [tr]; simp only []
  split
  · simp
  · split <;> (simp; try omega)

theorem getD_nd {es : List Nd} {i : Nat} (h : i < es.length) : es.getD i zeroNd = es[i] := by rw [List.getD_eq_getElem?_getD, List.getElem?_eq_getElem h]; rfl

theorem ew_failed (es : List Nd) (F i : Nat) (xs : List Nd) : ew es F i (xs, true) = ((xs, true), 0) := by
  cases F with
  | zero => rfl
  | succ F => unfold ew; rw [if_pos rfl]
theorem bp_failed (xs : List Nd) (y : Nd) : bp (xs, true) y = ((xs, true), 0) := by unfold bp; split <;> simp_all
theorem bp_room {xs : List Nd} (y : Nd) (h : xs.length < 24) : bp (xs, false) y = ((xs ++ [y], false), (xs.length : Int)) := by
  unfold bp; rw [if_neg (by simpa using h), if_neg (by simp)]
theorem bp_full {xs : List Nd} (fl : Bool) (y : Nd) (h : 24 ≤ xs.length) : bp (xs, fl) y = ((xs, true), 0) := by
  unfold bp; rw [if_pos (by simpa using h)]

/-- What both walks come to. -/
def Fit (x : Nat) (R : (List Nd × Bool) × Int) (xs l : List Nd) : Prop :=
  (xs.length + l.length ≤ 24 → R = ((xs ++ l, false), ((xs.length + l.length : Nat) : Int) - 1)) ∧ (24 < xs.length + l.length → ∃ zs r, R = ((zs, true), r))

theorem ew_tr {es : List Nd} (hok : okFrom es 0 = true) : ∀ (F i : Nat) (xs : List Nd), i < F → i < es.length → xs.length ≤ 24 → Fit 0 (ew es F i (xs, false)) xs (tr es F xs.length i) := by
  intro F
  induction F with
  | zero => intro i xs h; omega
  | succ F ih =>
    intro i xs hi hie hx
    have hnd := ok_get hok hie
    have e := getD_nd hie
    have hE : ew es (F + 1) i (xs, false) = bp (woN (ew es F) es[i] (xs, false)).1 (woN (ew es F) es[i] (xs, false)).2 := by rw [ew, if_neg (by simp), e]
    rw [hE]
    unfold tr; simp only []; rw [e]
    clear hE e
    generalize es[i] = n at *
    rcases ar_cases_nd hnd with ⟨h1, -, -, -, -⟩ | ⟨h1, -, -, ha, ha', -⟩ | ⟨h1, -, -, ha, ha', hb, hb'⟩
    · rw [if_neg (by omega), if_neg (by omega)]
      unfold woN; rw [if_neg (by omega), if_neg (by omega)]
      refine ⟨fun h => ?_, fun h => ?_⟩
      · simp only [List.length_cons, List.length_nil] at h ⊢
        rw [bp_room _ (by omega)]; simp
      · simp only [List.length_cons, List.length_nil] at h
        rw [bp_full _ _ (by omega)]; exact ⟨_, _, rfl⟩
    · rw [if_pos h1]
      unfold woN; rw [if_pos h1]
      obtain ⟨i1, i2⟩ := ih n.a.toNat xs (by omega) (by omega) hx
      generalize tr es F xs.length n.a.toNat = la at *
      refine ⟨fun h => ?_, fun h => ?_⟩
      · simp only [List.length_append, List.length_cons, List.length_nil] at h ⊢
        rw [i1 (by omega)]
        simp only
        rw [bp_room _ (by simp; omega)]; simp; omega
      · simp only [List.length_append, List.length_cons, List.length_nil] at h
        by_cases h9 : xs.length + la.length ≤ 24
        · rw [i1 h9]; rw [bp_full _ _ (by simp; omega)]; exact ⟨_, _, rfl⟩
        · obtain ⟨zs, r, h8⟩ := i2 (by omega)
          rw [h8, bp_failed]; exact ⟨_, _, rfl⟩
    · rw [if_neg (by omega), if_pos h1]
      unfold woN; rw [if_neg (by omega), if_pos h1]
      obtain ⟨i1, i2⟩ := ih n.a.toNat xs (by omega) (by omega) hx
      generalize tr es F xs.length n.a.toNat = la at *
      by_cases h9 : xs.length + la.length ≤ 24
      · obtain ⟨j1, j2⟩ := ih n.b.toNat (xs ++ la) (by omega) (by omega) (by simpa using h9)
        rw [List.length_append] at j1 j2
        generalize tr es F (xs.length + la.length) n.b.toNat = lb at *
        rw [i1 h9]
        refine ⟨fun h => ?_, fun h => ?_⟩
        · simp only [List.length_append, List.length_cons, List.length_nil] at h ⊢
          try simp only
          rw [j1 (by omega)]
          rw [bp_room _ (by simp; omega)]; simp; omega
        · simp only [List.length_append, List.length_cons, List.length_nil] at h
          try simp only
          by_cases h7 : xs.length + la.length + lb.length ≤ 24
          · rw [j1 h7]; rw [bp_full _ _ (by simp; omega)]; exact ⟨_, _, rfl⟩
          · obtain ⟨zs, r, h8⟩ := j2 (by omega)
            rw [h8, bp_failed]; exact ⟨_, _, rfl⟩
      · obtain ⟨zs, r, h8⟩ := i2 (by omega)
        refine ⟨fun h => ?_, fun h => ?_⟩
        · simp only [List.length_append, List.length_cons, List.length_nil] at h; omega
        · rw [h8]; simp only; rw [ew_failed, bp_failed]; exact ⟨_, _, rfl⟩

theorem mw_big (es : List Nd) (F i : Nat) (xs : List Nd) (h : 24 < xs.length) : mw es F i xs = (xs, 0) := by
  cases F with
  | zero => rfl
  | succ F => unfold mw; rw [if_pos h]
theorem mw_len {es : List Nd} : ∀ (F i : Nat) (xs : List Nd), xs.length ≤ 24 → (mw es F i xs).1.length ≤ 24 + F ∧ xs.length ≤ (mw es F i xs).1.length := by
  intro F
  induction F with
  | zero => intro i xs hx; exact ⟨by simpa [mw] using hx, by simp [mw]⟩
  | succ F ih =>
    intro i xs hx
    rw [mw, if_neg (by omega)]
    generalize es.getD i zeroNd = n
    have ha := ih n.a.toNat xs hx
    unfold woM
    split
    · simp only [List.length_append, List.length_cons, List.length_nil]; omega
    · split
      · by_cases h : (mw es F n.a.toNat xs).1.length ≤ 24
        · have hb := ih n.b.toNat _ h
          simp only [List.length_append, List.length_cons, List.length_nil]; omega
        · rw [mw_big es F n.b.toNat _ (by omega)]
          simp only [List.length_append, List.length_cons, List.length_nil]; omega
      · simp only [List.length_append, List.length_cons, List.length_nil]; omega
theorem mw_tr {es : List Nd} (hok : okFrom es 0 = true) : ∀ (F i : Nat) (xs : List Nd), i < F → i < es.length → xs.length ≤ 24 →
    (xs.length + (tr es F xs.length i).length ≤ 24 → mw es F i xs = (xs ++ tr es F xs.length i, ((xs.length + (tr es F xs.length i).length : Nat) : Int) - 1)) ∧ (24 < xs.length + (tr es F xs.length i).length → 24 < (mw es F i xs).1.length) := by
  intro F
  induction F with
  | zero => intro i xs h; omega
  | succ F ih =>
    intro i xs hi hie hx
    have hnd := ok_get hok hie
    have e := getD_nd hie
    have hE : mw es (F + 1) i xs = ((woM (mw es F) es[i] xs).1 ++ [(woM (mw es F) es[i] xs).2], ((woM (mw es F) es[i] xs).1.length : Int)) := by rw [mw, if_neg (by omega), e]
    rw [hE]
    unfold tr; simp only []; rw [e]
    clear hE e
    generalize es[i] = n at *
    rcases ar_cases_nd hnd with ⟨h1, -, -, -, -⟩ | ⟨h1, -, -, ha, ha', -⟩ | ⟨h1, -, -, ha, ha', hb, hb'⟩
    · rw [if_neg (by omega), if_neg (by omega)]
      unfold woM; rw [if_neg (by omega), if_neg (by omega)]
      refine ⟨fun h => ?_, fun h => ?_⟩
      · simp
      · simp only [List.length_append, List.length_cons, List.length_nil] at h ⊢; omega
    · rw [if_pos h1]
      unfold woM; rw [if_pos h1]
      obtain ⟨i1, i2⟩ := ih n.a.toNat xs (by omega) (by omega) hx
      have hle := (mw_len F n.a.toNat xs hx (es := es)).2
      generalize tr es F xs.length n.a.toNat = la at *
      refine ⟨fun h => ?_, fun h => ?_⟩
      · simp only [List.length_append, List.length_cons, List.length_nil] at h ⊢
        rw [i1 (by omega)]
        simp; omega
      · simp only [List.length_append, List.length_cons, List.length_nil] at h ⊢
        by_cases h9 : xs.length + la.length ≤ 24
        · rw [i1 h9]; simp only [List.length_append]; omega
        · have := i2 (by omega); omega
    · rw [if_neg (by omega), if_pos h1]
      unfold woM; rw [if_neg (by omega), if_pos h1]
      obtain ⟨i1, i2⟩ := ih n.a.toNat xs (by omega) (by omega) hx
      have hle := (mw_len F n.a.toNat xs hx (es := es)).2
      generalize tr es F xs.length n.a.toNat = la at *
      by_cases h9 : xs.length + la.length ≤ 24
      · obtain ⟨j1, j2⟩ := ih n.b.toNat (xs ++ la) (by omega) (by omega) (by simpa using h9)
        rw [List.length_append] at j1 j2
        generalize tr es F (xs.length + la.length) n.b.toNat = lb at *
        rw [i1 h9]
        refine ⟨fun h => ?_, fun h => ?_⟩
        · simp only [List.length_append, List.length_cons, List.length_nil] at h ⊢
          try simp only
          rw [j1 (by omega)]
          simp; omega
        · simp only [List.length_append, List.length_cons, List.length_nil] at h ⊢
          by_cases h7 : xs.length + la.length + lb.length ≤ 24
          · rw [j1 h7]; simp only [List.length_append]; omega
          · have := j2 (by omega); omega
      · have h8 := i2 (by omega)
        refine ⟨fun h => ?_, fun h => ?_⟩
        · simp only [List.length_append, List.length_cons, List.length_nil] at h; omega
        · simp only [List.length_append, List.length_cons, List.length_nil]
          rw [mw_big es F n.b.toNat _ h8]; dsimp only; omega

def expandL (es : List Nd) : List Nd := tr es es.length 0 (es.length - 1)
def expandOk (es : List Nd) : Bool := good es && decide ((expandL es).length ≤ 24)
def expandR (es : List Nd) : List Nd := if expandOk es = true then expandL es else []
theorem expandR_len (es : List Nd) : (expandR es).length ≤ 1048576 := by
  unfold expandR; split
  · rename_i h; simp only [expandOk, Bool.and_eq_true, decide_eq_true_eq] at h; omega
  · simp
theorem expand_ew {es : List Nd} (hg : good es = true) : (expandOk es = true ∧ ∃ r, ew es es.length (es.length - 1) ([], false) = ((expandR es, false), r)) ∨ (expandOk es = false ∧ expandR es = [] ∧ ∃ zs r, ew es es.length (es.length - 1) ([], false) = ((zs, true), r)) := by
  obtain ⟨hl1, hl24, hok⟩ := good_len hg
  obtain ⟨h1, h2⟩ := ew_tr hok es.length (es.length - 1) [] (by omega) (by omega) (by simp)
  simp only [List.length_nil, Nat.zero_add, List.nil_append] at h1 h2
  by_cases h : (expandL es).length ≤ 24
  · have hk : expandOk es = true := by simp [expandOk, hg, h]
    left; refine ⟨hk, ?_⟩
    rw [h1 h, expandR, if_pos hk]; exact ⟨_, rfl⟩
  · have hk : expandOk es = false := by simp [expandOk, h]
    right; refine ⟨hk, by simp [expandR, hk], ?_⟩
    exact h2 (by unfold expandL at h; omega)
theorem expand_mw {es : List Nd} (hg : good es = true) : (expandOk es = true ∧ (mw es es.length (es.length - 1) []).1 = expandR es ∧ (expandR es).length ≤ 24) ∨ (expandOk es = false ∧ expandR es = [] ∧ 24 < (mw es es.length (es.length - 1) []).1.length) := by
  obtain ⟨hl1, hl24, hok⟩ := good_len hg
  obtain ⟨h1, h2⟩ := mw_tr hok es.length (es.length - 1) [] (by omega) (by omega) (by simp)
  simp only [List.length_nil, Nat.zero_add, List.nil_append] at h1 h2
  by_cases h : (expandL es).length ≤ 24
  · have hk : expandOk es = true := by simp [expandOk, hg, h]
    left; refine ⟨hk, ?_⟩
    rw [h1 h, expandR, if_pos hk]; exact ⟨rfl, h⟩
  · have hk : expandOk es = false := by simp [expandOk, h]
    right; refine ⟨hk, by simp [expandR, hk], ?_⟩
    exact h2 (by unfold expandL at h; omega)
end Go.Proofs.Ythjfedidpjfboaa
