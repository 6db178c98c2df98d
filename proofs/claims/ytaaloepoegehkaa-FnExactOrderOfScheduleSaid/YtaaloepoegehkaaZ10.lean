/- Texts of this proof, one behind the other: HC, HD, HE, BR, LawN9D, N9F. -/
import Derived.Test.YtaaloepoegehkaaZ11
import Derived.Test.YtaaloepoegehkaaV2
import Derived.Test.YtaaloepoegehkaaV3
import Derived.WalkKit
import Derived.Lib.Hide
import Derived.Test.YtaaloepoegehkaaVC
import Derived.Test.YtaaloepoegehkaaKMInstr
import Derived.Test.YtaaloepoegehkaaKInstr
import Derived.Test.YtaaloepoegehkaaLI
import Derived.WalkSpells
import Derived.WalkLawsBesides
import Derived.RangeFuncBox
import Derived.OwnWalk
import Derived.Deep.RegionLaw
import Derived.Deep.RegionHeld3
import Derived.Deep.AppendLies
/- Slices of slices of ints: what the marks read. -/
namespace Go.Proofs.Ytaaloepoegehkaa
open Go.RowKit
set_option linter.unusedVariables false

def marksSS : Int → List Nat → List (List Int)
  | _, [] => []
  | k0, n :: ns => marks k0 n :: marksSS (k0 + n) ns
theorem marksSS_len : ∀ (k0 : Int) (ns : List Nat), (marksSS k0 ns).length = ns.length
  | _, [] => rfl
  | k0, n :: ns => by simp [marksSS, marksSS_len]
theorem marksSS_get : ∀ (k0 : Int) (ns : List Nat) (i : Nat) (h : i < (marksSS k0 ns).length) (h' : i < ns.length), (marksSS k0 ns)[i] = marks (k0 + ((ns.take i).sum : Nat)) ns[i]
  | _, [], i, h, h' => by simp at h'
  | k0, n :: ns, 0, h, h' => by simp [marksSS]
  | k0, n :: ns, i + 1, h, h' => by
    have := marksSS_get (k0 + n) ns i (by rw [marksSS_len]; simpa using h') (by simpa using h')
    simp only [marksSS, List.getElem_cons_succ, List.take_succ_cons, List.sum_cons]
    rw [this]; congr 1; omega
theorem sum_take_le : ∀ (ns : List Nat) (i : Nat), (ns.take i).sum ≤ ns.sum
  | [], i => by simp
  | n :: ns, 0 => by simp
  | n :: ns, i + 1 => by simp only [List.take_succ_cons, List.sum_cons]; have := sum_take_le ns i; omega
theorem sum_take_succ (ns : List Nat) {i : Nat} (h : i < ns.length) : (ns.take (i + 1)).sum = (ns.take i).sum + ns[i] := by
  rw [List.take_succ_eq_append_getElem h, List.sum_append]; simp
theorem marks_len (k0 : Int) (n : Nat) : (marks k0 n).length = n := by simp [marks]

end Go.Proofs.Ytaaloepoegehkaa

/- Slices of slices of ints of the call's own: marked. -/
namespace Go.Proofs.Ytaaloepoegehkaa
open Go.RowKit
set_option linter.unusedVariables false

/-- A slice of slices of ints of the call's own: no two of its rows share a block, none lies in the outer slice's. -/
def OX (w : World) (lo hi : Nat) (v : Value) (xss : List (List Int)) : Prop :=
  ∃ vs : List Value, vs.length = xss.length ∧ OK encV 1 34 w lo hi v vs ∧ (∀ i (h : i < vs.length) (h' : i < xss.length), (∃ Ai ci, vs[i] = .slice Ai (xss[i]).length ci) ∧ OW w lo hi vs[i] xss[i]) ∧
    (∀ i j (h : i < vs.length) (h' : j < vs.length), i ≠ j → ∀ b, vs[i].ownBlock = some b → vs[j].ownBlock ≠ some b) ∧ (∀ b, v.ownBlock = some b → ∀ i (h : i < vs.length), vs[i].ownBlock ≠ some b)
theorem okv_rs {w : World} {lo hi n c : Nat} {A : Option Addr} {vs : List Value} (h : OK encV 1 34 w lo hi (.slice A n c) vs) : RS encV 1 w lo hi A vs := by
  obtain ⟨A', c', e, hr⟩ := OK.form (enc := encV) (k := 1) (fun _ => rfl) h
  injection e with e1 e2 e3
  subst e1
  exact hr
theorem OX.rs {w : World} {lo hi n c : Nat} {A : Option Addr} {xss : List (List Int)} (h : OX w lo hi (.slice A n c) xss) : XS w lo hi A xss := by
  obtain ⟨vs, hl, hr, hx, _⟩ := h
  refine ⟨vs, hl, okv_rs hr, fun i h h' => ?_⟩
  obtain ⟨⟨Ai, ci, e⟩, ho⟩ := hx i h h'
  rw [e] at ho
  exact ⟨Ai, ci, e, ho.rs⟩
theorem OW.turned {w w' : World} {lo hi : Nat} {v u : Value} {xs : List Int} (h : OW w lo hi v xs) (hg : w.grownBy w' u.ownBlock) (hne : ∀ b, u.ownBlock = some b → v.ownBlock ≠ some b) : OW w' lo hi v xs :=
  ⟨h.1.kept hg (by
    cases hv : v.ownBlock with
    | none => exact .inl rfl
    | some b => exact .inr (fun e => hne b e.symm (by rw [hv]))), h.2⟩
def markedX (xss : List (List Int)) (k0 : Int) (k i : Nat) : List Int := if i < k then marks (k0 + (((xss.map List.length).take i).sum : Nat)) (xss.getD i []).length else xss.getD i []
theorem markedX_other {xss : List (List Int)} {k0 : Int} {k i : Nat} (h : i ≠ k) : markedX xss k0 (k + 1) i = markedX xss k0 k i := by
  unfold markedX
  by_cases h1 : i < k
  · rw [if_pos (by omega), if_pos h1]
  · rw [if_neg (by omega), if_neg h1]
theorem markedX_at {xss : List (List Int)} {k0 : Int} {k : Nat} : markedX xss k0 (k + 1) k = marks (k0 + (((xss.map List.length).take k).sum : Nat)) (xss.getD k []).length := by unfold markedX; rw [if_pos (by omega)]
theorem markedX_self {xss : List (List Int)} {k0 : Int} {k : Nat} : markedX xss k0 k k = xss.getD k [] := by unfold markedX; rw [if_neg (by omega)]
theorem markedX_len {xss : List (List Int)} {k0 : Int} {k i : Nat} : (markedX xss k0 k i).length = (xss.getD i []).length := by unfold markedX; split <;> simp [marks]
theorem okv_kept {w w' : World} {lo hi : Nat} {v u : Value} {vs : List Value} (h : OK encV 1 34 w lo hi v vs) (hg : w.grownBy w' u.ownBlock) (hne : ∀ b, v.ownBlock = some b → u.ownBlock ≠ some b) : OK encV 1 34 w' lo hi v vs :=
  ⟨h.1.kept hg (by
    cases hv : v.ownBlock with
    | none => exact .inl rfl
    | some b => exact .inr (fun e => hne b hv e.symm)), h.2⟩
def MarkedX (w : World) (lo hi : Nat) (v : Value) (xss : List (List Int)) (k0 : Int) (e : Ending) (w' : World) : Prop :=
  e = .returned (.int .i64 (k0 + ((xss.map List.length).sum : Nat))) ∧ OX w' lo hi v (marksSS k0 (xss.map List.length)) ∧ Chg lo hi w w'

end Go.Proofs.Ytaaloepoegehkaa

/- Slices of slices of ints, in the form that glawu.py's calls take. -/
namespace Go.Proofs.Ytaaloepoegehkaa
open Go.RowKit
set_option linter.unusedVariables false

def SmallX (xss : List (List Int)) : Prop := xss.length ≤ 1048576 ∧ (xss.map List.length).sum ≤ 1048576
theorem le_sum_of_mem {n : Nat} : ∀ {ns : List Nat}, n ∈ ns → n ≤ ns.sum
  | m :: ns, h => by
    rw [List.sum_cons]
    rcases List.mem_cons.1 h with rfl | h
    · omega
    · have := le_sum_of_mem h; omega
theorem SmallX.rows {xss : List (List Int)} (h : SmallX xss) : ∀ xs ∈ xss, xs.length ≤ 1048576 := fun xs hx => Nat.le_trans (le_sum_of_mem (List.mem_map.2 ⟨xs, hx, rfl⟩)) h.2
theorem OX.chg {w w' : World} {L B lo hi : Nat} {v : Value} {xss : List (List Int)} (h : OX w L B v xss) (hc : Chg lo hi w w') (hd : B ≤ lo ∨ hi ≤ L) : OX w' L B v xss := by
  obtain ⟨vs, hl, hr, hx, hD, hA⟩ := h
  exact ⟨vs, hl, hr.chg hc hd, fun i h h' => ⟨(hx i h h').1, (hx i h h').2.chg hc hd⟩, hD, hA⟩
theorem OX.more {w : World} {L B B' : Nat} {v : Value} {xss : List (List Int)} (h : OX w L B v xss) (hB : B ≤ B') : OX w L B' v xss := by
  obtain ⟨vs, hl, hr, hx, hD, hA⟩ := h
  exact ⟨vs, hl, hr.more hB, fun i h h' => ⟨(hx i h h').1, (hx i h h').2.more hB⟩, hD, hA⟩
theorem OX.nil (w : World) (L B : Nat) : OX w L B (.slice none 0 0) [] := ⟨[], rfl, OK.nil _ _ _ _, fun i h => absurd h (by simp), fun i j h => absurd h (by simp), fun _ _ i h => absurd h (by simp)⟩
theorem eqIntSS_k (L B L' B' : Nat) (A A' : Option Addr) (m m' c c' : Nat) (xss xss' : List (List Int)) (w : World) (hm : m = xss.length) (hm' : m' = xss'.length) (hl : SmallX xss) (hx : XS w L B A xss) (hx' : XS w L' B' A' xss') (hB : B ≤ w.heap.size) (hB' : B' ≤ w.heap.size) (heq : xss = xss') :
    Calls Try.prog 24 #[.slice A m c, .slice A' m' c'] w fun e w' => e = .returned (.bool true) ∧ Below w.heap.size w w' := by
  subst heq; subst hm; obtain rfl := hm'
  exact eqIntSS_any L B L' B' A A' c c' xss w hl.1 hl.rows hx hx' hB hB'
theorem marksSS_lens : ∀ (k0 : Int) (ns : List Nat), (marksSS k0 ns).map List.length = ns
  | _, [] => rfl
  | k0, n :: ns => by simp [marksSS, marksSS_lens, marks_len]
end Go.Proofs.Ytaaloepoegehkaa

/- Slices of slices of ints of the call's own: made, laid ahead, laid behind, stored into. -/
namespace Go.Proofs.Ytaaloepoegehkaa
open Go.RowKit
set_option linter.unusedVariables false

theorem Try.infoII : (Try.prog.info? 34).map (fun i => (i.zero, i.size, i.bytes)) = some (some (.slice none 0 0), 1, 24) := by kernel_rfl
theorem rowNeX {w : World} {L1 L2 k1 k2 n1 n2 : Nat} {t1 t2 : TypeId} {v1 v2 : Value} {x1 x2 : List Value} (h1 : w.ownsRow L1 t1 k1 v1 n1 x1) (h2 : w.ownsRow L2 t2 k2 v2 n2 x2) (ht : t1 ≠ t2) : ∀ j, v1.ownBlock = some j → v2.ownBlock ≠ some j := by
  intro j e1 e2
  rcases h1.2 with ⟨rfl, _⟩ | ⟨g, cap, cur, rfl, _, hh, _⟩
  · simp [Value.ownBlock] at e1
  · rcases h2.2 with ⟨rfl, _⟩ | ⟨g', cap', cur', rfl, _, hh', _⟩
    · simp [Value.ownBlock] at e2
    · have a1 : g = j := by simpa [Value.ownBlock] using e1
      have a2 : g' = j := by simpa [Value.ownBlock] using e2
      subst a1; subst a2
      rw [hh] at hh'; injection hh' with hh'; injection hh' with _ h9
      exact ht h9
/-- The rows: each of the call's own, no two in one block. -/
structure RowsX (w : World) (lo hi : Nat) (vs : List Value) (xss : List (List Int)) : Prop where
  len : vs.length = xss.length
  row : ∀ i (h : i < vs.length) (h' : i < xss.length), (∃ Ai ci, vs[i] = .slice Ai (xss[i]).length ci) ∧ OW w lo hi vs[i] xss[i]
  apart : ∀ i j (h : i < vs.length) (h' : j < vs.length), i ≠ j → ∀ b, vs[i].ownBlock = some b → vs[j].ownBlock ≠ some b
theorem OX.of {w : World} {lo hi : Nat} {v : Value} {vs : List Value} {xss : List (List Int)} (hO : OK encV 1 34 w lo hi v vs) (h : RowsX w lo hi vs xss) : OX w lo hi v xss :=
  ⟨vs, h.len, hO, h.row, h.apart, fun b hb i hi' => rowNeX hO.1 (h.row i hi' (by rw [← h.len]; exact hi')).2.1 (by decide) b hb⟩
theorem OX.parts {w : World} {lo hi : Nat} {v : Value} {xss : List (List Int)} (h : OX w lo hi v xss) : ∃ vs, OK encV 1 34 w lo hi v vs ∧ RowsX w lo hi vs xss := by
  obtain ⟨vs, hl, hO, hr, hd, _⟩ := h
  exact ⟨vs, hO, hl, hr, hd⟩
theorem RowsX.mk1 {w : World} {lo hi : Nat} {v0 : Value} {xs : List Int} (h : OW w lo hi v0 xs) : RowsX w lo hi [v0] [xs] := by
  refine ⟨rfl, fun i h1 h2 => ?_, fun i j h1 h2 hne => ?_⟩
  · obtain rfl : i = 0 := by simpa using h1
    obtain ⟨A, c, e, _⟩ := h.form
    exact ⟨⟨A, c, e⟩, h⟩
  · simp at h1 h2; omega
theorem OW.fresh {w : World} {lo hi b : Nat} {v : Value} {xs : List Int} (h : OW w lo hi v xs) (e : v.ownBlock = some b) : lo ≤ b ∧ b < hi := h.lo b e
theorem RowsX.cons {w : World} {lo hi hi0 : Nat} {v0 : Value} {xs : List Int} {vs : List Value} {xss : List (List Int)} (h : RowsX w lo hi vs xss) (h0 : OW w hi hi0 v0 xs) (hle : hi ≤ hi0) (hlo : lo ≤ hi) : RowsX w lo hi0 (v0 :: vs) (xs :: xss) := by
  refine ⟨by simp [h.len], fun i h1 h2 => ?_, fun i j h1 h2 hne b hb => ?_⟩
  · cases i with
    | zero =>
      obtain ⟨A, c, e, _⟩ := h0.form
      exact ⟨⟨A, c, e⟩, h0.lower hlo⟩
    | succ i =>
      have hr := h.row i (by simpa using h1) (by simpa using h2)
      exact ⟨hr.1, hr.2.more hle⟩
  · cases i with
    | zero =>
      cases j with
      | zero => omega
      | succ j =>
        intro e
        have h3 : j < vs.length := by simpa using h2
        have := (h.row j h3 (by rw [← h.len]; exact h3)).2.fresh (by simpa using e)
        have := h0.fresh (by simpa using hb)
        omega
    | succ i =>
      have h3 : i < vs.length := by simpa using h1
      cases j with
      | zero =>
        intro e
        have := (h.row i h3 (by rw [← h.len]; exact h3)).2.fresh (by simpa using hb)
        have := h0.fresh (by simpa using e)
        omega
      | succ j => exact h.apart i j h3 (by simpa using h2) (by omega) b (by simpa using hb)
theorem RowsX.set {w : World} {lo hi hi0 : Nat} {v0 : Value} {xs : List Int} {vs : List Value} {xss : List (List Int)} (h : RowsX w lo hi vs xss) (k : Nat) (h0 : OW w hi hi0 v0 xs) (hle : hi ≤ hi0) (hlo : lo ≤ hi) : RowsX w lo hi0 (vs.set k v0) (xss.set k xs) := by
  refine ⟨by simp [h.len], fun i h1 h2 => ?_, fun i j h1 h2 hne b hb => ?_⟩
  · rw [List.length_set] at h1 h2
    rw [List.getElem_set, List.getElem_set]
    by_cases e : k = i
    · rw [if_pos e, if_pos e]
      obtain ⟨A, c, e2, _⟩ := h0.form
      exact ⟨⟨A, c, e2⟩, h0.lower hlo⟩
    · rw [if_neg e, if_neg e]
      have hr := h.row i h1 h2
      exact ⟨hr.1, hr.2.more hle⟩
  · rw [List.length_set] at h1 h2
    rw [List.getElem_set] at hb ⊢
    by_cases e1 : k = i
    · rw [if_pos e1] at hb
      rw [if_neg (by omega)]
      intro e
      have := (h.row j h2 (by rw [← h.len]; exact h2)).2.fresh e
      have := h0.fresh hb
      omega
    · rw [if_neg e1] at hb
      by_cases e2 : k = j
      · rw [if_pos e2]
        intro e
        have := (h.row i h1 (by rw [← h.len]; exact h1)).2.fresh hb
        have := h0.fresh e
        omega
      · rw [if_neg e2]; exact h.apart i j h1 h2 hne b hb
theorem RowsX.snoc {w : World} {lo hi hi0 : Nat} {v0 : Value} {xs : List Int} {vs : List Value} {xss : List (List Int)} (h : RowsX w lo hi vs xss) (h0 : OW w hi hi0 v0 xs) (hle : hi ≤ hi0) (hlo : lo ≤ hi) : RowsX w lo hi0 (vs ++ [v0]) (xss ++ [xs]) := by
  have hl := h.len
  refine ⟨by simp [h.len], fun i h1 h2 => ?_, fun i j h1 h2 hne b hb => ?_⟩
  · by_cases e : i < vs.length
    · rw [List.getElem_append_left e, List.getElem_append_left (by omega)]
      have hr := h.row i e (by omega)
      exact ⟨hr.1, hr.2.more hle⟩
    · have e2 : i = vs.length := by simp at h1; omega
      subst e2
      rw [List.getElem_append_right (Nat.le_refl _), List.getElem_append_right (by omega)]
      obtain ⟨A, c, e2, _⟩ := h0.form
      simp only [hl, Nat.sub_self, List.getElem_cons_zero]
      exact ⟨⟨A, c, e2⟩, h0.lower hlo⟩
  · by_cases e1 : i < vs.length
    · rw [List.getElem_append_left e1] at hb
      by_cases e2 : j < vs.length
      · rw [List.getElem_append_left e2]; exact h.apart i j e1 e2 hne b hb
      · have e3 : j = vs.length := by simp at h2; omega
        subst e3
        rw [List.getElem_append_right (Nat.le_refl _)]
        simp only [Nat.sub_self, List.getElem_cons_zero]
        intro e
        have := (h.row i e1 (by omega)).2.fresh hb
        have := h0.fresh e
        omega
    · have e3 : i = vs.length := by simp at h1; omega
      subst e3
      rw [List.getElem_append_right (Nat.le_refl _)] at hb
      simp only [Nat.sub_self, List.getElem_cons_zero] at hb
      have e2 : j < vs.length := by simp at h2; omega
      rw [List.getElem_append_left e2]
      intro e
      have := (h.row j e2 (by omega)).2.fresh e
      have := h0.fresh hb
      omega
theorem RowsX.more {w : World} {lo hi hi' : Nat} {vs : List Value} {xss : List (List Int)} (h : RowsX w lo hi vs xss) (hh : hi ≤ hi') : RowsX w lo hi' vs xss :=
  ⟨h.len, fun i h1 h2 => ⟨(h.row i h1 h2).1, (h.row i h1 h2).2.more hh⟩, h.apart⟩
theorem RowsX.chg {w w' : World} {L B lo hi : Nat} {vs : List Value} {xss : List (List Int)} (h : RowsX w L B vs xss) (hc : Chg lo hi w w') (hd : B ≤ lo ∨ hi ≤ L) : RowsX w' L B vs xss :=
  ⟨h.len, fun i h1 h2 => ⟨(h.row i h1 h2).1, (h.row i h1 h2).2.chg hc hd⟩, h.apart⟩
/-- A slice of another type grows. -/
theorem RowsX.grown {w w' : World} {lo hi L n : Nat} {u : Value} {xs : List Value} {vs : List Value} {xss : List (List Int)} (h : RowsX w lo hi vs xss) (hu : w.ownsRow L 34 1 u n xs) (hg : w.grownBy w' u.ownBlock) : RowsX w' lo hi vs xss :=
  ⟨h.len, fun i h1 h2 => ⟨(h.row i h1 h2).1, (h.row i h1 h2).2.turned hg (fun b hb => rowNeX hu (h.row i h1 h2).2.1 (by decide) b hb)⟩, h.apart⟩
/-- A block of another type is stored into. -/
theorem RowsX.stored {w : World} {lo hi g k : Nat} {t : TypeId} {cur : List Value} {u : Value} {vs : List Value} {xss : List (List Int)} (h : RowsX w lo hi vs xss) (hb : CB t w g cur) (ht : t ≠ 3) : RowsX (w.setCell ⟨g, k, none⟩ u) lo hi vs xss :=
  ⟨h.len, fun i h1 h2 => ⟨(h.row i h1 h2).1, by
    have hO := (h.row i h1 h2).2
    refine ⟨hO.1.kept (row := some g) ⟨rfl, rfl, rfl, Nat.le_of_eq (World.size_setCell _ _ _).symm, fun k _ hk => Below.heap_setCell _ _ _ k (fun e => hk (by rw [e]))⟩ ?_, hO.2⟩
    rcases hV : vs[i].ownBlock with _ | j
    · exact .inl rfl
    · refine .inr (fun e => ?_)
      injection e with e; subst e
      rcases hO.1.2 with ⟨h0, _⟩ | ⟨g', cap, cur', h0, _, hh, _⟩
      · rw [h0] at hV; simp [Value.ownBlock] at hV
      · rw [h0] at hV
        have e1 : g' = j := by simpa [Value.ownBlock] using hV
        subst e1
        unfold CB at hb
        rw [hb] at hh; injection hh with hh; injection hh with _ h9
        exact ht h9⟩, h.apart⟩
theorem flat_encV (vs : List Value) : vs.flatMap encV = vs := by induction vs with | nil => rfl | cons v vs ih => rw [List.flatMap_cons, ih]; rfl
theorem encV_one (v : Value) : (encV v).length = 1 := rfl
theorem okv_of {w : World} {lo n : Nat} {v : Value} {vs : List Value} (h : w.ownsRow lo 34 1 v n vs) (hn : n = vs.length) : OK encV 1 34 w lo w.heap.size v vs := by
  subst hn; exact ⟨by rw [flat_encV]; exact h, fun j hj => (h.lt j hj).2⟩
theorem okv_row {w : World} {lo hi : Nat} {v : Value} {vs : List Value} (h : OK encV 1 34 w lo hi v vs) : w.ownsRow lo 34 1 v vs.length vs := by
  have := h.1; rwa [flat_encV] at this
theorem rows_one {w : World} {lo hi : Nat} {vs : List Value} {xss : List (List Int)} (h : RowsX w lo hi vs xss) : ∀ u ∈ vs, u.oneCell' = true := by
  intro u hu
  obtain ⟨i, hi', e⟩ := List.mem_iff_getElem.1 hu
  obtain ⟨⟨A, c, e2⟩, _⟩ := h.row i hi' (by rw [← h.len]; exact hi')
  rw [← e, e2]; rfl
/-- One slice in a block. -/
theorem okv_one {w : World} {lo hi g : Nat} {v0 : Value} (h : CB 34 w g [v0]) (hlo : lo ≤ g) (hhi : g < hi) : OK encV 1 34 w lo hi (.slice (some ⟨g, 0, none⟩) 1 1) [v0] :=
  OK.close (enc := encV) (k := 1) (rest := []) encV_one (by simpa [encV] using h) hlo hhi (Nat.le_refl _) (by unfold maxLen; omega) rfl
theorem OX.below {w w' : World} {L B C : Nat} {v : Value} {xss : List (List Int)} (h : OX w L B v xss) (hb : Below C w w') (hC : B ≤ C) : OX w' L B v xss := by
  obtain ⟨vs, hO, hR⟩ := h.parts
  exact OX.of (hO.below hb hC) ⟨hR.len, fun i h1 h2 => ⟨(hR.row i h1 h2).1, (hR.row i h1 h2).2.below hb hC⟩, hR.apart⟩
theorem OX.form {w : World} {L B : Nat} {v : Value} {xss : List (List Int)} (h : OX w L B v xss) : ∃ A c, v = .slice A xss.length c := by
  obtain ⟨vs, hO, hR⟩ := h.parts
  obtain ⟨A, c, e, _⟩ := OK.form (enc := encV) (k := 1) encV_one hO
  exact ⟨A, c, by rw [e, hR.len]⟩
/-- 'append([][]int{v0}, rows...)'. -/
theorem consX {wr w3 : World} {lo b o n c5 : Nat} {v3 : Value} {xs : List Int} {xss : List (List Int)} (hX : OX wr lo wr.heap.size (.slice (some ⟨b, o, none⟩) n c5) xss) (hlo : lo ≤ wr.heap.size) (hw : Below wr.heap.size wr w3) (h3 : OW w3 wr.heap.size w3.heap.size v3 xs) (h0 : 0 < xss.length) :
    ∃ vs, vs.length = n ∧ (w3.alloc (.cells #[v3] 34)).ownsRow lo 34 1 (.slice (some ⟨w3.heap.size, 0, none⟩) 1 1) 1 [v3] ∧
      (∀ j u, vs[j]? = some u → (w3.alloc (.cells #[v3] 34)).cell? ((⟨b, o, none⟩ : Addr).add j) = some u) ∧ (∀ u ∈ vs, u.oneCell' = true) ∧
      (∀ g' cap w5, w5.ownsRow lo 34 1 (.slice (some ⟨g', 0, none⟩) (1 + n) cap) (1 + n) ([v3] ++ vs) → (w3.alloc (.cells #[v3] 34)).grownBy w5 (Value.slice (some ⟨w3.heap.size, 0, none⟩) 1 1).ownBlock →
        OX w5 lo w5.heap.size (.slice (some ⟨g', 0, none⟩) (1 + n) cap) (xs :: xss)) := by
  obtain ⟨vs, hO, hR⟩ := hX.parts
  have hvn : vs.length = n := by
    obtain ⟨A, c, e, _⟩ := OK.form (enc := encV) (k := 1) encV_one hO
    injection e with _ e2 _; exact e2.symm
  have A4 := (Below.refl w3.heap.size w3).alloc (Nat.le_refl _) (.cells #[v3] 34)
  have hcb : CB 34 (w3.alloc (.cells #[v3] 34)) w3.heap.size [v3] := heap_alloc_new w3 _
  have hz3 := hw.size
  have hz4 : (w3.alloc (.cells #[v3] 34)).heap.size = w3.heap.size + 1 := World.size_alloc _ _
  have hlit := okv_one (lo := lo) (hi := w3.heap.size + 1) hcb (by omega) (Nat.lt_succ_self _)
  have hO4 : OK encV 1 34 (w3.alloc (.cells #[v3] 34)) lo wr.heap.size (.slice (some ⟨b, o, none⟩) n c5) vs := (hO.below hw (Nat.le_refl _)).below A4 hz3
  have hR4 : RowsX (w3.alloc (.cells #[v3] 34)) lo wr.heap.size vs xss := ⟨hR.len, fun i h1 h2 => ⟨(hR.row i h1 h2).1, ((hR.row i h1 h2).2.below hw (Nat.le_refl _)).below A4 hz3⟩, hR.apart⟩
  have h34 : OW (w3.alloc (.cells #[v3] 34)) wr.heap.size w3.heap.size v3 xs := h3.below A4 (Nat.le_refl _)
  have hC := hR4.cons h34 hz3 hlo
  refine ⟨vs, hvn, okv_row hlit, fun j u hu => ?_, rows_one hR4, fun g' cap w5 hown hgr => ?_⟩
  · obtain ⟨a, e, h⟩ := (okv_rs hO4).news encV_one (by rw [hR.len]; exact h0)
    injection e with e; subst e
    exact h j u (by rw [flat_encV]; exact hu)
  · have hRf := (hC.more (Nat.le_succ_of_le (Nat.le_refl w3.heap.size))).grown (okv_row hlit) hgr
    have hsz := hgr.size
    exact OX.of (okv_of (by simpa using hown) (by simp [hvn]; omega)) (hRf.more (by omega))
/-- 'append(rows, v0)'. -/
theorem snocX {wr w3 : World} {lo n c5 : Nat} {A : Option Addr} {v3 : Value} {xs : List Int} {xss : List (List Int)} (hX : OX wr lo wr.heap.size (.slice A n c5) xss) (hlo : lo ≤ wr.heap.size) (hw : Below wr.heap.size wr w3) (h3 : OW w3 wr.heap.size w3.heap.size v3 xs) :
    ∃ vs, vs.length = n ∧ (w3.alloc (.cells #[v3] 34)).ownsRow lo 34 1 (.slice A n c5) n vs ∧
      (∀ j u, [v3][j]? = some u → (w3.alloc (.cells #[v3] 34)).cell? ((⟨w3.heap.size, 0, none⟩ : Addr).add j) = some u) ∧ (∀ u ∈ [v3], u.oneCell' = true) ∧
      (∀ g' cap w5, w5.ownsRow lo 34 1 (.slice (some ⟨g', 0, none⟩) (n + 1) cap) (n + 1) (vs ++ [v3]) → (w3.alloc (.cells #[v3] 34)).grownBy w5 (Value.slice A n c5).ownBlock →
        OX w5 lo w5.heap.size (.slice (some ⟨g', 0, none⟩) (n + 1) cap) (xss ++ [xs])) ∧
      (∀ b, (Value.slice A n c5).ownBlock = some b → lo ≤ b) := by
  obtain ⟨vs, hO, hR⟩ := hX.parts
  have hvn : vs.length = n := by
    obtain ⟨A, c, e, _⟩ := OK.form (enc := encV) (k := 1) encV_one hO
    injection e with _ e2 _; exact e2.symm
  have A4 := (Below.refl w3.heap.size w3).alloc (Nat.le_refl _) (.cells #[v3] 34)
  have hcb : CB 34 (w3.alloc (.cells #[v3] 34)) w3.heap.size [v3] := heap_alloc_new w3 _
  have hz3 := hw.size
  have hz4 : (w3.alloc (.cells #[v3] 34)).heap.size = w3.heap.size + 1 := World.size_alloc _ _
  have hO4 : OK encV 1 34 (w3.alloc (.cells #[v3] 34)) lo wr.heap.size (.slice A n c5) vs := (hO.below hw (Nat.le_refl _)).below A4 hz3
  have hR4 : RowsX (w3.alloc (.cells #[v3] 34)) lo wr.heap.size vs xss := ⟨hR.len, fun i h1 h2 => ⟨(hR.row i h1 h2).1, ((hR.row i h1 h2).2.below hw (Nat.le_refl _)).below A4 hz3⟩, hR.apart⟩
  have h34 : OW (w3.alloc (.cells #[v3] 34)) wr.heap.size w3.heap.size v3 xs := h3.below A4 (Nat.le_refl _)
  have hC := hR4.snoc h34 hz3 hlo
  obtain ⟨A3, c3, e3, _⟩ := h3.form
  refine ⟨vs, hvn, by have := okv_row hO4; rwa [hvn] at this, fun j u hu => ?_, fun u hu => by simp at hu; rw [hu, e3]; rfl, fun g' cap w5 hown hgr => ?_, fun b hb => (hO.lo b hb).1⟩
  · rw [addr_add, hcb.cell]; exact hu
  · have hRf := (hC.more (Nat.le_succ_of_le (Nat.le_refl w3.heap.size))).grown (okv_row hO4) hgr
    have hsz := hgr.size
    exact OX.of (okv_of hown (by simp [hvn])) (hRf.more (by omega))
end Go.Proofs.Ytaaloepoegehkaa

namespace Go.Proofs.Ytaaloepoegehkaa
open Go.RowKit
set_option linter.unusedVariables false

def ResDependsOf (R0 : List (List Int)) (R1 : Bool) (w : World) (e : Ending) (w' : World) : Prop := ∃ (A0 : Option Addr) (c0 : Nat), e = .returned (.tuple #[.slice A0 R0.length c0, .bool R1]) ∧ OX w' w.heap.size w'.heap.size (.slice A0 R0.length c0) R0 ∧ Below w.heap.size w w'
end Go.Proofs.Ytaaloepoegehkaa

/- Chapter 9: the table of delays and DependsOf, of the model. -/
namespace Go.Proofs.Ytaaloepoegehkaa
open Go.RowKit
set_option linter.unusedVariables false
set_option maxRecDepth 100000

theorem oxLower {w : World} {lo lo' hi : Nat} {v : Value} {xss : List (List Int)} (h : OX w lo hi v xss) (hl : lo' ≤ lo) : OX w lo' hi v xss := by
  obtain ⟨vs, h1, h2, h3, h4, h5⟩ := h
  exact ⟨vs, h1, h2.lower hl, fun i a b => ⟨(h3 i a b).1, (h3 i a b).2.lower hl⟩, h4, h5⟩
def GotX (w : World) (xss : List (List Int)) (e : Ending) (w' : World) : Prop := ∃ A0 c0, e = .returned (.slice A0 xss.length c0) ∧ OX w' w.heap.size w'.heap.size (.slice A0 xss.length c0) xss ∧ Below w.heap.size w w'
def dTab (cs : List In) (i m : Nat) : List Int := (List.range m).map fun j => dT cs i j
theorem dTab_len (cs : List In) (i m : Nat) : (dTab cs i m).length = m := by simp [dTab]
theorem dTab_zero (cs : List In) (i : Nat) : dTab cs i 0 = [] := rfl
theorem dTab_succ (cs : List In) (i m : Nat) : dTab cs i (m + 1) = dTab cs i m ++ [dT cs i m] := by unfold dTab; rw [List.range_succ, List.map_append]; rfl
theorem dTab_at (cs : List In) (i m : Nat) {j : Nat} (h : j < (dTab cs i m).length) : (dTab cs i m)[j] = dT cs i j := by simp [dTab]
def dRows (cs : List In) (k : Nat) : List (List Int) := (List.range k).map fun i => dTab cs i cs.length
theorem dRows_len (cs : List In) (k : Nat) : (dRows cs k).length = k := by simp [dRows]
theorem dRows_zero (cs : List In) : dRows cs 0 = [] := rfl
theorem dRows_succ (cs : List In) (k : Nat) : dRows cs (k + 1) = dRows cs k ++ [dTab cs k cs.length] := by unfold dRows; rw [List.range_succ, List.map_append]; rfl
theorem dRows_at (cs : List In) (k : Nat) {i : Nat} (h : i < (dRows cs k).length) : (dRows cs k)[i] = dTab cs i cs.length := by simp [dRows]
theorem push9 {w w' w4 : World} {lo : Nat} {v v' : Value} {xs : List Int} {x : Int} (h : w4.ownsRow lo 3 1 v' (xs.length + 1) (xs.map (Value.int .i64) ++ [.int .i64 x])) : OW w4 lo w4.heap.size v' (xs ++ [x]) := OW.push h

set_option maxHeartbeats 8000000 in
theorem orDelays_any (L B : Nat) (A : Option Addr) (c : Nat) (cs : List In) (w : World) (hl : cs.length ≤ 20) (hgood : ∀ x ∈ cs, goodIn x = true) (hes : RS In.enc 5 w L B A cs) (hB : B ≤ w.heap.size) :
    Calls Try.prog 140 #[.slice A cs.length c] w (GotX w (dRows cs cs.length)) := by
  obtain ⟨i0, hi', hz0', hz1', hz2'⟩ := info_parts Try.infoII
  have hJ0 := Lib.hid hi'
  have hJ1 := Lib.hid hz0'
  have hJ2 := Lib.hid hz1'
  have hJ3 := Lib.hid hz2'
  clear hi' hz0' hz1' hz2'
  obtain ⟨i1, hi', hz0', hz1', hz2'⟩ := info_parts Try.infoInt
  have hI0 := Lib.hid hi'
  have hI1 := Lib.hid hz0'
  have hI2 := Lib.hid hz1'
  have hI3 := Lib.hid hz2'
  clear hi' hz0' hz1' hz2'
  have hDl := Lib.hid fun (i j : Nat) (W : World) (hW : Below w.heap.size w W) (hij : i < j) (hj : j < cs.length) => orDelay_any L B A c cs i j W hl hgood (hes.below hW hB) (Nat.le_trans hB hW.size) hij hj
  have hTs := Lib.hid (dTab_succ cs)
  have hTl := Lib.hid (dTab_len cs)
  have hRs := Lib.hid (dRows_succ cs)
  have hRl := Lib.hid (dRows_len cs)
  have hlt' := Lib.hid fun (i j : Nat) (h : i < j) => dT_lt (cs := cs) h
  have hge := Lib.hid fun (i j : Nat) (h : ¬ i < j) => dT_ge (cs := cs) h
  have hT0 : Hid (∀ i, dTab cs i 0 = []) := dTab_zero cs
  have hR0 : Hid (dRows cs 0 = []) := dRows_zero cs
  have b0 := Lib.hid (Below.refl w.heap.size w)
  clear hes hgood hB
  generalize hRR : dRows cs cs.length = RR at *
  have hRRh := Lib.hid hRR
  clear hRR
  generalize dRows cs = R at *
  generalize dTab cs = T at *
  generalize dT cs = E at *
  generalize dl cs = D at *
  have hRRl : RR.length = cs.length := by rw [← hRRh.out]; exact hRl.out _
  go_enter Try.func140, Try.ntmps140
  go_wp2
  go_loopw [3, 10] (fun v q wr => ∃ k : Nat, k ≤ cs.length ∧ q = .int .i64 k ∧ OX wr w.heap.size wr.heap.size v (R k) ∧ Below w.heap.size w wr) (fun _ q _ => cs.length - (intOf q).toNat)
  case atStart => exact ⟨0, Nat.zero_le _, rfl, by rw [hR0.out]; exact OX.nil _ _ _, b0.out⟩
  case round =>
    obtain ⟨k, hk, rfl, hox, hbel⟩ := hrel
    obtain ⟨A5, c5, rfl⟩ := hox.form
    have hX := Lib.hid hox
    have hBL := Lib.hid hbel
    clear hox hbel
    rw [hRl.out] at hX ⊢
    by_cases hlt : k < cs.length
    · have hki : (k : Int) < (cs.length : Int) := by omega
      obtain ⟨wo, hwo⟩ : ∃ wo : World, wo = wr := ⟨_, rfl⟩
      rw [← hwo] at hX hBL ⊢
      clear hwo
      have bw := Lib.hid (Below.refl wo.heap.size wo)
      go_wp2
      go_loopw [5, 15] (fun v q wq => ∃ m : Nat, m ≤ cs.length ∧ q = .int .i64 m ∧ OW wq wo.heap.size wq.heap.size v (T k m) ∧ Below wo.heap.size wo wq) (fun _ q _ => cs.length - (intOf q).toNat)
      case atStart => exact ⟨0, Nat.zero_le _, rfl, by rw [hT0.out]; exact OW.nil _ _ _, bw.out⟩
      case round =>
        obtain ⟨m, hm, rfl, how, hbq⟩ := hrel
        obtain ⟨V, cv, rfl, _⟩ := how.form
        have hO := Lib.hid how
        have hBq := Lib.hid hbq
        clear how hbq
        rw [hTl.out] at hO ⊢
        by_cases hmt : m < cs.length
        · have hmi : (m : Int) < (cs.length : Int) := by omega
          have hTm := Lib.hid (hTs.out k m)
          have hTml := hTl.out k m
          by_cases hkm : k < m
          · have hkmi : (k : Int) < (m : Int) := by omega
            have hEq := Lib.hid (hlt'.out k m hkm)
            have hC := Lib.hid (hDl.out k m wr (hBL.out.trans (hBq.out.mono hBL.out.size)) hkm hmt)
            generalize D k m = d at *
            generalize E k m = e9 at *
            generalize hTT : T k (m + 1) = Tn at *
            have hTTh := Lib.hid hTT
            clear hTT
            generalize T k m = xs at *
            have hlo := Lib.hid hO.out.lo
            go_wp2_with (fail)
            refine hC.out.mono ?_
            rintro e w2 ⟨rfl, hb2⟩
            have hB2 := Lib.hid (hBq.out.trans (hb2.mono hBq.out.size))
            have ho2 := Lib.hid (((hO.out.below hb2 (Nat.le_refl _)).more hb2.size).1.alloc (.cells #[.int .i64 d] 3))
            have hb3 := Lib.hid (hB2.out.alloc hB2.out.size (.cells #[.int .i64 d] 3))
            clear hb2
            go_wp2_with (at_builtin; go_loud (refine wpList_append_own _ rfl _ _ 34 rfl wo.heap.size 3 i1 (.int .i64 0) 1 8 Try.underlying34 hI0.out hI1.out hI2.out hI3.out rfl (by decide) _ _ _ rfl ho2.out ⟨w2.heap.size, 0, none⟩ 1 1 [.int .i64 d] rfl rfl (new1 rfl) (one1 _) (by unfold maxLen; omega) (by omega) (by have := hB2.out.size; simp; omega) ?_); intro v' w4 hown4 hgr4 _)
            have R1 := Lib.hid (show OW w4 wo.heap.size w4.heap.size v' Tn from by rw [hTm.out, hEq.out]; exact OW.push (by simpa using hown4))
            have R2 := Lib.hid (hb3.out.grown hgr4 hb3.out.size (fun k hk => (hlo.out k hk).1))
            clear hown4 hgr4
            go_wp2
            go_roundw
            case rel => exact ⟨m + 1, by omega, by go_num, by rw [hTTh.out]; exact R1.out, R2.out⟩
            case measure => simp [intOf]; omega
          · have hkmi : ¬ (k : Int) < (m : Int) := by omega
            have hEq := Lib.hid (hge.out k m hkm)
            generalize E k m = e9 at *
            generalize hTT : T k (m + 1) = Tn at *
            have hTTh := Lib.hid hTT
            clear hTT
            generalize T k m = xs at *
            have hlo := Lib.hid hO.out.lo
            have ho2 := Lib.hid (hO.out.1.alloc (.cells #[.int .i64 (-1)] 3))
            have hb3 := Lib.hid (hBq.out.alloc hBq.out.size (.cells #[.int .i64 (-1)] 3))
            go_wp2_with (at_builtin; go_loud (refine wpList_append_own _ rfl _ _ 34 rfl wo.heap.size 3 i1 (.int .i64 0) 1 8 Try.underlying34 hI0.out hI1.out hI2.out hI3.out rfl (by decide) _ _ _ rfl ho2.out ⟨wr.heap.size, 0, none⟩ 1 1 [.int .i64 (-1)] rfl rfl (new1 rfl) (one1 _) (by unfold maxLen; omega) (by omega) (by have := hBq.out.size; simp; omega) ?_); intro v' w4 hown4 hgr4 _)
            have R1 := Lib.hid (show OW w4 wo.heap.size w4.heap.size v' Tn from by rw [hTm.out, hEq.out]; exact OW.push (by simpa using hown4))
            have R2 := Lib.hid (hb3.out.grown hgr4 hb3.out.size (fun k hk => (hlo.out k hk).1))
            clear hown4 hgr4
            go_wp2
            go_roundw
            case rel => exact ⟨m + 1, by omega, by go_num, by rw [hTTh.out]; exact R1.out, R2.out⟩
            case measure => simp [intOf]; omega
        · obtain rfl : m = cs.length := by omega
          have hRk := Lib.hid (hRs.out k)
          generalize hTT : R (k + 1) = Rn at *
          have hTTh := Lib.hid hTT
          clear hTT
          have hrl := hRl.out k
          generalize R k = Rk at *
          obtain ⟨vs, hvn, HL, HN, H1, HK, Hlo⟩ := snocX hX.out hBL.out.size hBq.out hO.out
          have HL := Lib.hid HL
          have HN := Lib.hid HN
          have H1 := Lib.hid H1
          have HK := Lib.hid HK
          have Hlo := Lib.hid Hlo
          have hB2 := Lib.hid (hBL.out.trans (hBq.out.mono hBL.out.size))
          have hk20 : k ≤ 20 := by omega
          go_wp2_with (at_builtin; go_loud (refine wpList_append_own _ rfl _ _ 23 rfl w.heap.size 34 i0 _ 1 24 Try.underlying23 hJ0.out hJ1.out hJ2.out hJ3.out rfl (by decide) _ k _ rfl HL.out ⟨wr.heap.size, 0, none⟩ 1 1 _ rfl rfl HN.out H1.out (by unfold maxLen; omega) (by omega) (by have := hB2.out.size; simp; omega) ?_); intro v' w7 hown7 hgr7 _; obtain ⟨g7, c7, rfl⟩ := ownsRow_succ hown7; have hX7 := Lib.hid (HK.out g7 c7 w7 hown7 hgr7); have hB7 := Lib.hid ((hB2.out.alloc hB2.out.size (.cells #[.slice V cs.length cv] 34)).grown hgr7 (by have := hB2.out.size; simp; omega) (fun j hj => Hlo.out j hj)); clear hown7 hgr7)
          go_roundw
          case rel => exact ⟨k + 1, by omega, by go_num, by rw [hTTh.out, hRk.out]; exact hX7.out, hB7.out⟩
          case measure => simp [intOf]; omega
    · obtain rfl : k = cs.length := by omega
      go_wp2
      go_ret
      exact ⟨A5, c5, by rw [hRRl]; rfl, by rw [← hRRh.out, hRl.out]; exact hX.out, hBL.out⟩

/- DependsOf. -/
def dpR (cs : List In) : List (List Int) := if orGood cs = true then dAll cs cs.length else []
theorem dpR_yes {cs : List In} (h : orGood cs = true) : dpR cs = dAll cs cs.length := by unfold dpR; rw [if_pos h]
theorem dpR_no {cs : List In} (h : orGood cs = false) : dpR cs = [] := by unfold dpR; rw [h]; rfl
theorem dAll_len20 {cs : List In} (h : cs.length ≤ 20) : (dAll cs cs.length).length ≤ 420 := by
  rw [← dSt_zero]; exact dSt_len h (Nat.le_refl _) (Nat.zero_le _)
theorem sum_three : ∀ {l : List (List Int)}, (∀ d ∈ l, d.length = 3) → (l.map List.length).sum = 3 * l.length
  | [], _ => rfl
  | d :: l, h => by
    rw [List.map_cons, List.sum_cons, sum_three fun e he => h e (by simp [he]), h d (by simp), List.length_cons]; omega
theorem dpR_small (cs : List In) : SmallX (dpR cs) := by
  cases h : orGood cs
  · rw [dpR_no h]; exact ⟨by simp, by simp⟩
  · rw [dpR_yes h]
    have h1 := dAll_len20 (orGood_parts h).1
    exact ⟨by omega, by rw [sum_three dAll_three]; omega⟩
theorem cells3 (W : World) (lo : Nat) (a b c : Int) (hlo : lo ≤ W.heap.size) : OW (W.alloc (.cells #[.int .i64 a, .int .i64 b, .int .i64 c] 3)) lo (W.alloc (.cells #[.int .i64 a, .int .i64 b, .int .i64 c] 3)).heap.size (.slice (some ⟨W.heap.size, 0, none⟩) 3 3) [a, b, c] := by
  have h : IB (W.alloc (.cells #[.int .i64 a, .int .i64 b, .int .i64 c] 3)) W.heap.size 3 [a, b, c] := heap_alloc_new W _
  exact OW.ofIB h (by simp) hlo (by simp)

end Go.Proofs.Ytaaloepoegehkaa
