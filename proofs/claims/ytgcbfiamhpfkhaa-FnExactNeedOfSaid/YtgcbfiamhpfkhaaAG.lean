import Derived.Test.YtgcbfiamhpfkhaaZ6
/- Needs: plain. -/
namespace Go.Proofs.Ytgcbfiamhpfkhaa
open Go.RowKit
set_option linter.unusedVariables false

theorem tD_ps (es : List Nd) (nums : List Int) : ∀ i, i < es.length → ∀ p ∈ (tD es nums i).ps, 0 ≤ p ∧ p < (i : Int) := by
  intro i hi p hp
  unfold tD at hp
  cases h : tOf es (i : Int) (nums.getD i 0) with
  | none => rw [h] at hp; simp [noTi] at hp
  | some x => rw [h] at hp; exact (tOf_ps h).1 p hp
theorem tD_num (es : List Nd) (nums : List Int) (i : Nat) : 0 ≤ (tD es nums i).num := by
  unfold tD
  cases h : tOf es (i : Int) (nums.getD i 0) with
  | none => simp [noTi]
  | some x => exact (tOf_ps h).2.2.1
theorem tD_ps2 (es : List Nd) (nums : List Int) (i : Nat) : (tD es nums i).ps.length ≤ 2 := by
  unfold tD
  cases h : tOf es (i : Int) (nums.getD i 0) with
  | none => simp [noTi]
  | some x => exact (tOf_ps h).2.1
theorem cvSt_chSt {es : List Nd} {nums : List Int} : ∀ {j : Nat} {cs : List Int} {out : List Ti}, cvSt es nums j = some (cs, out) → cs = chSt es.length (tD es nums) j
  | 0, cs, out, h => by
    simp only [cvSt, Option.some.injEq, Prod.mk.injEq] at h
    rw [chSt_zero]; exact h.1.symm
  | j + 1, cs, out, h => by
    simp only [cvSt] at h
    rw [Option.bind_eq_some_iff] at h
    obtain ⟨⟨cs0, out0⟩, h0, h1⟩ := h
    have ih := cvSt_chSt h0
    unfold cvNext at h1
    split at h1
    · rename_i hc
      rw [Option.map_eq_some_iff] at h1
      obtain ⟨x, hx0, hx⟩ := h1
      injection hx with e3 e4
      simp only at hc
      rw [chSt_lay (by rw [← ih]; exact hc), ← ih, ← e3]
      have : tD es nums (es.length - 1 - j) = x := by unfold tD; rw [hx0]; rfl
      rw [this]
    · rename_i hc
      injection h1 with h1; injection h1 with e3 e4
      simp only at hc
      rw [chSt_skip (by rw [← ih]; exact hc), ← ih, ← e3]
/-- In a cover, parts have tiles. -/
theorem cover_parts {es : List Nd} {nums : List Int} {out : List Ti} (h : tocR es nums = some out) {i : Nat} (hi : i < es.length) (hn : nums.getD i 0 ≠ -1) : tOf es (i : Int) (nums.getD i 0) = some (tD es nums i) ∧ ∀ p ∈ (tD es nums i).ps, 0 ≤ p ∧ p < (i : Int) ∧ 0 ≤ nums.getD p.toNat 0 := by
  obtain ⟨ht, hl, hc⟩ := tocR_some h
  have hg : good es = true := by unfold treeR at ht; simp only [Bool.and_eq_true] at ht; exact ht.1
  obtain ⟨hl1, hl24, hok⟩ := good_len hg
  have hch := cvSt_chSt hc
  have hch' : nums = chR es.length (tD es nums) := hch
  have hR := chR_get hl1 (tD_ps es nums) i hi
  rw [← hch'] at hR
  have hr : Rch es.length (tD es nums) i := Classical.byContradiction fun hh => hn (hR.2 hh)
  have hv : 0 ≤ nums.getD i 0 := by rw [hR.1 hr]; exact tD_num es nums i
  obtain ⟨x, hx⟩ := (tocR_mst h).2 i hi hv
  refine ⟨by rw [hx]; unfold tD; rw [hx]; rfl, fun p hp => ?_⟩
  have hb := tD_ps es nums i hi p hp
  have hp' := chR_get hl1 (tD_ps es nums) p.toNat (by omega)
  rw [← hch'] at hp'
  exact ⟨hb.1, hb.2, by rw [hp'.1 (hr.part hp)]; exact tD_num es nums _⟩
theorem cover_low {es : List Nd} {nums : List Int} {out : List Ti} (h : tocR es nums = some out) {i : Nat} (hi : i < es.length) : nums.getD i 0 = -1 ∨ (0 ≤ nums.getD i 0 ∧ nums.getD i 0 ≤ 12) := by
  by_cases e : nums.getD i 0 = -1
  · exact .inl e
  · have hx := (cover_parts h hi e).1
    have := tOf_num hx
    have := (tOf_ps hx).2.2
    right; omega
def seB (a b : Int) : Int := max 1 (max a (b + if 0 < a then 1 else 0))
def ndT (nd : List Int) (x : Ti) : Int :=
  if x.num = 0 then 0 else match x.ps with
    | [] => 1
    | [p] => max 1 (nd.getD p.toNat 0)
    | p :: q :: _ => seB (max (nd.getD p.toNat 0) (nd.getD q.toNat 0)) (min (nd.getD p.toNat 0) (nd.getD q.toNat 0))
def ndTo (es : List Nd) (nums : List Int) : Nat → List Int
  | 0 => List.replicate es.length (-1)
  | k + 1 => if nums.getD k 0 = -1 then ndTo es nums k else (ndTo es nums k).set k (ndT (ndTo es nums k) (tD es nums k))
theorem ndTo_zero (es : List Nd) (nums : List Int) : ndTo es nums 0 = List.replicate es.length (-1) := rfl
theorem ndTo_skip {es : List Nd} {nums : List Int} {k : Nat} (h : nums.getD k 0 = -1) : ndTo es nums (k + 1) = ndTo es nums k := by
  show (if _ then _ else _ : List Int) = _; rw [if_pos h]
theorem ndTo_set {es : List Nd} {nums : List Int} {k : Nat} (h : nums.getD k 0 ≠ -1) : ndTo es nums (k + 1) = (ndTo es nums k).set k (ndT (ndTo es nums k) (tD es nums k)) := by
  show (if _ then _ else _ : List Int) = _; rw [if_neg h]
theorem ndTo_len (es : List Nd) (nums : List Int) : ∀ k, (ndTo es nums k).length = es.length
  | 0 => by rw [ndTo_zero]; simp
  | k + 1 => by
    show (if _ then _ else _ : List Int).length = _
    split
    · exact ndTo_len es nums k
    · rw [List.length_set]; exact ndTo_len es nums k
theorem ndT_bd {nd : List Int} {x : Ti} {k : Int} (h0 : 0 ≤ k) (h : ∀ p ∈ x.ps, 0 ≤ nd.getD p.toNat 0 ∧ nd.getD p.toNat 0 ≤ k) : 0 ≤ ndT nd x ∧ ndT nd x ≤ k + 1 := by
  unfold ndT
  split
  · omega
  · split
    · omega
    · rename_i p e; have := h p (by rw [e]; simp); omega
    · rename_i p q l e
      have h1 := h p (by rw [e]; simp)
      have h2 := h q (by rw [e]; simp)
      unfold seB; split <;> omega
theorem ndTo_bd {es : List Nd} {nums : List Int} {out : List Ti} (h : tocR es nums = some out) : ∀ k, k ≤ es.length → ∀ i, i < es.length → (i < k ∧ nums.getD i 0 ≠ -1 → 0 ≤ (ndTo es nums k).getD i 0) ∧ -1 ≤ (ndTo es nums k).getD i 0 ∧ (ndTo es nums k).getD i 0 ≤ k
  | 0, _, i, hi => by
    have e : (List.replicate es.length (-1 : Int)).getD i 0 = -1 := by rw [List.getD_eq_getElem?_getD, List.getElem?_replicate, if_pos hi]; rfl
    rw [ndTo_zero, e]
    exact ⟨fun h => by omega, by omega, by omega⟩
  | k + 1, hk, i, hi => by
    have ih := ndTo_bd h k (by omega)
    by_cases e : nums.getD k 0 = -1
    · rw [ndTo_skip e]
      have := ih i hi
      refine ⟨fun hh => this.1 ⟨?_, hh.2⟩, by omega, by omega⟩
      rcases Nat.lt_or_ge i k with h' | h'
      · exact h'
      · obtain rfl : i = k := by omega
        exact absurd e hh.2
    · rw [ndTo_set e, getDI_set _ _ _ (by rw [ndTo_len]; omega)]
      have hp := (cover_parts h (by omega : k < es.length) e).2
      have hb := ndT_bd (nd := ndTo es nums k) (x := tD es nums k) (k := (k : Int)) (by omega) (fun p hpp => by
        have h1 := hp p hpp
        have h2 := ih p.toNat (by omega)
        exact ⟨h2.1 ⟨by omega, by omega⟩, h2.2.2⟩)
      by_cases e2 : k = i
      · rw [if_pos e2]; exact ⟨fun _ => hb.1, by omega, by omega⟩
      · rw [if_neg e2]
        have := ih i hi
        exact ⟨fun hh => this.1 ⟨by omega, hh.2⟩, by omega, by omega⟩
def needsR (es : List Nd) (nums : List Int) : List Int := if (tocR es nums).isSome = true then ndTo es nums es.length else []
end Go.Proofs.Ytgcbfiamhpfkhaa
