import Derived.Test.YtdleiondfhmjdaaTE
import Derived.Test.YtdleiondfhmjdaaTB
/- What the functions of chapter 3 over tables answer. -/
namespace Go.Proofs.Ytdleiondfhmjdaa
open Go.RowKit
set_option linter.unusedVariables false

def neI (xs ys : List Int) (i : Nat) : Bool := xs.getD i 0 != ys.getD i 0
def xorI (xs ys : List Int) (i : Nat) : Int := bits .xor .i64 (xs.getD i 0) (ys.getD i 0)
theorem tab_len (es : List Nd) : (tab es).length = 4096 := tabTo_len _ _
theorem tab_W {es : List Nd} (hg : good es = true) : W64 (tab es) := by
  obtain ⟨hl1, hl24, hok⟩ := good_len hg
  intro i
  by_cases hi : i < 4096
  · rw [tab, tabTo_get _ hi]
    exact valsAt_W hok ⟨by omega, by omega⟩ ⟨by omega, by omega⟩ (Nat.le_refl _) _
  · rw [List.getD_eq_getElem?_getD, List.getElem?_eq_none (by rw [tab_len]; omega)]; exact ⟨Int.le_refl _, by show (0 : Int) ≤ 63; omega⟩
theorem xorI_bd {xs ys : List Int} (hx : W64 xs) (hy : W64 ys) (i : Nat) : 0 ≤ xorI xs ys i ∧ xorI xs ys i ≤ 63 := bxor_bd _ _ (hx i).1 (hx i).2 (hy i).1 (hy i).2
theorem xorI_ne {xs ys : List Int} (hx : W64 xs) (hy : W64 ys) (i : Nat) : (xorI xs ys i != 0) = neI xs ys i := by
  have h := bxor_zero (hx i).1 (hx i).2 (hy i).1 (hy i).2
  unfold xorI neI
  by_cases e : xs.getD i 0 = ys.getD i 0
  · rw [h.2 e, e]; simp
  · have h2 : ¬ bits .xor .i64 (xs.getD i 0) (ys.getD i 0) = 0 := fun h' => e (h.1 h')
    rw [bne_iff_ne.2 h2, bne_iff_ne.2 e]
theorem idx64 {i : Nat} : 64 * (i / 64) + i % 64 = i := by omega

def ok2 (es fs : List Nd) : Bool := good es && good fs
/-- The table of an exclusive or. -/
def difT (xs ys : List Int) : List Int := tabTo (fun x0 x1 => bits .xor .i64 (xs.getD (64 * x0 + x1).toNat 0) (ys.getD (64 * x0 + x1).toNat 0)) 4096
theorem difT_len (xs ys : List Int) : (difT xs ys).length = 4096 := tabTo_len _ _
theorem difT_get (xs ys : List Int) {i : Nat} (h : i < 4096) : (difT xs ys).getD i 0 = xorI xs ys i := by
  have e : (64 * ((i / 64 : Nat) : Int) + ((i % 64 : Nat) : Int)).toNat = i := by omega
  rw [difT, tabTo_get _ h, e]; rfl
def difR (es fs : List Nd) : List Int := if ok2 es fs = true then difT (tab es) (tab fs) else []

def eqR (es fs : List Nd) : Bool := ok2 es fs && decide (firstI (neI (tab es) (tab fs)) 4096 < 0)
def fdR (es fs : List Nd) : Int := if ok2 es fs = true then firstI (neI (tab es) (tab fs)) 4096 else -1
def fd0 (es fs : List Nd) : Int := if fdR es fs < 0 then 0 else fdR es fs / 64
def fd1 (es fs : List Nd) : Int := if fdR es fs < 0 then 0 else fdR es fs % 64
def fdB (es fs : List Nd) : Bool := decide (0 ≤ fdR es fs)
def cdR (es fs : List Nd) : Int := if ok2 es fs = true then countI (neI (tab es) (tab fs)) 4096 else 0
def dbR (es fs : List Nd) : Int := if ok2 es fs = true then orI (xorI (tab es) (tab fs)) 4096 else 0
def eaB (es fs : List Nd) (m : Int) : Bool := ok2 es fs && isW m
def eaR (es fs : List Nd) (m : Int) : Bool := eaB es fs m && (bits .and .i64 (orI (xorI (tab es) (tab fs)) 4096) m == 0)

theorem difR_first (es fs : List Nd) : firstI (fun i => (difR es fs).getD i 0 != 0) (difR es fs).length = fdR es fs := by
  unfold difR fdR
  by_cases h : ok2 es fs = true
  · rw [if_pos h, if_pos h, difT_len]
    simp only [ok2, Bool.and_eq_true] at h
    exact firstI_ext fun i hi => by rw [difT_get _ _ hi, xorI_ne (tab_W h.1) (tab_W h.2)]
  · rw [if_neg h, if_neg h]; rfl
theorem difR_count (es fs : List Nd) : countI (fun i => (difR es fs).getD i 0 != 0) (difR es fs).length = cdR es fs := by
  unfold difR cdR
  by_cases h : ok2 es fs = true
  · rw [if_pos h, if_pos h, difT_len]
    simp only [ok2, Bool.and_eq_true] at h
    exact countI_ext fun i hi => by rw [difT_get _ _ hi, xorI_ne (tab_W h.1) (tab_W h.2)]
  · rw [if_neg h, if_neg h]; rfl
theorem difR_or (es fs : List Nd) : orI (fun i => (difR es fs).getD i 0) (difR es fs).length = dbR es fs := by
  unfold difR dbR
  by_cases h : ok2 es fs = true
  · rw [if_pos h, if_pos h, difT_len]
    exact orI_ext fun i hi => difT_get _ _ hi
  · rw [if_neg h, if_neg h]; rfl
theorem dbR_bd (es fs : List Nd) : 0 ≤ dbR es fs ∧ dbR es fs ≤ 63 := by
  unfold dbR
  by_cases h : ok2 es fs = true
  · rw [if_pos h]
    simp only [ok2, Bool.and_eq_true] at h
    exact orI_bd fun i _ => xorI_bd (tab_W h.1) (tab_W h.2) i
  · rw [if_neg h]; omega
theorem or_first {xs ys : List Int} (hx : W64 xs) (hy : W64 ys) (n : Nat) : (true && (bits .and .i64 (orI (xorI xs ys) n) 63 == 0)) = (true && decide (firstI (neI xs ys) n < 0)) := by
  have hb := orI_bd (n := n) fun i _ => xorI_bd hx hy i
  have hz := orI_zero (n := n) fun i _ => xorI_bd hx hy i
  rw [and63, Int.emod_eq_of_lt hb.1 (by omega), Bool.eq_iff_iff]
  simp only [Bool.true_and, beq_iff_eq, decide_eq_true_eq]
  rw [hz, firstI_neg]
  constructor
  · intro a i hi
    have := xorI_ne hx hy i
    rw [← this, a i hi]; rfl
  · intro a i hi
    have := xorI_ne hx hy i
    rw [a i hi] at this; simpa using this
theorem eaR_63 (es fs : List Nd) : eaR es fs 63 = eqR es fs ∧ eaB es fs 63 = ok2 es fs := by
  have hw : isW 63 = true := by decide
  have hB : eaB es fs 63 = ok2 es fs := by unfold eaB; rw [hw, Bool.and_true]
  refine ⟨?_, hB⟩
  unfold eaR eqR
  rw [hB]
  cases h : ok2 es fs
  · rw [Bool.false_and, Bool.false_and]
  · simp only [ok2, Bool.and_eq_true] at h
    have q := or_first (tab_W h.1) (tab_W h.2) 4096
    exact q

/-- least and greatest value -/
def tmin (es : List Nd) : Int := if good es = true then minI (fun i => (tab es).getD i 0) 63 4096 else 0
def tmax (es : List Nd) : Int := if good es = true then maxI (fun i => (tab es).getD i 0) 0 4096 else 0
/-- the same value everywhere -/
def coI (xs : List Int) (n : Nat) : Bool := decide (firstI (fun i => xs.getD i 0 != xs.getD 0 0) n < 0)
theorem coI_iff (xs : List Int) (n : Nat) : coI xs n = true ↔ ∀ i, i < n → xs.getD i 0 = xs.getD 0 0 := by
  unfold coI; rw [decide_eq_true_eq, firstI_neg]
  exact ⟨fun h i hi => by simpa using h i hi, fun h i hi => by simpa using h i hi⟩
def coB (es : List Nd) : Bool := good es && coI (tab es) 4096
def coR (es : List Nd) : Int := if coB es = true then (tab es).getD 0 0 else 0
theorem tmin_start {es : List Nd} (hg : good es = true) : tmin es = minI (fun i => (tab es).getD i 0) ((tab es).getD 0 0) 4096 := by
  unfold tmin; rw [if_pos hg]; exact minI_start (by omega) fun i _ => (tab_W hg i).2
theorem tmax_start {es : List Nd} (hg : good es = true) : tmax es = maxI (fun i => (tab es).getD i 0) ((tab es).getD 0 0) 4096 := by
  unfold tmax; rw [if_pos hg]; exact maxI_start (by omega) fun i _ => (tab_W hg i).1
theorem co_of {xs : List Int} {mn mx : Int} {n : Nat} (h1 : mn ≤ xs.getD 0 0 ∧ ∀ i, i < n → mn ≤ xs.getD i 0) (h2 : xs.getD 0 0 ≤ mx ∧ ∀ i, i < n → xs.getD i 0 ≤ mx)
    (h3 : mn = xs.getD 0 0 ∨ ∃ i, i < n ∧ mn = xs.getD i 0) (h4 : mx = xs.getD 0 0 ∨ ∃ i, i < n ∧ mx = xs.getD i 0) : coI xs n = decide (mn = mx) ∧ (coI xs n = true → xs.getD 0 0 = mn) := by
  have k1 : coI xs n = true → mn = xs.getD 0 0 := fun h => by
    have a := (coI_iff xs n).1 h
    rcases h3 with h | ⟨i, hi, h⟩
    · exact h
    · rw [h]; exact a i hi
  have k2 : coI xs n = true → mx = xs.getD 0 0 := fun h => by
    have a := (coI_iff xs n).1 h
    rcases h4 with h | ⟨i, hi, h⟩
    · exact h
    · rw [h]; exact a i hi
  refine ⟨?_, fun h => (k1 h).symm⟩
  rw [Bool.eq_iff_iff, decide_eq_true_eq]
  constructor
  · intro h; rw [k1 h, k2 h]
  · intro e
    rw [coI_iff]; intro i hi
    have := h1.2 i hi; have := h2.2 i hi; have := h1.1; have := h2.1
    omega
theorem co_iff {es : List Nd} (hg : good es = true) : coB es = decide (tmin es = tmax es) ∧ (coB es = true → coR es = tmin es) := by
  have h1 := minI_le (fun i => (tab es).getD i 0) ((tab es).getD 0 0) 4096
  have h2 := maxI_ge (fun i => (tab es).getD i 0) ((tab es).getD 0 0) 4096
  have h3 := minI_is (fun i => (tab es).getD i 0) ((tab es).getD 0 0) 4096
  have h4 := maxI_is (fun i => (tab es).getD i 0) ((tab es).getD 0 0) 4096
  rw [← tmin_start hg] at h1 h3
  rw [← tmax_start hg] at h2 h4
  have k := co_of h1 h2 h3 h4
  have e : coB es = coI (tab es) 4096 := by unfold coB; rw [hg, Bool.true_and]
  refine ⟨by rw [e]; exact k.1, fun h => ?_⟩
  unfold coR; rw [if_pos h]
  exact k.2 (by rw [← e]; exact h)

/-- symmetric -/
def syI (xs : List Int) (i : Nat) : Bool := xs.getD (64 * (i % 64) + i / 64) 0 != xs.getD i 0
def syR (es : List Nd) : Bool := good es && decide (firstI (syI (tab es)) 4096 < 0)
def exT (xs : List Int) : List Int := tabTo (fun x0 x1 => xs.getD (64 * x1 + x0).toNat 0) 4096
theorem exT_len (xs : List Int) : (exT xs).length = 4096 := tabTo_len _ _
theorem exT_get (xs : List Int) {i : Nat} (h : i < 4096) : (exT xs).getD i 0 = xs.getD (64 * (i % 64) + i / 64) 0 := by
  have e : (64 * ((i % 64 : Nat) : Int) + ((i / 64 : Nat) : Int)).toNat = 64 * (i % 64) + i / 64 := by omega
  rw [exT, tabTo_get _ h, e]
theorem exT_ne (xs : List Int) : firstI (neI xs (exT xs)) 4096 = firstI (syI xs) 4096 :=
  firstI_ext fun i hi => by unfold neI syI; rw [exT_get _ hi]; exact bne_comm

/-- the least word in place of the input k that changes the value -/
def atW (k : Int) (i w : Nat) : Nat := if k = 1 then 64 * (i / 64) + w else 64 * w + i % 64
def lwI (xs : List Int) (k : Int) (i : Nat) : Int := firstI (fun w => xs.getD (atW k i w) 0 != xs.getD i 0) 64
def isK (k : Int) : Bool := k == 0 || k == 1
def dpB (es : List Nd) (k : Int) : Bool := good es && isK k
/-- the first index where a word changes the value -/
def dpI (es : List Nd) (k : Int) : Int := if dpB es k = true then firstI (fun i => isW (lwI (tab es) k i)) 4096 else -1
def dpR (es : List Nd) (k : Int) : Bool := decide (0 ≤ dpI es k)
def dwR (es : List Nd) (k : Int) : List Int := if dpI es k < 0 then [] else [dpI es k / 64, dpI es k % 64, lwI (tab es) k (dpI es k).toNat]
theorem dwR_len (es : List Nd) (k : Int) : (dwR es k).length ≤ 1048576 := by unfold dwR; split <;> simp
def lwT (xs : List Int) (k : Int) : List Int := tabTo (fun x0 x1 => lwI xs k (64 * x0 + x1).toNat) 4096
theorem lwT_len (xs : List Int) (k : Int) : (lwT xs k).length = 4096 := tabTo_len _ _
theorem lwT_get (xs : List Int) (k : Int) {i : Nat} (h : i < 4096) : (lwT xs k).getD i 0 = lwI xs k i := by
  have e : (64 * ((i / 64 : Nat) : Int) + ((i % 64 : Nat) : Int)).toNat = i := by omega
  rw [lwT, tabTo_get _ h, e]
def cwR (es : List Nd) (k : Int) : List Int := if dpB es k = true then lwT (tab es) k else []
theorem cwR_first (es : List Nd) (k : Int) : firstI (fun i => isW ((cwR es k).getD i 0)) (cwR es k).length = dpI es k := by
  unfold cwR dpI
  by_cases h : dpB es k = true
  · rw [if_pos h, if_pos h, lwT_len]
    exact firstI_ext fun i hi => by rw [lwT_get _ _ hi]
  · rw [if_neg h, if_neg h]; rfl
theorem lwI_W {xs : List Int} {k : Int} {i : Nat} : isW (lwI xs k i) = decide (0 ≤ lwI xs k i) := by
  have := firstI_bd (fun w => xs.getD (atW k i w) 0 != xs.getD i 0) 64
  unfold isW lwI
  by_cases h : 0 ≤ firstI (fun w => xs.getD (atW k i w) 0 != xs.getD i 0) 64
  · rw [decide_eq_true h, decide_eq_true (by omega)]; rfl
  · rw [decide_eq_false h]; rfl
end Go.Proofs.Ytdleiondfhmjdaa
