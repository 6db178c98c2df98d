/- Texts of this proof, one behind the other: TP, TG, TI, TJ, TK, GE. -/
import Derived.Test.YtgcbfiamhpfkhaaZ7
import Derived.Test.YtgcbfiamhpfkhaaZ6
import Derived.Test.YtgcbfiamhpfkhaaLI
import Derived.Test.YtgcbfiamhpfkhaaA
import Derived.WalkKit
import Derived.WalkSpells
import Derived.WalkLawsBesides
import Derived.StillTailTactics
import Derived.Deep.QuietTactic
import Derived.BigQuiet
import Derived.Lib.Hide
import Derived.Lib.JoinLaws
/- What the functions of chapter 3 over tables answer. -/
namespace Go.Proofs.Ytgcbfiamhpfkhaa
open Go.RowKit
set_option linter.unusedVariables false

def neI (xs ys : List Int) (i : Nat) : Bool := xs.getD i 0 != ys.getD i 0
def xorI (xs ys : List Int) (i : Nat) : Int := bits .xor .i64 (xs.getD i 0) (ys.getD i 0)
theorem tab_len (es : List Nd) : (tab es).length = 4096 := tabTo_len _ _
theorem tab_W {es : List Nd} (hg : good es = true) : W64 (tab es) := by
  obtain ⟨hl1, hl24, hok⟩ := good_len hg
  intro i
  by_cases hi : i < 4096
  · rw [tab, tabTo_get _ hi]
    exact valsAt_W hok ⟨by omega, by omega⟩ ⟨by omega, by omega⟩ (Nat.le_refl _) _
  · rw [List.getD_eq_getElem?_getD, List.getElem?_eq_none (by rw [tab_len]; omega)]; exact ⟨Int.le_refl _, by show (0 : Int) ≤ 63; omega⟩
theorem xorI_bd {xs ys : List Int} (hx : W64 xs) (hy : W64 ys) (i : Nat) : 0 ≤ xorI xs ys i ∧ xorI xs ys i ≤ 63 := bxor_bd _ _ (hx i).1 (hx i).2 (hy i).1 (hy i).2
theorem xorI_ne {xs ys : List Int} (hx : W64 xs) (hy : W64 ys) (i : Nat) : (xorI xs ys i != 0) = neI xs ys i := by
  have h := bxor_zero (hx i).1 (hx i).2 (hy i).1 (hy i).2
  unfold xorI neI
  by_cases e : xs.getD i 0 = ys.getD i 0
  · rw [h.2 e, e]; simp
  · have h2 : ¬ bits .xor .i64 (xs.getD i 0) (ys.getD i 0) = 0 := fun h' => e (h.1 h')
    rw [bne_iff_ne.2 h2, bne_iff_ne.2 e]
theorem idx64 {i : Nat} : 64 * (i / 64) + i % 64 = i := by omega

def ok2 (es fs : List Nd) : Bool := good es && good fs
/-- The table of an exclusive or. -/
def difT (xs ys : List Int) : List Int := tabTo (fun x0 x1 => bits .xor .i64 (xs.getD (64 * x0 + x1).toNat 0) (ys.getD (64 * x0 + x1).toNat 0)) 4096
theorem difT_len (xs ys : List Int) : (difT xs ys).length = 4096 := tabTo_len _ _
theorem difT_get (xs ys : List Int) {i : Nat} (h : i < 4096) : (difT xs ys).getD i 0 = xorI xs ys i := by
  have e : (64 * ((i / 64 : Nat) : Int) + ((i % 64 : Nat) : Int)).toNat = i := by omega
  rw [difT, tabTo_get _ h, e]; rfl
def difR (es fs : List Nd) : List Int := if ok2 es fs = true then difT (tab es) (tab fs) else []

def eqR (es fs : List Nd) : Bool := ok2 es fs && decide (firstI (neI (tab es) (tab fs)) 4096 < 0)
def fdR (es fs : List Nd) : Int := if ok2 es fs = true then firstI (neI (tab es) (tab fs)) 4096 else -1
def fd0 (es fs : List Nd) : Int := if fdR es fs < 0 then 0 else fdR es fs / 64
def fd1 (es fs : List Nd) : Int := if fdR es fs < 0 then 0 else fdR es fs % 64
def fdB (es fs : List Nd) : Bool := decide (0 ≤ fdR es fs)
def cdR (es fs : List Nd) : Int := if ok2 es fs = true then countI (neI (tab es) (tab fs)) 4096 else 0
def dbR (es fs : List Nd) : Int := if ok2 es fs = true then orI (xorI (tab es) (tab fs)) 4096 else 0
def eaB (es fs : List Nd) (m : Int) : Bool := ok2 es fs && isW m
def eaR (es fs : List Nd) (m : Int) : Bool := eaB es fs m && (bits .and .i64 (orI (xorI (tab es) (tab fs)) 4096) m == 0)

theorem difR_first (es fs : List Nd) : firstI (fun i => (difR es fs).getD i 0 != 0) (difR es fs).length = fdR es fs := by
  unfold difR fdR
  by_cases h : ok2 es fs = true
  · rw [if_pos h, if_pos h, difT_len]
    simp only [ok2, Bool.and_eq_true] at h
    exact firstI_ext fun i hi => by rw [difT_get _ _ hi, xorI_ne (tab_W h.1) (tab_W h.2)]
  · rw [if_neg h, if_neg h]; rfl
theorem difR_count (es fs : List Nd) : countI (fun i => (difR es fs).getD i 0 != 0) (difR es fs).length = cdR es fs := by
  unfold difR cdR
  by_cases h : ok2 es fs = true
  · rw [if_pos h, if_pos h, difT_len]
    simp only [ok2, Bool.and_eq_true] at h
    exact countI_ext fun i hi => by rw [difT_get _ _ hi, xorI_ne (tab_W h.1) (tab_W h.2)]
  · rw [if_neg h, if_neg h]; rfl
theorem difR_or (es fs : List Nd) : orI (fun i => (difR es fs).getD i 0) (difR es fs).length = dbR es fs := by
  unfold difR dbR
  by_cases h : ok2 es fs = true
  · rw [if_pos h, if_pos h, difT_len]
    exact orI_ext fun i hi => difT_get _ _ hi
  · rw [if_neg h, if_neg h]; rfl
theorem dbR_bd (es fs : List Nd) : 0 ≤ dbR es fs ∧ dbR es fs ≤ 63 := by
  unfold dbR
  by_cases h : ok2 es fs = true
  · rw [if_pos h]
    simp only [ok2, Bool.and_eq_true] at h
    exact orI_bd fun i _ => xorI_bd (tab_W h.1) (tab_W h.2) i
  · rw [if_neg h]; omega
theorem or_first {xs ys : List Int} (hx : W64 xs) (hy : W64 ys) (n : Nat) : (true && (bits .and .i64 (orI (xorI xs ys) n) 63 == 0)) = (true && decide (firstI (neI xs ys) n < 0)) := by
  have hb := orI_bd (n := n) fun i _ => xorI_bd hx hy i
  have hz := orI_zero (n := n) fun i _ => xorI_bd hx hy i
  rw [and63, Int.emod_eq_of_lt hb.1 (by omega), Bool.eq_iff_iff]
  simp only [Bool.true_and, beq_iff_eq, decide_eq_true_eq]
  rw [hz, firstI_neg]
  constructor
  · intro a i hi
    have := xorI_ne hx hy i
    rw [← this, a i hi]; rfl
  · intro a i hi
    have := xorI_ne hx hy i
    rw [a i hi] at this; simpa using this
theorem eaR_63 (es fs : List Nd) : eaR es fs 63 = eqR es fs ∧ eaB es fs 63 = ok2 es fs := by
  have hw : isW 63 = true := by decide
  have hB : eaB es fs 63 = ok2 es fs := by unfold eaB; rw [hw, Bool.and_true]
  refine ⟨?_, hB⟩
  unfold eaR eqR
  rw [hB]
  cases h : ok2 es fs
  · rw [Bool.false_and, Bool.false_and]
  · simp only [ok2, Bool.and_eq_true] at h
    have q := or_first (tab_W h.1) (tab_W h.2) 4096
    exact q

/-- least and greatest value -/
def tmin (es : List Nd) : Int := if good es = true then minI (fun i => (tab es).getD i 0) 63 4096 else 0
def tmax (es : List Nd) : Int := if good es = true then maxI (fun i => (tab es).getD i 0) 0 4096 else 0
/-- the same value everywhere -/
def coI (xs : List Int) (n : Nat) : Bool := decide (firstI (fun i => xs.getD i 0 != xs.getD 0 0) n < 0)
theorem coI_iff (xs : List Int) (n : Nat) : coI xs n = true ↔ ∀ i, i < n → xs.getD i 0 = xs.getD 0 0 := by
  unfold coI; rw [decide_eq_true_eq, firstI_neg]
  exact ⟨fun h i hi => by simpa using h i hi, fun h i hi => by simpa using h i hi⟩
def coB (es : List Nd) : Bool := good es && coI (tab es) 4096
def coR (es : List Nd) : Int := if coB es = true then (tab es).getD 0 0 else 0
theorem tmin_start {es : List Nd} (hg : good es = true) : tmin es = minI (fun i => (tab es).getD i 0) ((tab es).getD 0 0) 4096 := by
  unfold tmin; rw [if_pos hg]; exact minI_start (by omega) fun i _ => (tab_W hg i).2
theorem tmax_start {es : List Nd} (hg : good es = true) : tmax es = maxI (fun i => (tab es).getD i 0) ((tab es).getD 0 0) 4096 := by
  unfold tmax; rw [if_pos hg]; exact maxI_start (by omega) fun i _ => (tab_W hg i).1
theorem co_of {xs : List Int} {mn mx : Int} {n : Nat} (h1 : mn ≤ xs.getD 0 0 ∧ ∀ i, i < n → mn ≤ xs.getD i 0) (h2 : xs.getD 0 0 ≤ mx ∧ ∀ i, i < n → xs.getD i 0 ≤ mx)
    (h3 : mn = xs.getD 0 0 ∨ ∃ i, i < n ∧ mn = xs.getD i 0) (h4 : mx = xs.getD 0 0 ∨ ∃ i, i < n ∧ mx = xs.getD i 0) : coI xs n = decide (mn = mx) ∧ (coI xs n = true → xs.getD 0 0 = mn) := by
  have k1 : coI xs n = true → mn = xs.getD 0 0 := fun h => by
    have a := (coI_iff xs n).1 h
    rcases h3 with h | ⟨i, hi, h⟩
    · exact h
    · rw [h]; exact a i hi
  have k2 : coI xs n = true → mx = xs.getD 0 0 := fun h => by
    have a := (coI_iff xs n).1 h
    rcases h4 with h | ⟨i, hi, h⟩
    · exact h
    · rw [h]; exact a i hi
  refine ⟨?_, fun h => (k1 h).symm⟩
  rw [Bool.eq_iff_iff, decide_eq_true_eq]
  constructor
  · intro h; rw [k1 h, k2 h]
  · intro e
    rw [coI_iff]; intro i hi
    have := h1.2 i hi; have := h2.2 i hi; have := h1.1; have := h2.1
    omega
theorem co_iff {es : List Nd} (hg : good es = true) : coB es = decide (tmin es = tmax es) ∧ (coB es = true → coR es = tmin es) := by
  have h1 := minI_le (fun i => (tab es).getD i 0) ((tab es).getD 0 0) 4096
  have h2 := maxI_ge (fun i => (tab es).getD i 0) ((tab es).getD 0 0) 4096
  have h3 := minI_is (fun i => (tab es).getD i 0) ((tab es).getD 0 0) 4096
  have h4 := maxI_is (fun i => (tab es).getD i 0) ((tab es).getD 0 0) 4096
  rw [← tmin_start hg] at h1 h3
  rw [← tmax_start hg] at h2 h4
  have k := co_of h1 h2 h3 h4
  have e : coB es = coI (tab es) 4096 := by unfold coB; rw [hg, Bool.true_and]
  refine ⟨by rw [e]; exact k.1, fun h => ?_⟩
  unfold coR; rw [if_pos h]
  exact k.2 (by rw [← e]; exact h)

/-- symmetric -/
def syI (xs : List Int) (i : Nat) : Bool := xs.getD (64 * (i % 64) + i / 64) 0 != xs.getD i 0
def syR (es : List Nd) : Bool := good es && decide (firstI (syI (tab es)) 4096 < 0)
def exT (xs : List Int) : List Int := tabTo (fun x0 x1 => xs.getD (64 * x1 + x0).toNat 0) 4096
theorem exT_len (xs : List Int) : (exT xs).length = 4096 := tabTo_len _ _
theorem exT_get (xs : List Int) {i : Nat} (h : i < 4096) : (exT xs).getD i 0 = xs.getD (64 * (i % 64) + i / 64) 0 := by
  have e : (64 * ((i % 64 : Nat) : Int) + ((i / 64 : Nat) : Int)).toNat = 64 * (i % 64) + i / 64 := by omega
  rw [exT, tabTo_get _ h, e]
theorem exT_ne (xs : List Int) : firstI (neI xs (exT xs)) 4096 = firstI (syI xs) 4096 :=
  firstI_ext fun i hi => by unfold neI syI; rw [exT_get _ hi]; exact bne_comm

/-- the least word in place of the input k that changes the value -/
def atW (k : Int) (i w : Nat) : Nat := if k = 1 then 64 * (i / 64) + w else 64 * w + i % 64
def lwI (xs : List Int) (k : Int) (i : Nat) : Int := firstI (fun w => xs.getD (atW k i w) 0 != xs.getD i 0) 64
def isK (k : Int) : Bool := k == 0 || k == 1
def dpB (es : List Nd) (k : Int) : Bool := good es && isK k
/-- the first index where a word changes the value -/
def dpI (es : List Nd) (k : Int) : Int := if dpB es k = true then firstI (fun i => isW (lwI (tab es) k i)) 4096 else -1
def dpR (es : List Nd) (k : Int) : Bool := decide (0 ≤ dpI es k)
def dwR (es : List Nd) (k : Int) : List Int := if dpI es k < 0 then [] else [dpI es k / 64, dpI es k % 64, lwI (tab es) k (dpI es k).toNat]
theorem dwR_len (es : List Nd) (k : Int) : (dwR es k).length ≤ 1048576 := by unfold dwR; split <;> simp
def lwT (xs : List Int) (k : Int) : List Int := tabTo (fun x0 x1 => lwI xs k (64 * x0 + x1).toNat) 4096
theorem lwT_len (xs : List Int) (k : Int) : (lwT xs k).length = 4096 := tabTo_len _ _
theorem lwT_get (xs : List Int) (k : Int) {i : Nat} (h : i < 4096) : (lwT xs k).getD i 0 = lwI xs k i := by
  have e : (64 * ((i / 64 : Nat) : Int) + ((i % 64 : Nat) : Int)).toNat = i := by omega
  rw [lwT, tabTo_get _ h, e]
def cwR (es : List Nd) (k : Int) : List Int := if dpB es k = true then lwT (tab es) k else []
theorem cwR_first (es : List Nd) (k : Int) : firstI (fun i => isW ((cwR es k).getD i 0)) (cwR es k).length = dpI es k := by
  unfold cwR dpI
  by_cases h : dpB es k = true
  · rw [if_pos h, if_pos h, lwT_len]
    exact firstI_ext fun i hi => by rw [lwT_get _ _ hi]
  · rw [if_neg h, if_neg h]; rfl
theorem lwI_W {xs : List Int} {k : Int} {i : Nat} : isW (lwI xs k i) = decide (0 ≤ lwI xs k i) := by
  have := firstI_bd (fun w => xs.getD (atW k i w) 0 != xs.getD i 0) 64
  unfold isW lwI
  by_cases h : 0 ≤ firstI (fun w => xs.getD (atW k i w) 0 != xs.getD i 0) 64
  · rw [decide_eq_true h, decide_eq_true (by omega)]; rfl
  · rw [decide_eq_false h]; rfl
end Go.Proofs.Ytgcbfiamhpfkhaa

/- The program's helpers of chapter 3 over tables. -/
namespace Go.Proofs.Ytgcbfiamhpfkhaa
open Go.RowKit
set_option linter.unusedVariables false
set_option maxRecDepth 100000

end Go.Proofs.Ytgcbfiamhpfkhaa

/- Tables made by a function value, at each of its types. -/
namespace Go.Proofs.Ytgcbfiamhpfkhaa
open Go.RowKit
set_option linter.unusedVariables false
set_option maxRecDepth 100000

/-- What a table made by a function leaves. -/
def TabIs (N : Nat) (Inv : World → Prop) (w : World) (xs : List Int) (e : Ending) (w' : World) : Prop :=
  ∃ A c, e = .returned (.slice A 4096 c) ∧ OW w' w.heap.size w'.heap.size (.slice A 4096 c) xs ∧ Below N w w' ∧ Inv w'
/-- A method that tells a word for two inputs. -/
def Tells (N : Nat) (Inv : World → Prop) (w : World) (g : Nat) (xv : Value) (f : Int → Int → Int) : Prop :=
  ∀ (x0 x1 : Nat) (W : World), x0 < 64 → x1 < 64 → Below N w W → w.heap.size ≤ W.heap.size → Inv W → Calls Try.prog g #[xv, .int .i64 x0, .int .i64 x1] W fun e W' =>
    e = .returned (.int .i64 (f x0 x1)) ∧ Inv W' ∧ ∃ row, W.grownBy W' row ∧ ∀ k, row = some k → N ≤ k ∧ k < w.heap.size


end Go.Proofs.Ytgcbfiamhpfkhaa

/- What the methods tell, and the library's functions over lists of ints. -/
namespace Go.Proofs.Ytgcbfiamhpfkhaa
open Go.RowKit
set_option linter.unusedVariables false
set_option maxRecDepth 100000

theorem two_cells (w : World) (a b : Value) (t : TypeId) : (w.alloc (.cells #[a, b] t)).cell? ⟨w.heap.size, 0, none⟩ = some a ∧ (w.alloc (.cells #[a, b] t)).cell? ⟨w.heap.size, 1, none⟩ = some b := by
  have h := fun i => cell_of_row _ w.heap.size i #[a, b] t (0, 0) (heap_alloc_new w _)
  exact ⟨h 0, h 1⟩

end Go.Proofs.Ytgcbfiamhpfkhaa

/- slices' functions over lists of ints; the program's lists of differences and of changing words. -/
namespace Go.Proofs.Ytgcbfiamhpfkhaa
open Go.RowKit
set_option linter.unusedVariables false
set_option maxRecDepth 100000

set_option maxHeartbeats 1000000 in
theorem indexFunc_isWord (L B : Nat) (A : Option Addr) (c n : Nat) (xs : List Int) (w : World) (hl : n ≤ 1048576) (hxn : xs.length = n) (hx : IS w L B A xs) :
    Calls Try.prog 159 #[.slice A n c, .func (.func 178) #[] #[]] w fun e w' => e = .returned (.int .i64 (firstI (fun i => isW (xs.getD i 0)) n)) ∧ w = w' := by
  have hX := Lib.hid hx
  have hXN := Lib.hid hxn
  obtain ⟨P, hPd⟩ : ∃ P : Nat → Bool, P = fun i => isW (xs.getD i 0) := ⟨_, rfl⟩
  rw [← hPd]
  have hPH := Lib.hid hPd
  clear hx hxn hPd
  go_enter Try.func159, Try.ntmps159
  go_wp2
  go_loop [5, 8] (fun _ i => ∃ k : Nat, k ≤ n ∧ i = .int .i64 k ∧ ∀ j, j < k → P j = false) (fun _ i => n - (intOf i).toNat)
  case atStart => exact ⟨0, Nat.zero_le _, rfl, fun j hj => absurd hj (Nat.not_lt_zero _)⟩
  case round =>
    obtain ⟨k, hk, rfl, hh⟩ := hrel
    have hH := Lib.hid hh; clear hh
    by_cases hlt : k < n
    · have hkx : k < xs.length := by rw [hXN.out]; exact hlt
      obtain ⟨b, o, rfl, _, hc⟩ := hX.out (by rw [hXN.out]; omega)
      have c1 := hc k hkx
      have hS : Hid (P k = (isW xs[k])) := by unfold Hid; rw [hPH.out]; show (isW (xs.getD k 0)) = _; rw [getD_get hkx]
      clear hc
      generalize hgx : xs[k] = x at *
      clear hgx hkx
      have HC := Lib.hid (isWord_any x w)
      cases hb : (isW (x))
      · rw [hb] at hS HC
        go_wp2_with (fail)
        refine HC.out.mono ?_
        rintro e w' ⟨rfl, rfl⟩
        go_wp2
        go_round
        case rel => exact ⟨k + 1, by omega, by go_num, fun j hj => by
          by_cases e : j = k
          · rw [e]; exact hS.out
          · exact hH.out j (by omega)⟩
        case measure => simp [intOf]; omega
      · rw [hb] at hS HC
        go_wp2_with (fail)
        refine HC.out.mono ?_
        rintro e w' ⟨rfl, rfl⟩
        go_wp2
        go_ret
        exact ⟨ret_int (by rw [firstI_some hlt hS.out hH.out]), rfl⟩
    · obtain rfl : k = n := by omega
      go_wp2
      go_ret
      exact ⟨ret_int (by rw [firstI_none hH.out]), rfl⟩


theorem containsFunc_isWord (L B : Nat) (A : Option Addr) (c n : Nat) (xs : List Int) (w : World) (hl : n ≤ 1048576) (hxn : xs.length = n) (hx : IS w L B A xs) :
    Calls Try.prog 112 #[.slice A n c, .func (.func 178) #[] #[]] w fun e w' => e = .returned (.bool (decide (0 ≤ firstI (fun i => isW (xs.getD i 0)) n))) ∧ w = w' := by
  have H := Lib.hid (indexFunc_isWord L B A c n xs w hl hxn hx)
  clear hxn hx
  generalize firstI (fun i => isW (xs.getD i 0)) n = r at *
  go_enter Try.func112, Try.ntmps112
  go_wp2_with (fail)
  refine H.out.mono ?_
  rintro e w' ⟨rfl, rfl⟩
  go_wp2
  go_ret
  exact ⟨ret_bool (by simp), rfl⟩

set_option maxHeartbeats 1000000 in
theorem slEqual_any (L B L' B' : Nat) (A A' : Option Addr) (c c' n : Nat) (xs ys : List Int) (w : World) (hl : n ≤ 1048576) (hxn : xs.length = n) (hyn : ys.length = n) (hx : IS w L B A xs) (hy : IS w L' B' A' ys) (hB : B ≤ w.heap.size) (hB' : B' ≤ w.heap.size) :
    Calls Try.prog 170 #[.slice A n c, .slice A' n c'] w fun e w' => e = .returned (.bool (decide (firstI (neI xs ys) n < 0))) ∧ Below w.heap.size w w' := by
  have hX := Lib.hid hx
  have hY := Lib.hid hy
  have hXN := Lib.hid hxn
  have hYN := Lib.hid hyn
  have hBB := Lib.hid hB
  have hBB' := Lib.hid hB'
  have hBel0 := Below.refl w.heap.size w
  clear hx hy hB hB' hxn hyn
  go_enter Try.func170, Try.ntmps170
  go_wp2
  go_loopw [5, 13] (fun _ i wr => ∃ k : Nat, k ≤ n ∧ i = .int .i64 k ∧ (∀ j, j < k → neI xs ys j = false) ∧ Below w.heap.size w wr) (fun _ i _ => n - (intOf i).toNat)
  case atStart => exact ⟨0, Nat.zero_le _, rfl, fun j hj => absurd hj (Nat.not_lt_zero _), hBel0⟩
  case round =>
    obtain ⟨k, hk, rfl, hh, hbel⟩ := hrel
    have hH := Lib.hid hh; clear hh
    by_cases hlt : k < n
    · have hkx : k < xs.length := by rw [hXN.out]; exact hlt
      have hky : k < ys.length := by rw [hYN.out]; exact hlt
      obtain ⟨b, o, rfl, ⟨_, hbB⟩, hc⟩ := (hX.out.below hbel hBB.out) (by rw [hXN.out]; omega)
      obtain ⟨b', o', rfl, ⟨_, hbB'⟩, hc'⟩ := (hY.out.below hbel hBB'.out) (by rw [hYN.out]; omega)
      have c1 := hc k hkx
      have d1 := hc' k hky
      have hS : Hid (neI xs ys k = (xs[k] != ys[k])) := by unfold Hid neI; rw [getD_get hkx, getD_get hky]
      clear hc hc'
      generalize hgx : xs[k] = x at *
      generalize hgy : ys[k] = y at *
      clear hgx hgy hkx hky
      have hBelB := Lib.hid (hbel.drew)
      have i1 : (k : Int) < (n : Int) := by omega
      have i0 : (0 : Int) ≤ (k : Int) := by omega
      cases hb : (x != y)
      all_goals
        go_wp2_with (fail)
        go_still_tail 8, (by kernel_rfl)
        change wpList _ _ _ _ _ wr.drew
        generalize wr.drew = wd at *
        clear hbel c1 d1
        go_wp2
      · go_roundw
        case rel => exact ⟨k + 1, by omega, by go_num, fun j hj => by
          by_cases e : j = k
          · rw [e, hS.out]; exact hb
          · exact hH.out j (by omega), hBelB.out⟩
        case measure => simp [intOf]; omega
      · go_ret
        refine ⟨ret_bool ?_, hBelB.out⟩
        rw [firstI_some hlt (by rw [hS.out]; exact hb) hH.out]; simp
    · obtain rfl : k = n := by omega
      go_wp2
      go_ret
      exact ⟨ret_bool (by rw [firstI_none hH.out]; rfl), hbel⟩
end Go.Proofs.Ytgcbfiamhpfkhaa

/- Covers laid from the root back, plain. -/
namespace Go.Proofs.Ytgcbfiamhpfkhaa
open Go.RowKit
set_option linter.unusedVariables false

def cvNext (es : List Nd) (nums : List Int) (k : Nat) (s : List Int × List Ti) : Option (List Int × List Ti) :=
  if s.1.getD k 0 = -2 then (tOf es (k : Int) (nums.getD k 0)).map (fun x => (layL s.1 k x, s.2 ++ [x])) else some s
def cvSt (es : List Nd) (nums : List Int) : Nat → Option (List Int × List Ti)
  | 0 => some (opn es.length, [])
  | j + 1 => (cvSt es nums j).bind (cvNext es nums (es.length - 1 - j))
theorem layL_len (xs : List Int) (k : Nat) (x : Ti) : (layL xs k x).length = xs.length := layTo_len _ _ _ _ _
theorem cvSt_len {es : List Nd} {nums : List Int} : ∀ {j : Nat} {cs : List Int} {out : List Ti}, cvSt es nums j = some (cs, out) → cs.length = es.length ∧ out.length ≤ j
  | 0, cs, out, h => by simp only [cvSt, Option.some.injEq, Prod.mk.injEq] at h; obtain ⟨rfl, rfl⟩ := h; exact ⟨opn_len _, by simp⟩
  | j + 1, cs, out, h => by
    simp only [cvSt] at h
    rw [Option.bind_eq_some_iff] at h
    obtain ⟨⟨cs0, out0⟩, h0, h1⟩ := h
    have ih := cvSt_len h0
    unfold cvNext at h1
    split at h1
    · rw [Option.map_eq_some_iff] at h1
      obtain ⟨x, _, hx⟩ := h1
      injection hx with e1 e2
      subst e1; subst e2
      exact ⟨by rw [layL_len]; exact ih.1, by simp; omega⟩
    · injection h1 with h1; injection h1 with e1 e2
      subst e1; subst e2
      exact ⟨ih.1, by omega⟩
theorem cvSt_skip {es : List Nd} {nums : List Int} {j : Nat} {cs : List Int} {out : List Ti} (h : cvSt es nums j = some (cs, out)) (hc : cs.getD (es.length - 1 - j) 0 ≠ -2) : cvSt es nums (j + 1) = some (cs, out) := by
  simp only [cvSt]; rw [h]; simp only [Option.bind_some]; unfold cvNext; rw [if_neg hc]
theorem cvSt_lay {es : List Nd} {nums : List Int} {j : Nat} {cs : List Int} {out : List Ti} {x : Ti} (h : cvSt es nums j = some (cs, out)) (hc : cs.getD (es.length - 1 - j) 0 = -2) (hx : tOf es ((es.length - 1 - j : Nat) : Int) (nums.getD (es.length - 1 - j) 0) = some x) : cvSt es nums (j + 1) = some (layL cs (es.length - 1 - j) x, out ++ [x]) := by
  simp only [cvSt]; rw [h]; simp only [Option.bind_some]; unfold cvNext; rw [if_pos hc, hx]; rfl
theorem cvSt_fail {es : List Nd} {nums : List Int} {j : Nat} {cs : List Int} {out : List Ti} (h : cvSt es nums j = some (cs, out)) (hc : cs.getD (es.length - 1 - j) 0 = -2) (hx : tOf es ((es.length - 1 - j : Nat) : Int) (nums.getD (es.length - 1 - j) 0) = none) : cvSt es nums (j + 1) = none := by
  simp only [cvSt]; rw [h]; simp only [Option.bind_some]; unfold cvNext; rw [if_pos hc, hx]; rfl
theorem cvSt_none {es : List Nd} {nums : List Int} {j : Nat} (h : cvSt es nums j = none) : ∀ m, j ≤ m → cvSt es nums m = none := by
  intro m hm
  obtain ⟨d, rfl⟩ := Nat.exists_eq_add_of_le hm
  induction d with
  | zero => exact h
  | succ d ih => show (cvSt es nums (j + d)).bind _ = none; rw [ih (by omega)]; rfl
/-- The tiles of a cover, or none. -/
def tocR (es : List Nd) (nums : List Int) : Option (List Ti) :=
  if treeR es = true ∧ nums.length = es.length then (match cvSt es nums es.length with | some (cs, out) => if cs = nums then some out else none | none => none) else none
theorem tOf_ps {es : List Nd} {k : Nat} {t : Int} {x : Ti} (h : tOf es (k : Int) t = some x) : (∀ p ∈ x.ps, 0 ≤ p ∧ p < (k : Int)) ∧ x.ps.length ≤ 2 ∧ 0 ≤ x.num ∧ x.num ≤ 12 := by
  have hk : tokR es (k : Int) t = true := by unfold tokR; rw [h]; rfl
  obtain ⟨j, n, hj, e1, e2, hn, hok, hl, hm⟩ := tok_parts hk
  have : k = j := by omega
  subst this
  rw [h] at hm
  have hm' := hm.symm
  exact ⟨mt_ps hok hj hm', (mt_len hm').1, by rw [mt_num hm']; omega, by rw [mt_num hm']; omega⟩
theorem tocR_len {es : List Nd} {nums : List Int} {out : List Ti} (h : tocR es nums = some out) : out.length ≤ 24 := by
  unfold tocR at h
  split at h
  · rename_i ht
    have hl : es.length ≤ 24 := by have := ht.1; unfold treeR at this; simp only [Bool.and_eq_true] at this; exact (good_len this.1).2.1
    cases hc : cvSt es nums es.length with
    | none => rw [hc] at h; cases h
    | some s =>
      obtain ⟨cs, o⟩ := s
      rw [hc] at h
      simp only at h
      split at h
      · injection h with h; subst h; have := (cvSt_len hc).2; omega
      · cases h
  · cases h

/-- The state when some rounds have been. -/
def stF (es : List Nd) (nums : List Int) (pre : List (Bw es)) : Option (List Int × List Ti) := pre.foldl (fun o x => o.bind (cvNext es nums x.1.1)) (some (opn es.length, []))
theorem stF_nil (es : List Nd) (nums : List Int) : stF es nums [] = some (opn es.length, []) := rfl
theorem stF_snoc (es : List Nd) (nums : List Int) (pre : List (Bw es)) (x : Bw es) : stF es nums (pre ++ [x]) = (stF es nums pre).bind (cvNext es nums x.1.1) := by
  unfold stF; rw [List.foldl_append]; rfl
theorem stF_upto (es : List Nd) (nums : List Int) (h : 1 ≤ es.length) : ∀ k, stF es nums (uptoB (bwF es h) k) = cvSt es nums k
  | 0 => rfl
  | k + 1 => by rw [uptoB_succ, stF_snoc, stF_upto es nums h k]; rfl
theorem cvNext_len {es : List Nd} {nums : List Int} {k : Nat} {s s' : List Int × List Ti} (h : cvNext es nums k s = some s') : s'.1.length = s.1.length ∧ s'.2.length ≤ s.2.length + 1 := by
  unfold cvNext at h
  split at h
  · rw [Option.map_eq_some_iff] at h
    obtain ⟨x, _, hx⟩ := h
    subst hx
    exact ⟨layL_len _ _ _, by simp⟩
  · injection h with h; subst h; exact ⟨rfl, by omega⟩
theorem stF_len {es : List Nd} {nums : List Int} (pre : List (Bw es)) : ∀ {cs : List Int} {out : List Ti}, stF es nums pre = some (cs, out) → cs.length = es.length ∧ out.length ≤ pre.length := by
  generalize hn : pre.length = n
  induction n generalizing pre with
  | zero =>
    obtain rfl : pre = [] := List.eq_nil_of_length_eq_zero hn
    intro cs out h
    rw [stF_nil] at h
    injection h with h; injection h with e1 e2
    subst e1; subst e2
    exact ⟨opn_len _, by simp⟩
  | succ n ih =>
    obtain ⟨x, p2, hp⟩ : ∃ x p2, pre = p2 ++ [x] := ⟨pre.getLast (by intro e; rw [e] at hn; cases hn), pre.dropLast, (List.dropLast_concat_getLast _).symm⟩
    subst hp
    intro cs out h
    rw [stF_snoc, Option.bind_eq_some_iff] at h
    obtain ⟨⟨cs0, out0⟩, h0, h1⟩ := h
    have h2 := ih p2 (by simpa using hn) h0
    have h3 := cvNext_len h1
    simp only at h3
    exact ⟨by rw [h3.1]; exact h2.1, by omega⟩
theorem stF_skip {es : List Nd} {nums : List Int} {pre : List (Bw es)} {cs : List Int} {out : List Ti} (h : stF es nums pre = some (cs, out)) (x : Bw es) (hc : cs.getD x.1.1 0 ≠ -2) : stF es nums (pre ++ [x]) = some (cs, out) := by
  rw [stF_snoc, h]; simp only [Option.bind_some]; unfold cvNext; rw [if_neg hc]
theorem stF_lay {es : List Nd} {nums : List Int} {pre : List (Bw es)} {cs : List Int} {out : List Ti} (h : stF es nums pre = some (cs, out)) (x : Bw es) (hc : cs.getD x.1.1 0 = -2) {y : Ti} (hx : tOf es (x.1.1 : Int) (nums.getD x.1.1 0) = some y) : stF es nums (pre ++ [x]) = some (layL cs x.1.1 y, out ++ [y]) := by
  rw [stF_snoc, h]; simp only [Option.bind_some]; unfold cvNext; rw [if_pos hc, hx]; rfl
theorem stF_fail {es : List Nd} {nums : List Int} {pre : List (Bw es)} {cs : List Int} {out : List Ti} (h : stF es nums pre = some (cs, out)) (x : Bw es) (hc : cs.getD x.1.1 0 = -2) (hx : tOf es (x.1.1 : Int) (nums.getD x.1.1 0) = none) : stF es nums (pre ++ [x]) = none := by
  rw [stF_snoc, h]; simp only [Option.bind_some]; unfold cvNext; rw [if_pos hc, hx]; rfl

theorem BX.chg {w w' : World} {b lo hi : Nat} {t : TypeId} {v : Value} (h : BX w b t v) (hc : Chg lo hi w w') (hd : b < lo ∨ hi ≤ b) : BX w' b t v := (hc.block b h.lt hd).trans h
end Go.Proofs.Ytgcbfiamhpfkhaa
