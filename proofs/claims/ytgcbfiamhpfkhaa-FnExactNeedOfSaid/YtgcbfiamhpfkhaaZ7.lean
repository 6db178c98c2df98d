/- Texts of this proof, one behind the other: TG, TI, TJ, TK, GE, GH. -/
import Derived.Test.YtgcbfiamhpfkhaaZ8
import Derived.Test.YtgcbfiamhpfkhaaLI
import Derived.Test.YtgcbfiamhpfkhaaA
import Derived.WalkKit
import Derived.WalkSpells
import Derived.WalkLawsBesides
import Derived.StillTailTactics
import Derived.Deep.QuietTactic
import Derived.BigQuiet
import Derived.Lib.Hide
import Derived.Lib.JoinLaws
import Derived.Test.YtgcbfiamhpfkhaaZ9
/- The program's helpers of chapter 3 over tables. -/
namespace Go.Proofs.Ytgcbfiamhpfkhaa
open Go.RowKit
set_option linter.unusedVariables false
set_option maxRecDepth 100000

end Go.Proofs.Ytgcbfiamhpfkhaa

/- Tables made by a function value, at each of its types. -/
namespace Go.Proofs.Ytgcbfiamhpfkhaa
open Go.RowKit
set_option linter.unusedVariables false
set_option maxRecDepth 100000

/-- What a table made by a function leaves. -/
def TabIs (N : Nat) (Inv : World → Prop) (w : World) (xs : List Int) (e : Ending) (w' : World) : Prop :=
  ∃ A c, e = .returned (.slice A 4096 c) ∧ OW w' w.heap.size w'.heap.size (.slice A 4096 c) xs ∧ Below N w w' ∧ Inv w'
/-- A method that tells a word for two inputs. -/
def Tells (N : Nat) (Inv : World → Prop) (w : World) (g : Nat) (xv : Value) (f : Int → Int → Int) : Prop :=
  ∀ (x0 x1 : Nat) (W : World), x0 < 64 → x1 < 64 → Below N w W → w.heap.size ≤ W.heap.size → Inv W → Calls Try.prog g #[xv, .int .i64 x0, .int .i64 x1] W fun e W' =>
    e = .returned (.int .i64 (f x0 x1)) ∧ Inv W' ∧ ∃ row, W.grownBy W' row ∧ ∀ k, row = some k → N ≤ k ∧ k < w.heap.size


end Go.Proofs.Ytgcbfiamhpfkhaa

/- What the methods tell, and the library's functions over lists of ints. -/
namespace Go.Proofs.Ytgcbfiamhpfkhaa
open Go.RowKit
set_option linter.unusedVariables false
set_option maxRecDepth 100000

theorem two_cells (w : World) (a b : Value) (t : TypeId) : (w.alloc (.cells #[a, b] t)).cell? ⟨w.heap.size, 0, none⟩ = some a ∧ (w.alloc (.cells #[a, b] t)).cell? ⟨w.heap.size, 1, none⟩ = some b := by
  have h := fun i => cell_of_row _ w.heap.size i #[a, b] t (0, 0) (heap_alloc_new w _)
  exact ⟨h 0, h 1⟩

end Go.Proofs.Ytgcbfiamhpfkhaa

/- slices' functions over lists of ints; the program's lists of differences and of changing words. -/
namespace Go.Proofs.Ytgcbfiamhpfkhaa
open Go.RowKit
set_option linter.unusedVariables false
set_option maxRecDepth 100000

set_option maxHeartbeats 1000000 in
theorem indexFunc_isWord (L B : Nat) (A : Option Addr) (c n : Nat) (xs : List Int) (w : World) (hl : n ≤ 1048576) (hxn : xs.length = n) (hx : IS w L B A xs) :
    Calls Try.prog 159 #[.slice A n c, .func (.func 178) #[] #[]] w fun e w' => e = .returned (.int .i64 (firstI (fun i => isW (xs.getD i 0)) n)) ∧ w = w' := by
  have hX := Lib.hid hx
  have hXN := Lib.hid hxn
  obtain ⟨P, hPd⟩ : ∃ P : Nat → Bool, P = fun i => isW (xs.getD i 0) := ⟨_, rfl⟩
  rw [← hPd]
  have hPH := Lib.hid hPd
  clear hx hxn hPd
  go_enter Try.func159, Try.ntmps159
  go_wp2
  go_loop [5, 8] (fun _ i => ∃ k : Nat, k ≤ n ∧ i = .int .i64 k ∧ ∀ j, j < k → P j = false) (fun _ i => n - (intOf i).toNat)
  case atStart => exact ⟨0, Nat.zero_le _, rfl, fun j hj => absurd hj (Nat.not_lt_zero _)⟩
  case round =>
    obtain ⟨k, hk, rfl, hh⟩ := hrel
    have hH := Lib.hid hh; clear hh
    by_cases hlt : k < n
    · have hkx : k < xs.length := by rw [hXN.out]; exact hlt
      obtain ⟨b, o, rfl, _, hc⟩ := hX.out (by rw [hXN.out]; omega)
      have c1 := hc k hkx
      have hS : Hid (P k = (isW xs[k])) := by unfold Hid; rw [hPH.out]; show (isW (xs.getD k 0)) = _; rw [getD_get hkx]
      clear hc
      generalize hgx : xs[k] = x at *
      clear hgx hkx
      have HC := Lib.hid (isWord_any x w)
      cases hb : (isW (x))
      · rw [hb] at hS HC
        go_wp2_with (fail)
        refine HC.out.mono ?_
        rintro e w' ⟨rfl, rfl⟩
        go_wp2
        go_round
        case rel => exact ⟨k + 1, by omega, by go_num, fun j hj => by
          by_cases e : j = k
          · rw [e]; exact hS.out
          · exact hH.out j (by omega)⟩
        case measure => simp [intOf]; omega
      · rw [hb] at hS HC
        go_wp2_with (fail)
        refine HC.out.mono ?_
        rintro e w' ⟨rfl, rfl⟩
        go_wp2
        go_ret
        exact ⟨ret_int (by rw [firstI_some hlt hS.out hH.out]), rfl⟩
    · obtain rfl : k = n := by omega
      go_wp2
      go_ret
      exact ⟨ret_int (by rw [firstI_none hH.out]), rfl⟩


theorem containsFunc_isWord (L B : Nat) (A : Option Addr) (c n : Nat) (xs : List Int) (w : World) (hl : n ≤ 1048576) (hxn : xs.length = n) (hx : IS w L B A xs) :
    Calls Try.prog 112 #[.slice A n c, .func (.func 178) #[] #[]] w fun e w' => e = .returned (.bool (decide (0 ≤ firstI (fun i => isW (xs.getD i 0)) n))) ∧ w = w' := by
  have H := Lib.hid (indexFunc_isWord L B A c n xs w hl hxn hx)
  clear hxn hx
  generalize firstI (fun i => isW (xs.getD i 0)) n = r at *
  go_enter Try.func112, Try.ntmps112
  go_wp2_with (fail)
  refine H.out.mono ?_
  rintro e w' ⟨rfl, rfl⟩
  go_wp2
  go_ret
  exact ⟨ret_bool (by simp), rfl⟩

set_option maxHeartbeats 1000000 in
theorem slEqual_any (L B L' B' : Nat) (A A' : Option Addr) (c c' n : Nat) (xs ys : List Int) (w : World) (hl : n ≤ 1048576) (hxn : xs.length = n) (hyn : ys.length = n) (hx : IS w L B A xs) (hy : IS w L' B' A' ys) (hB : B ≤ w.heap.size) (hB' : B' ≤ w.heap.size) :
    Calls Try.prog 170 #[.slice A n c, .slice A' n c'] w fun e w' => e = .returned (.bool (decide (firstI (neI xs ys) n < 0))) ∧ Below w.heap.size w w' := by
  have hX := Lib.hid hx
  have hY := Lib.hid hy
  have hXN := Lib.hid hxn
  have hYN := Lib.hid hyn
  have hBB := Lib.hid hB
  have hBB' := Lib.hid hB'
  have hBel0 := Below.refl w.heap.size w
  clear hx hy hB hB' hxn hyn
  go_enter Try.func170, Try.ntmps170
  go_wp2
  go_loopw [5, 13] (fun _ i wr => ∃ k : Nat, k ≤ n ∧ i = .int .i64 k ∧ (∀ j, j < k → neI xs ys j = false) ∧ Below w.heap.size w wr) (fun _ i _ => n - (intOf i).toNat)
  case atStart => exact ⟨0, Nat.zero_le _, rfl, fun j hj => absurd hj (Nat.not_lt_zero _), hBel0⟩
  case round =>
    obtain ⟨k, hk, rfl, hh, hbel⟩ := hrel
    have hH := Lib.hid hh; clear hh
    by_cases hlt : k < n
    · have hkx : k < xs.length := by rw [hXN.out]; exact hlt
      have hky : k < ys.length := by rw [hYN.out]; exact hlt
      obtain ⟨b, o, rfl, ⟨_, hbB⟩, hc⟩ := (hX.out.below hbel hBB.out) (by rw [hXN.out]; omega)
      obtain ⟨b', o', rfl, ⟨_, hbB'⟩, hc'⟩ := (hY.out.below hbel hBB'.out) (by rw [hYN.out]; omega)
      have c1 := hc k hkx
      have d1 := hc' k hky
      have hS : Hid (neI xs ys k = (xs[k] != ys[k])) := by unfold Hid neI; rw [getD_get hkx, getD_get hky]
      clear hc hc'
      generalize hgx : xs[k] = x at *
      generalize hgy : ys[k] = y at *
      clear hgx hgy hkx hky
      have hBelB := Lib.hid (hbel.drew)
      have i1 : (k : Int) < (n : Int) := by omega
      have i0 : (0 : Int) ≤ (k : Int) := by omega
      cases hb : (x != y)
      all_goals
        go_wp2_with (fail)
        go_still_tail 8, (by kernel_rfl)
        change wpList _ _ _ _ _ wr.drew
        generalize wr.drew = wd at *
        clear hbel c1 d1
        go_wp2
      · go_roundw
        case rel => exact ⟨k + 1, by omega, by go_num, fun j hj => by
          by_cases e : j = k
          · rw [e, hS.out]; exact hb
          · exact hH.out j (by omega), hBelB.out⟩
        case measure => simp [intOf]; omega
      · go_ret
        refine ⟨ret_bool ?_, hBelB.out⟩
        rw [firstI_some hlt (by rw [hS.out]; exact hb) hH.out]; simp
    · obtain rfl : k = n := by omega
      go_wp2
      go_ret
      exact ⟨ret_bool (by rw [firstI_none hH.out]; rfl), hbel⟩
end Go.Proofs.Ytgcbfiamhpfkhaa

/- Covers laid from the root back, plain. -/
namespace Go.Proofs.Ytgcbfiamhpfkhaa
open Go.RowKit
set_option linter.unusedVariables false

def cvNext (es : List Nd) (nums : List Int) (k : Nat) (s : List Int × List Ti) : Option (List Int × List Ti) :=
  if s.1.getD k 0 = -2 then (tOf es (k : Int) (nums.getD k 0)).map (fun x => (layL s.1 k x, s.2 ++ [x])) else some s
def cvSt (es : List Nd) (nums : List Int) : Nat → Option (List Int × List Ti)
  | 0 => some (opn es.length, [])
  | j + 1 => (cvSt es nums j).bind (cvNext es nums (es.length - 1 - j))
theorem layL_len (xs : List Int) (k : Nat) (x : Ti) : (layL xs k x).length = xs.length := layTo_len _ _ _ _ _
theorem cvSt_len {es : List Nd} {nums : List Int} : ∀ {j : Nat} {cs : List Int} {out : List Ti}, cvSt es nums j = some (cs, out) → cs.length = es.length ∧ out.length ≤ j
  | 0, cs, out, h => by simp only [cvSt, Option.some.injEq, Prod.mk.injEq] at h; obtain ⟨rfl, rfl⟩ := h; exact ⟨opn_len _, by simp⟩
  | j + 1, cs, out, h => by
    simp only [cvSt] at h
    rw [Option.bind_eq_some_iff] at h
    obtain ⟨⟨cs0, out0⟩, h0, h1⟩ := h
    have ih := cvSt_len h0
    unfold cvNext at h1
    split at h1
    · rw [Option.map_eq_some_iff] at h1
      obtain ⟨x, _, hx⟩ := h1
      injection hx with e1 e2
      subst e1; subst e2
      exact ⟨by rw [layL_len]; exact ih.1, by simp; omega⟩
    · injection h1 with h1; injection h1 with e1 e2
      subst e1; subst e2
      exact ⟨ih.1, by omega⟩
theorem cvSt_skip {es : List Nd} {nums : List Int} {j : Nat} {cs : List Int} {out : List Ti} (h : cvSt es nums j = some (cs, out)) (hc : cs.getD (es.length - 1 - j) 0 ≠ -2) : cvSt es nums (j + 1) = some (cs, out) := by
  simp only [cvSt]; rw [h]; simp only [Option.bind_some]; unfold cvNext; rw [if_neg hc]
theorem cvSt_lay {es : List Nd} {nums : List Int} {j : Nat} {cs : List Int} {out : List Ti} {x : Ti} (h : cvSt es nums j = some (cs, out)) (hc : cs.getD (es.length - 1 - j) 0 = -2) (hx : tOf es ((es.length - 1 - j : Nat) : Int) (nums.getD (es.length - 1 - j) 0) = some x) : cvSt es nums (j + 1) = some (layL cs (es.length - 1 - j) x, out ++ [x]) := by
  simp only [cvSt]; rw [h]; simp only [Option.bind_some]; unfold cvNext; rw [if_pos hc, hx]; rfl
theorem cvSt_fail {es : List Nd} {nums : List Int} {j : Nat} {cs : List Int} {out : List Ti} (h : cvSt es nums j = some (cs, out)) (hc : cs.getD (es.length - 1 - j) 0 = -2) (hx : tOf es ((es.length - 1 - j : Nat) : Int) (nums.getD (es.length - 1 - j) 0) = none) : cvSt es nums (j + 1) = none := by
  simp only [cvSt]; rw [h]; simp only [Option.bind_some]; unfold cvNext; rw [if_pos hc, hx]; rfl
theorem cvSt_none {es : List Nd} {nums : List Int} {j : Nat} (h : cvSt es nums j = none) : ∀ m, j ≤ m → cvSt es nums m = none := by
  intro m hm
  obtain ⟨d, rfl⟩ := Nat.exists_eq_add_of_le hm
  induction d with
  | zero => exact h
  | succ d ih => show (cvSt es nums (j + d)).bind _ = none; rw [ih (by omega)]; rfl
/-- The tiles of a cover, or none. -/
def tocR (es : List Nd) (nums : List Int) : Option (List Ti) :=
  if treeR es = true ∧ nums.length = es.length then (match cvSt es nums es.length with | some (cs, out) => if cs = nums then some out else none | none => none) else none
theorem tOf_ps {es : List Nd} {k : Nat} {t : Int} {x : Ti} (h : tOf es (k : Int) t = some x) : (∀ p ∈ x.ps, 0 ≤ p ∧ p < (k : Int)) ∧ x.ps.length ≤ 2 ∧ 0 ≤ x.num ∧ x.num ≤ 12 := by
  have hk : tokR es (k : Int) t = true := by unfold tokR; rw [h]; rfl
  obtain ⟨j, n, hj, e1, e2, hn, hok, hl, hm⟩ := tok_parts hk
  have : k = j := by omega
  subst this
  rw [h] at hm
  have hm' := hm.symm
  exact ⟨mt_ps hok hj hm', (mt_len hm').1, by rw [mt_num hm']; omega, by rw [mt_num hm']; omega⟩
theorem tocR_len {es : List Nd} {nums : List Int} {out : List Ti} (h : tocR es nums = some out) : out.length ≤ 24 := by
  unfold tocR at h
  split at h
  · rename_i ht
    have hl : es.length ≤ 24 := by have := ht.1; unfold treeR at this; simp only [Bool.and_eq_true] at this; exact (good_len this.1).2.1
    cases hc : cvSt es nums es.length with
    | none => rw [hc] at h; cases h
    | some s =>
      obtain ⟨cs, o⟩ := s
      rw [hc] at h
      simp only at h
      split at h
      · injection h with h; subst h; have := (cvSt_len hc).2; omega
      · cases h
  · cases h

/-- The state when some rounds have been. -/
def stF (es : List Nd) (nums : List Int) (pre : List (Bw es)) : Option (List Int × List Ti) := pre.foldl (fun o x => o.bind (cvNext es nums x.1.1)) (some (opn es.length, []))
theorem stF_nil (es : List Nd) (nums : List Int) : stF es nums [] = some (opn es.length, []) := rfl
theorem stF_snoc (es : List Nd) (nums : List Int) (pre : List (Bw es)) (x : Bw es) : stF es nums (pre ++ [x]) = (stF es nums pre).bind (cvNext es nums x.1.1) := by
  unfold stF; rw [List.foldl_append]; rfl
theorem stF_upto (es : List Nd) (nums : List Int) (h : 1 ≤ es.length) : ∀ k, stF es nums (uptoB (bwF es h) k) = cvSt es nums k
  | 0 => rfl
  | k + 1 => by rw [uptoB_succ, stF_snoc, stF_upto es nums h k]; rfl
theorem cvNext_len {es : List Nd} {nums : List Int} {k : Nat} {s s' : List Int × List Ti} (h : cvNext es nums k s = some s') : s'.1.length = s.1.length ∧ s'.2.length ≤ s.2.length + 1 := by
  unfold cvNext at h
  split at h
  · rw [Option.map_eq_some_iff] at h
    obtain ⟨x, _, hx⟩ := h
    subst hx
    exact ⟨layL_len _ _ _, by simp⟩
  · injection h with h; subst h; exact ⟨rfl, by omega⟩
theorem stF_len {es : List Nd} {nums : List Int} (pre : List (Bw es)) : ∀ {cs : List Int} {out : List Ti}, stF es nums pre = some (cs, out) → cs.length = es.length ∧ out.length ≤ pre.length := by
  generalize hn : pre.length = n
  induction n generalizing pre with
  | zero =>
    obtain rfl : pre = [] := List.eq_nil_of_length_eq_zero hn
    intro cs out h
    rw [stF_nil] at h
    injection h with h; injection h with e1 e2
    subst e1; subst e2
    exact ⟨opn_len _, by simp⟩
  | succ n ih =>
    obtain ⟨x, p2, hp⟩ : ∃ x p2, pre = p2 ++ [x] := ⟨pre.getLast (by intro e; rw [e] at hn; cases hn), pre.dropLast, (List.dropLast_concat_getLast _).symm⟩
    subst hp
    intro cs out h
    rw [stF_snoc, Option.bind_eq_some_iff] at h
    obtain ⟨⟨cs0, out0⟩, h0, h1⟩ := h
    have h2 := ih p2 (by simpa using hn) h0
    have h3 := cvNext_len h1
    simp only at h3
    exact ⟨by rw [h3.1]; exact h2.1, by omega⟩
theorem stF_skip {es : List Nd} {nums : List Int} {pre : List (Bw es)} {cs : List Int} {out : List Ti} (h : stF es nums pre = some (cs, out)) (x : Bw es) (hc : cs.getD x.1.1 0 ≠ -2) : stF es nums (pre ++ [x]) = some (cs, out) := by
  rw [stF_snoc, h]; simp only [Option.bind_some]; unfold cvNext; rw [if_neg hc]
theorem stF_lay {es : List Nd} {nums : List Int} {pre : List (Bw es)} {cs : List Int} {out : List Ti} (h : stF es nums pre = some (cs, out)) (x : Bw es) (hc : cs.getD x.1.1 0 = -2) {y : Ti} (hx : tOf es (x.1.1 : Int) (nums.getD x.1.1 0) = some y) : stF es nums (pre ++ [x]) = some (layL cs x.1.1 y, out ++ [y]) := by
  rw [stF_snoc, h]; simp only [Option.bind_some]; unfold cvNext; rw [if_pos hc, hx]; rfl
theorem stF_fail {es : List Nd} {nums : List Int} {pre : List (Bw es)} {cs : List Int} {out : List Ti} (h : stF es nums pre = some (cs, out)) (x : Bw es) (hc : cs.getD x.1.1 0 = -2) (hx : tOf es (x.1.1 : Int) (nums.getD x.1.1 0) = none) : stF es nums (pre ++ [x]) = none := by
  rw [stF_snoc, h]; simp only [Option.bind_some]; unfold cvNext; rw [if_pos hc, hx]; rfl

theorem BX.chg {w w' : World} {b lo hi : Nat} {t : TypeId} {v : Value} (h : BX w b t v) (hc : Chg lo hi w w') (hd : b < lo ∨ hi ≤ b) : BX w' b t v := (hc.block b h.lt hd).trans h
end Go.Proofs.Ytgcbfiamhpfkhaa

/- A cover's tiles, told in order: plain. -/
namespace Go.Proofs.Ytgcbfiamhpfkhaa
open Go.RowKit
set_option linter.unusedVariables false

def sumK (ts : List Ti) : Int := (ts.map Ti.c).sum
theorem sumK_snoc (ts : List Ti) (x : Ti) : sumK (ts ++ [x]) = sumK ts + x.c := by simp [sumK]
def usesL (ts : List Ti) : List Int := (List.range 13 : List Nat).map (fun (t : Nat) => ((ts.countP (fun x => x.num == (t : Int)) : Nat) : Int))
theorem usesL_len (ts : List Ti) : (usesL ts).length = 13 := by simp [usesL]
theorem usesL_get (ts : List Ti) {t : Nat} (h : t < 13) : (usesL ts).getD t 0 = ((ts.countP (fun x => x.num == (t : Int)) : Nat) : Int) := by
  rw [List.getD_eq_getElem?_getD, List.getElem?_eq_getElem (by simp [usesL]; exact h)]; simp [usesL]
theorem usesL_bd (ts : List Ti) (t : Nat) : 0 ≤ (usesL ts).getD t 0 ∧ (usesL ts).getD t 0 ≤ ts.length := by
  by_cases h : t < 13
  · rw [usesL_get ts h]; have := List.countP_le_length (p := fun x : Ti => x.num == (t : Int)) (l := ts); omega
  · rw [List.getD_eq_getElem?_getD, List.getElem?_eq_none (by simp [usesL]; omega)]; simp
theorem usesL_nil : usesL [] = List.replicate 13 0 := by decide
theorem usesL_snoc (ts : List Ti) (x : Ti) {t : Nat} (ht : x.num = (t : Int)) (h : t < 13) : usesL (ts ++ [x]) = (usesL ts).set t ((usesL ts).getD t 0 + 1) := by
  refine List.ext_getElem (by simp [usesL]) fun i h1 h2 => ?_
  have hi : i < 13 := by simpa [usesL] using h1
  rw [List.getElem_set]
  have e : ∀ l : List Ti, ∀ hh, (usesL l)[i]'hh = ((l.countP (fun x => x.num == (i : Int)) : Nat) : Int) := by intro l hh; simp [usesL]
  rw [e, e, usesL_get _ h, List.countP_append]
  by_cases hti : t = i
  · subst hti; rw [if_pos rfl]; simp [ht]
  · rw [if_neg hti]
    have : ¬ x.num = (i : Int) := by omega
    simp [this]
theorem usesL_reverse (ts : List Ti) : usesL ts.reverse = usesL ts := by simp [usesL]
theorem sumK_reverse (ts : List Ti) : sumK ts.reverse = sumK ts := by
  induction ts with
  | nil => rfl
  | cons x ts ih => rw [List.reverse_cons, sumK_snoc, ih]; simp [sumK]; omega
def TiB (x : Ti) : Prop := 0 ≤ x.c ∧ x.c ≤ 4 ∧ 0 ≤ x.num ∧ x.num ≤ 12
theorem sumK_bd {ts : List Ti} (h : ∀ x ∈ ts, TiB x) : 0 ≤ sumK ts ∧ sumK ts ≤ 4 * ts.length := by
  induction ts with
  | nil => simp [sumK]
  | cons x ts ih =>
    have h1 := h x (by simp)
    have h2 := ih fun y hy => h y (by simp [hy])
    unfold TiB at h1
    simp only [sumK, List.map_cons, List.sum_cons, List.length_cons] at h2 ⊢
    omega
theorem ctN_bd (n : Nat) (nd : Nd) : 0 ≤ ctN n nd ∧ ctN n nd ≤ 4 := by
  have := cst_bd nd.op
  unfold ctN; split; · omega
  split <;> omega
theorem tOf_mt {es : List Nd} {k : Nat} {t : Int} {x : Ti} (h : tOf es (k : Int) t = some x) : ∃ n : Nat, ∃ hk : k < es.length, t = (n : Int) ∧ n < 13 ∧ mt es es[k] n = some x := by
  have hk : tokR es (k : Int) t = true := by unfold tokR; rw [h]; rfl
  obtain ⟨j, n, hj, e1, e2, hn, hok, hl, hm⟩ := tok_parts hk
  have : k = j := by omega
  subst this
  rw [h] at hm
  exact ⟨n, hj, e2, hn, hm.symm⟩
theorem tOf_num {es : List Nd} {k : Nat} {t : Int} {x : Ti} (h : tOf es (k : Int) t = some x) : x.num = t := by
  obtain ⟨n, hk, rfl, hn, hm⟩ := tOf_mt h
  exact mt_num hm
theorem tOf_bd {es : List Nd} {k : Nat} {t : Int} {x : Ti} (h : tOf es (k : Int) t = some x) : TiB x := by
  obtain ⟨n, hk, rfl, hn, hm⟩ := tOf_mt h
  have := ctN_bd n es[k]
  exact ⟨by rw [mt_c hm]; omega, by rw [mt_c hm]; omega, by rw [mt_num hm]; omega, by rw [mt_num hm]; omega⟩
theorem cvSt_bd {es : List Nd} {nums : List Int} : ∀ {j : Nat} {cs : List Int} {out : List Ti}, cvSt es nums j = some (cs, out) → ∀ x ∈ out, TiB x
  | 0, cs, out, h => by simp only [cvSt, Option.some.injEq, Prod.mk.injEq] at h; obtain ⟨rfl, rfl⟩ := h; intro x hx; simp at hx
  | j + 1, cs, out, h => by
    simp only [cvSt] at h
    rw [Option.bind_eq_some_iff] at h
    obtain ⟨⟨cs0, out0⟩, h0, h1⟩ := h
    have ih := cvSt_bd h0
    unfold cvNext at h1
    split at h1
    · rw [Option.map_eq_some_iff] at h1
      obtain ⟨x, hx0, hx⟩ := h1
      injection hx with e1 e2
      subst e1; subst e2
      intro y hy
      rcases List.mem_append.1 hy with hy | hy
      · exact ih y hy
      · simp at hy; subst hy; exact tOf_bd hx0
    · injection h1 with h1; injection h1 with e1 e2
      subst e1; subst e2
      exact ih
theorem tocR_bd (es : List Nd) (nums : List Int) : ∀ x ∈ (tocR es nums).getD [], TiB x := by
  unfold tocR
  split
  · cases hc : cvSt es nums es.length with
    | none => intro x hx; simp at hx
    | some s =>
      obtain ⟨cs, o⟩ := s
      simp only
      split
      · exact cvSt_bd hc
      · intro x hx; simp at hx
  · intro x hx; simp at hx
theorem tocR_len' (es : List Nd) (nums : List Int) : ((tocR es nums).getD []).length ≤ 24 := by
  cases h : tocR es nums with
  | none => simp
  | some out => exact tocR_len h
theorem sumK_take {ts : List Ti} (hb : ∀ x ∈ ts, TiB x) (hl : ts.length ≤ 24) {k : Nat} (hk : k < ts.length) : sumK (ts.take (k + 1)) = sumK (ts.take k) + ts[k].c ∧ 0 ≤ sumK (ts.take k) ∧ sumK (ts.take k) ≤ 96 ∧ TiB ts[k] := by
  have h1 := sumK_bd (ts := ts.take k) fun x hx => hb x (List.mem_of_mem_take hx)
  rw [List.length_take] at h1
  refine ⟨?_, h1.1, by omega, hb _ (List.getElem_mem _)⟩
  rw [List.take_succ_eq_append_getElem hk, sumK_snoc]
theorem usesL_take {ts : List Ti} (hb : ∀ x ∈ ts, TiB x) {k : Nat} (hk : k < ts.length) : usesL (ts.take (k + 1)) = (usesL (ts.take k)).set ts[k].num.toNat ((usesL (ts.take k)).getD ts[k].num.toNat 0 + 1) := by
  have h := hb _ (List.getElem_mem hk)
  unfold TiB at h
  rw [List.take_succ_eq_append_getElem hk]
  exact usesL_snoc _ _ (by omega) (by omega)
def ccostR (es : List Nd) (nums : List Int) : Int := sumK ((tocR es nums).getD [])
def tuseR (es : List Nd) (nums : List Int) : List Int := if (tocR es nums).isSome = true then usesL ((tocR es nums).getD []) else []
end Go.Proofs.Ytgcbfiamhpfkhaa
