/- Texts of this proof, one behind the other: TJ, TK, TL, RK, YF, YG. -/
import Derived.Test.YtieljgfocgdngaaTI
import Derived.WalkKit
import Derived.WalkSpells
import Derived.WalkLawsBesides
import Derived.StillTailTactics
import Derived.Deep.QuietTactic
import Derived.BigQuiet
import Derived.Lib.Hide
import Derived.Test.YtieljgfocgdngaaK4
import Derived.Test.YtieljgfocgdngaaZ4
import Derived.Test.YtieljgfocgdngaaYD
/- What the methods tell, and the library's functions over lists of ints. -/
namespace Go.Proofs.Ytieljgfocgdngaa
open Go.RowKit
set_option linter.unusedVariables false
set_option maxRecDepth 100000

theorem two_cells (w : World) (a b : Value) (t : TypeId) : (w.alloc (.cells #[a, b] t)).cell? ⟨w.heap.size, 0, none⟩ = some a ∧ (w.alloc (.cells #[a, b] t)).cell? ⟨w.heap.size, 1, none⟩ = some b := by
  have h := fun i => cell_of_row _ w.heap.size i #[a, b] t (0, 0) (heap_alloc_new w _)
  exact ⟨h 0, h 1⟩

set_option maxHeartbeats 2000000 in
theorem differentBits_any (L B L' B' : Nat) (A A' : Option Addr) (c c' n : Nat) (xs ys : List Int) (x0 x1 : Nat) (w : World) (hn : n = 4096) (hl : xs.length = n) (hl' : ys.length = n) (hx : IS w L B A xs) (hy : IS w L' B' A' ys) (hB : B ≤ w.heap.size) (hB' : B' ≤ w.heap.size) (h0 : x0 < 64) (h1 : x1 < 64) :
    Calls Try.prog 114 #[.agg #[.slice A n c, .slice A' n c'], .int .i64 x0, .int .i64 x1] w fun e w' => e = .returned (.int .i64 (bits .xor .i64 (xs.getD (64 * x0 + x1) 0) (ys.getD (64 * x0 + x1) 0))) ∧ Below w.heap.size w w' := by
  have HX := Lib.hid fun (W : World) (hW : Below w.heap.size w W) => at_any L B A c n xs x0 x1 W hn hl (hx.below hW hB) h0 h1
  have HY := Lib.hid fun (W : World) (hW : Below w.heap.size w W) => at_any L' B' A' c' n ys x0 x1 W hn hl' (hy.below hW hB') h0 h1
  have hb := Lib.hid ((Below.refl w.heap.size w).alloc (Nat.le_refl _) (.cells #[.slice A n c, .slice A' n c'] 120))
  clear hx hy hB hB' hl hl' hn
  generalize xs.getD (64 * x0 + x1) 0 = p at *
  generalize ys.getD (64 * x0 + x1) 0 = q at *
  obtain ⟨c0, c1⟩ := two_cells w (.slice A n c) (.slice A' n c') 120
  have hbd := Lib.hid hb.out.drew
  go_enter Try.func114, Try.ntmps114
  go_wp2_with (fail)
  generalize w.alloc (.cells #[.slice A n c, .slice A' n c'] 120) = W0 at *
  go_region_held3 (fun w' => w'.cell? ⟨w.heap.size, 0, none⟩ = some (.slice A n c) ∧ w'.cell? ⟨w.heap.size, 1, none⟩ = some (.slice A' n c'))
    (first | exact ⟨c0, c1⟩ | go_keep)
    ((first
      | (go_at_call 138; (with_reducible refine (HX.out _ hbd.out).mono ?_); rintro e w' ⟨rfl, rfl⟩)
      | (go_at_call 138; (with_reducible refine (HY.out _ hbd.out).mono ?_); rintro e w' ⟨rfl, rfl⟩)))
  all_goals
    go_wp2
    go_ret
    exact ⟨rfl, hbd.out⟩

theorem differentBits_tells (N L B L' B' : Nat) (A A' : Option Addr) (c c' : Nat) (xs ys : List Int) (w : World) (hl : xs.length = 4096) (hl' : ys.length = 4096) (hx : IS w L B A xs) (hy : IS w L' B' A' ys) (hB : B ≤ w.heap.size) (hB' : B' ≤ w.heap.size) (hBN : B ≤ N) (hBN' : B' ≤ N) :
    Tells N (fun _ => True) w 114 (.agg #[.slice A 4096 c, .slice A' 4096 c']) (fun x0 x1 => bits .xor .i64 (xs.getD (64 * x0 + x1).toNat 0) (ys.getD (64 * x0 + x1).toNat 0)) := by
  intro x0 x1 W h0 h1 hb hz _
  refine (differentBits_any L B L' B' A A' c c' 4096 xs ys x0 x1 W rfl hl hl' (hx.below hb hBN) (hy.below hb hBN') (Nat.le_trans hB hz) (Nat.le_trans hB' hz) h0 h1).mono ?_
  rintro e W' ⟨rfl, hb'⟩
  have e1 : (64 * (x0 : Int) + (x1 : Int)).toNat = 64 * x0 + x1 := by omega
  refine ⟨?_, trivial, none, grownBy_of_below hb' none, fun k hk => by cases hk⟩
  show Ending.returned (.int .i64 _) = Ending.returned (.int .i64 (bits .xor .i64 (xs.getD (64 * (x0 : Int) + (x1 : Int)).toNat 0) (ys.getD (64 * (x0 : Int) + (x1 : Int)).toNat 0)))
  rw [e1]

end Go.Proofs.Ytieljgfocgdngaa

/- slices' functions over lists of ints; the program's lists of differences and of changing words. -/
namespace Go.Proofs.Ytieljgfocgdngaa
open Go.RowKit
set_option linter.unusedVariables false
set_option maxRecDepth 100000

set_option maxHeartbeats 1000000 in
theorem indexFunc_isDifference (L B : Nat) (A : Option Addr) (c n : Nat) (xs : List Int) (w : World) (hl : n ≤ 1048576) (hxn : xs.length = n) (hx : IS w L B A xs) :
    Calls Try.prog 115 #[.slice A n c, .func (.func 116) #[] #[]] w fun e w' => e = .returned (.int .i64 (firstI (fun i => xs.getD i 0 != 0) n)) ∧ w = w' := by
  have hX := Lib.hid hx
  have hXN := Lib.hid hxn
  obtain ⟨P, hPd⟩ : ∃ P : Nat → Bool, P = fun i => xs.getD i 0 != 0 := ⟨_, rfl⟩
  rw [← hPd]
  have hPH := Lib.hid hPd
  clear hx hxn hPd
  go_enter Try.func115, Try.ntmps115
  go_wp2
  go_loop [5, 8] (fun _ i => ∃ k : Nat, k ≤ n ∧ i = .int .i64 k ∧ ∀ j, j < k → P j = false) (fun _ i => n - (intOf i).toNat)
  case atStart => exact ⟨0, Nat.zero_le _, rfl, fun j hj => absurd hj (Nat.not_lt_zero _)⟩
  case round =>
    obtain ⟨k, hk, rfl, hh⟩ := hrel
    have hH := Lib.hid hh; clear hh
    by_cases hlt : k < n
    · have hkx : k < xs.length := by rw [hXN.out]; exact hlt
      obtain ⟨b, o, rfl, _, hc⟩ := hX.out (by rw [hXN.out]; omega)
      have c1 := hc k hkx
      have hS : Hid (P k = (xs[k] != 0)) := by unfold Hid; rw [hPH.out]; show (xs.getD k 0 != 0) = _; rw [getD_get hkx]
      clear hc
      generalize hgx : xs[k] = x at *
      clear hgx hkx
      have HC := Lib.hid (isDifference_any x w)
      cases hb : (x != 0)
      · rw [hb] at hS HC
        go_wp2_with (fail)
        refine HC.out.mono ?_
        rintro e w' ⟨rfl, rfl⟩
        go_wp2
        go_round
        case rel => exact ⟨k + 1, by omega, by go_num, fun j hj => by
          by_cases e : j = k
          · rw [e]; exact hS.out
          · exact hH.out j (by omega)⟩
        case measure => simp [intOf]; omega
      · rw [hb] at hS HC
        go_wp2_with (fail)
        refine HC.out.mono ?_
        rintro e w' ⟨rfl, rfl⟩
        go_wp2
        go_ret
        exact ⟨ret_int (by rw [firstI_some hlt hS.out hH.out]), rfl⟩
    · obtain rfl : k = n := by omega
      go_wp2
      go_ret
      exact ⟨ret_int (by rw [firstI_none hH.out]), rfl⟩


set_option maxHeartbeats 1000000 in
theorem indexFunc_isWord (L B : Nat) (A : Option Addr) (c n : Nat) (xs : List Int) (w : World) (hl : n ≤ 1048576) (hxn : xs.length = n) (hx : IS w L B A xs) :
    Calls Try.prog 115 #[.slice A n c, .func (.func 85) #[] #[]] w fun e w' => e = .returned (.int .i64 (firstI (fun i => isW (xs.getD i 0)) n)) ∧ w = w' := by
  have hX := Lib.hid hx
  have hXN := Lib.hid hxn
  obtain ⟨P, hPd⟩ : ∃ P : Nat → Bool, P = fun i => isW (xs.getD i 0) := ⟨_, rfl⟩
  rw [← hPd]
  have hPH := Lib.hid hPd
  clear hx hxn hPd
  go_enter Try.func115, Try.ntmps115
  go_wp2
  go_loop [5, 8] (fun _ i => ∃ k : Nat, k ≤ n ∧ i = .int .i64 k ∧ ∀ j, j < k → P j = false) (fun _ i => n - (intOf i).toNat)
  case atStart => exact ⟨0, Nat.zero_le _, rfl, fun j hj => absurd hj (Nat.not_lt_zero _)⟩
  case round =>
    obtain ⟨k, hk, rfl, hh⟩ := hrel
    have hH := Lib.hid hh; clear hh
    by_cases hlt : k < n
    · have hkx : k < xs.length := by rw [hXN.out]; exact hlt
      obtain ⟨b, o, rfl, _, hc⟩ := hX.out (by rw [hXN.out]; omega)
      have c1 := hc k hkx
      have hS : Hid (P k = (isW xs[k])) := by unfold Hid; rw [hPH.out]; show (isW (xs.getD k 0)) = _; rw [getD_get hkx]
      clear hc
      generalize hgx : xs[k] = x at *
      clear hgx hkx
      have HC := Lib.hid (isWord_any x w)
      cases hb : (isW (x))
      · rw [hb] at hS HC
        go_wp2_with (fail)
        refine HC.out.mono ?_
        rintro e w' ⟨rfl, rfl⟩
        go_wp2
        go_round
        case rel => exact ⟨k + 1, by omega, by go_num, fun j hj => by
          by_cases e : j = k
          · rw [e]; exact hS.out
          · exact hH.out j (by omega)⟩
        case measure => simp [intOf]; omega
      · rw [hb] at hS HC
        go_wp2_with (fail)
        refine HC.out.mono ?_
        rintro e w' ⟨rfl, rfl⟩
        go_wp2
        go_ret
        exact ⟨ret_int (by rw [firstI_some hlt hS.out hH.out]), rfl⟩
    · obtain rfl : k = n := by omega
      go_wp2
      go_ret
      exact ⟨ret_int (by rw [firstI_none hH.out]), rfl⟩


end Go.Proofs.Ytieljgfocgdngaa

/- The program's functions of chapter 3 over tables. -/
namespace Go.Proofs.Ytieljgfocgdngaa
open Go.RowKit
set_option linter.unusedVariables false
set_option maxRecDepth 100000

theorem IntsRes.is {w : World} {xs : List Int} {ok : Bool} {e : Ending} {w' : World} (h : IntsRes w xs ok e w') : ∃ A c, e = .returned (.tuple #[.slice A xs.length c, .bool ok]) ∧ IS w' w.heap.size w'.heap.size A xs ∧ Below w.heap.size w w' := by
  obtain ⟨A, c, rfl, how, hb⟩ := h
  obtain ⟨A2, c2, hv, his⟩ := how.form
  injection hv with a b d
  subst a; subst d
  exact ⟨A, c, rfl, his, hb⟩

theorem iTable_is (L B : Nat) (A : Option Addr) (c : Nat) (es : List Nd) (w : World) (hl : es.length ≤ 1048576) (hes : NS w L B A es) (hB : B ≤ w.heap.size) :
    Calls Try.prog 112 #[.slice A es.length c] w fun e w' => ∃ A' c', e = .returned (.tuple #[.slice A' (tabR es).length c', .bool (good es)]) ∧ IS w' w.heap.size w'.heap.size A' (tabR es) ∧ Below w.heap.size w w' :=
  (iTableOf_any L B A c es w hl hes hB).mono fun e w' h => IntsRes.is h

theorem nil_fin {w w' : World} {xs : List Int} {ok : Bool} (hx : xs = []) (hok : ok = false) (hb : Below w.heap.size w w') : IntsRes w xs ok (.returned (.tuple #[.slice none 0 0, .bool false])) w' := by
  subst hx; subst hok
  exact ⟨none, 0, rfl, OW.nil _ _ _, hb⟩

set_option maxHeartbeats 4000000 in
theorem differencesOf_any (L B L' B' : Nat) (A A' : Option Addr) (c c' : Nat) (es fs : List Nd) (w : World) (hl : es.length ≤ 1048576) (hl' : fs.length ≤ 1048576) (hes : NS w L B A es) (hfs : NS w L' B' A' fs) (hB : B ≤ w.heap.size) (hB' : B' ≤ w.heap.size) :
    Calls Try.prog 76 #[.slice A es.length c, .slice A' fs.length c'] w (IntsRes w (difR es fs) (ok2 es fs)) := by
  have GE := Lib.hid fun (W : World) (hW : Below w.heap.size w W) => iTable_is L B A c es W hl (hes.below hW hB) (Nat.le_trans hB hW.size)
  have GF := Lib.hid fun (W : World) (hW : Below w.heap.size w W) => iTable_is L' B' A' c' fs W hl' (hfs.below hW hB') (Nat.le_trans hB' hW.size)
  have b0 := Lib.hid (Below.refl w.heap.size w)
  clear hes hfs hB hB'
  cases hok' : ok2 es fs
  · have hR := Lib.hid (show difR es fs = [] by unfold difR; rw [if_neg (by rw [hok']; decide)])
    cases hg : good es
    all_goals
      cases hf : good fs
      all_goals
        first
        | (simp [ok2, hg, hf] at hok'; done)
        | (rw [hg] at GE
           rw [hf] at GF
           clear hok' hg hf
           go_enter Try.func76, Try.ntmps76
           go_wp2_with (fail)
           refine (GE.out w b0.out).mono ?_
           rintro e w1 ⟨V1, v1, rfl, _, hb⟩
           have b1 := Lib.hid (b0.out.trans (hb.mono b0.out.size)); clear hb
           go_wp2_with (fail)
           refine (GF.out w1 b1.out).mono ?_
           rintro e w2 ⟨V2, v2, rfl, _, hb⟩
           have b2 := Lib.hid (b1.out.trans (hb.mono b1.out.size)); clear hb
           go_wp2_with (fail)
           go_ret2
           exact nil_fin hR.out rfl b2.out)
  simp only [ok2, Bool.and_eq_true] at hok'
  have hR := Lib.hid (show difR es fs = difT (tab es) (tab fs) by unfold difR; rw [if_pos (by simp [ok2, hok'])])
  rw [hok'.1] at GE
  rw [hok'.2] at GF
  have he := Lib.hid (show tabR es = tab es by unfold tabR; rw [if_pos hok'.1])
  have hf := Lib.hid (show tabR fs = tab fs by unfold tabR; rw [if_pos hok'.2])
  rw [he.out, tab_len] at GE
  rw [hf.out, tab_len] at GF
  clear hok' he hf
  go_enter Try.func76, Try.ntmps76
  go_wp2_with (fail)
  refine (GE.out w b0.out).mono ?_
  rintro e w1 ⟨V1, v1, rfl, hi, hb⟩
  have b1 := Lib.hid (b0.out.trans (hb.mono b0.out.size)); clear hb
  have i1 := Lib.hid hi; clear hi
  go_wp2_with (fail)
  refine (GF.out w1 b1.out).mono ?_
  rintro e w2 ⟨V2, v2, rfl, hi, hb⟩
  have b2 := Lib.hid (b1.out.trans (hb.mono b1.out.size))
  have i2 := Lib.hid hi
  have j1 := Lib.hid (i1.out.below hb (Nat.le_refl _))
  have z2 := Lib.hid hb.size
  clear hb hi i1
  have hT := Lib.hid (tableFor_P (.slice V1 4096 v1) (.slice V2 4096 v2) (fun x0 x1 => bits .xor .i64 ((tab es).getD (64 * x0 + x1).toNat 0) ((tab fs).getD (64 * x0 + x1).toNat 0)) w2.heap.size (fun _ => True) w2 (Nat.le_refl _) trivial (fun _ _ _ _ => trivial)
    (differentBits_tells w2.heap.size _ _ _ _ V1 V2 v1 v2 (tab es) (tab fs) w2 (tab_len _) (tab_len _) j1.out i2.out z2.out (Nat.le_refl _) z2.out (Nat.le_refl _)))
  go_wp2_with (fail)
  refine hT.out.mono ?_
  rintro e w3 ⟨V3, v3, rfl, how, hb, _⟩
  have b3 := Lib.hid (b2.out.trans (hb.mono b2.out.size)); clear hb
  have o3 := Lib.hid how; clear how
  go_wp2_with (fail)
  go_ret2
  rw [hR.out]
  exact ⟨V3, v3, by rw [difT_len]; rfl, by rw [difT_len]; exact o3.out.lower b2.out.size, b3.out⟩

theorem dif_is (L B L' B' : Nat) (A A' : Option Addr) (c c' : Nat) (es fs : List Nd) (w : World) (hl : es.length ≤ 1048576) (hl' : fs.length ≤ 1048576) (hes : NS w L B A es) (hfs : NS w L' B' A' fs) (hB : B ≤ w.heap.size) (hB' : B' ≤ w.heap.size) :
    Calls Try.prog 76 #[.slice A es.length c, .slice A' fs.length c'] w fun e w' => ∃ V v, e = .returned (.tuple #[.slice V (difR es fs).length v, .bool (ok2 es fs)]) ∧ IS w' w.heap.size w'.heap.size V (difR es fs) ∧ Below w.heap.size w w' :=
  (differencesOf_any L B L' B' A A' c c' es fs w hl hl' hes hfs hB hB').mono fun e w' h => IntsRes.is h
theorem difR_len (es fs : List Nd) : (difR es fs).length ≤ 4096 := by
  unfold difR; split
  · rw [difT_len]; omega
  · simp


set_option maxHeartbeats 2000000 in
theorem countDifferences_any (L B : Nat) (V1 : Option Addr) (v1 n : Nat) (D : List Int) (w1 : World) (hn4 : n ≤ 4096) (hxn' : D.length = n) (hi : IS w1 L B V1 D) :
    Calls Try.prog 78 #[.slice V1 n v1] w1 fun e w' => e = .returned (.int .i64 (countI (fun i => D.getD i 0 != 0) n)) ∧ w1 = w' := by
  have i1 := Lib.hid hi
  have hxn := Lib.hid hxn'
  clear hi hxn'
  obtain ⟨P, hP'⟩ : ∃ P : Nat → Bool, P = fun i => D.getD i 0 != 0 := ⟨_, rfl⟩
  rw [← hP']
  have hP := Lib.hid hP'
  clear hP'
  go_enter Try.func78, Try.ntmps78
  go_wp2
  go_loop [3, 8] (fun q i => ∃ k : Nat, k ≤ n ∧ i = .int .i64 k ∧ q = .int .i64 (countI P k)) (fun _ i => n - (intOf i).toNat)
  case atStart => exact ⟨0, Nat.zero_le _, rfl, rfl⟩
  case round =>
    obtain ⟨k, hk, rfl, rfl⟩ := hrel
    by_cases hlt : k < n
    · have hkx : k < D.length := by rw [hxn.out]; exact hlt
      obtain ⟨b, o, rfl, _, hc⟩ := i1.out (by rw [hxn.out]; omega)
      have c1 := hc k hkx
      have hS : Hid (P k = (D[k] != 0)) := by unfold Hid; rw [hP.out]; show (D.getD k 0 != 0) = _; rw [getD_get hkx]
      clear hc
      generalize hgx : D[k] = x at *
      clear hgx hkx
      have hbd := countI_bd P k
      have HC := Lib.hid (isDifference_any x w1)
      cases hb : (x != 0)
      · rw [hb] at HC
        have hS2 := Lib.hid (countI_no (by rw [hS.out]; exact hb) : countI P (k + 1) = countI P k)
        generalize countI P k = q at *
        go_wp2_with (fail)
        refine HC.out.mono ?_
        rintro e w' ⟨rfl, rfl⟩
        go_wp2
        go_round
        case rel => exact ⟨k + 1, by omega, by go_num, by rw [hS2.out]⟩
        case measure => simp [intOf]; omega
      · rw [hb] at HC
        have hS2 := Lib.hid (countI_yes (by rw [hS.out]; exact hb) : countI P (k + 1) = countI P k + 1)
        generalize countI P k = q at *
        go_wp2_with (fail)
        refine HC.out.mono ?_
        rintro e w' ⟨rfl, rfl⟩
        go_wp2
        go_round
        case rel => exact ⟨k + 1, by omega, by go_num, by rw [hS2.out]⟩
        case measure => simp [intOf]; omega
    · obtain rfl : k = n := by omega
      go_wp2
      go_ret
      exact ⟨rfl, rfl⟩

set_option maxHeartbeats 2000000 in
theorem firstDifference_any (L B : Nat) (V1 : Option Addr) (v1 n : Nat) (D : List Int) (w1 : World) (hn4 : n ≤ 4096) (hxn' : D.length = n) (hi : IS w1 L B V1 D) :
    Calls Try.prog 77 #[.slice V1 n v1] w1 fun e w' => e = .returned (.tuple #[.int .i64 (if firstI (fun i => D.getD i 0 != 0) n < 0 then 0 else firstI (fun i => D.getD i 0 != 0) n / 64), .int .i64 (if firstI (fun i => D.getD i 0 != 0) n < 0 then 0 else firstI (fun i => D.getD i 0 != 0) n % 64), .bool (decide (0 ≤ firstI (fun i => D.getD i 0 != 0) n))]) ∧ w1 = w' := by
  have HI := Lib.hid (indexFunc_isDifference L B V1 v1 n D w1 (by omega) hxn' hi)
  have hbd := firstI_bd (fun i => D.getD i 0 != 0) n
  clear hi hxn'
  generalize firstI (fun i => D.getD i 0 != 0) n = r at *
  by_cases hn : r < 0
  · rw [if_pos hn, if_pos hn, decide_eq_false (by omega : ¬ (0 ≤ r))]
    go_enter Try.func77, Try.ntmps77
    go_wp2_with (fail)
    refine HI.out.mono ?_
    rintro e w2 ⟨rfl, rfl⟩
    go_wp2_with (fail)
    go_ret3
    exact ⟨rfl, rfl⟩
  · rw [if_neg hn, if_neg hn, decide_eq_true (by omega : 0 ≤ r)]
    obtain ⟨k, rfl⟩ := Int.eq_ofNat_of_zero_le (by omega : 0 ≤ r)
    go_enter Try.func77, Try.ntmps77
    go_wp2_with (fail)
    refine HI.out.mono ?_
    rintro e w2 ⟨rfl, rfl⟩
    go_wp2_with (fail)
    refine (inputsAt_any k _ (by omega)).mono ?_
    rintro e w2 ⟨rfl, rfl⟩
    go_wp2_with (fail)
    go_ret3
    exact ⟨rfl, rfl⟩


set_option maxHeartbeats 2000000 in
theorem iCountDifferences_any (L B L' B' : Nat) (A A' : Option Addr) (c c' : Nat) (es fs : List Nd) (w : World) (hl : es.length ≤ 1048576) (hl' : fs.length ≤ 1048576) (hes : NS w L B A es) (hfs : NS w L' B' A' fs) (hB : B ≤ w.heap.size) (hB' : B' ≤ w.heap.size) :
    Calls Try.prog 35 #[.slice A es.length c, .slice A' fs.length c'] w fun e w' => e = .returned (.tuple #[.int .i64 (cdR es fs), .bool (ok2 es fs)]) ∧ Below w.heap.size w w' := by
  have HD := Lib.hid (dif_is L B L' B' A A' c c' es fs w hl hl' hes hfs hB hB')
  have hln := Lib.hid (difR_len es fs)
  clear hes hfs hB hB'
  have q1 := Lib.hid (difR_first es fs)
  have q2 := Lib.hid (difR_count es fs)
  have q3 := Lib.hid (difR_or es fs)
  generalize hD : difR es fs = D at *
  clear hD
  obtain ⟨n, hn⟩ : ∃ n, n = D.length := ⟨_, rfl⟩
  rw [← hn] at HD hln q1 q2 q3
  have hxn := Lib.hid hn.symm
  clear hn
  have hn4 : n ≤ 4096 := hln.out
  go_enter Try.func35, Try.ntmps35
  go_wp2_with (fail)
  refine HD.out.mono ?_
  rintro e w1 ⟨V1, v1, rfl, hi, hb⟩
  have b1 := Lib.hid hb
  have i1 := Lib.hid hi
  clear hb hi
  go_wp2_with (fail)
  refine (countDifferences_any _ _ _ _ n D w1 (by omega) hxn.out i1.out).mono ?_
  rintro e w2 ⟨rfl, rfl⟩
  rw [q2.out]
  go_wp2_with (fail)
  go_ret2
  exact ⟨rfl, b1.out⟩


set_option maxHeartbeats 2000000 in
theorem iFirstDifference_any (L B L' B' : Nat) (A A' : Option Addr) (c c' : Nat) (es fs : List Nd) (w : World) (hl : es.length ≤ 1048576) (hl' : fs.length ≤ 1048576) (hes : NS w L B A es) (hfs : NS w L' B' A' fs) (hB : B ≤ w.heap.size) (hB' : B' ≤ w.heap.size) :
    Calls Try.prog 33 #[.slice A es.length c, .slice A' fs.length c'] w fun e w' => e = .returned (.tuple #[.int .i64 (fd0 es fs), .int .i64 (fd1 es fs), .bool (fdB es fs)]) ∧ Below w.heap.size w w' := by
  have HD := Lib.hid (dif_is L B L' B' A A' c c' es fs w hl hl' hes hfs hB hB')
  have hln := Lib.hid (difR_len es fs)
  clear hes hfs hB hB'
  have q1 := Lib.hid (difR_first es fs)
  have q2 := Lib.hid (difR_count es fs)
  have q3 := Lib.hid (difR_or es fs)
  generalize hD : difR es fs = D at *
  clear hD
  obtain ⟨n, hn⟩ : ∃ n, n = D.length := ⟨_, rfl⟩
  rw [← hn] at HD hln q1 q2 q3
  have hxn := Lib.hid hn.symm
  clear hn
  have hn4 : n ≤ 4096 := hln.out
  go_enter Try.func33, Try.ntmps33
  go_wp2_with (fail)
  refine HD.out.mono ?_
  rintro e w1 ⟨V1, v1, rfl, hi, hb⟩
  have b1 := Lib.hid hb
  have i1 := Lib.hid hi
  clear hb hi
  go_wp2_with (fail)
  refine (firstDifference_any _ _ _ _ n D w1 (by omega) hxn.out i1.out).mono ?_
  rintro e w2 ⟨rfl, rfl⟩
  rw [q1.out]
  have hFD : Hid (fd0 es fs = if fdR es fs < 0 then 0 else fdR es fs / 64) := rfl
  have hFD1 : Hid (fd1 es fs = if fdR es fs < 0 then 0 else fdR es fs % 64) := rfl
  have hFB : Hid (fdB es fs = decide (0 ≤ fdR es fs)) := rfl
  rw [← hFD.out, ← hFD1.out, ← hFB.out]
  clear q1 hFD hFD1 hFB
  go_wp2_with (fail)
  go_ret3
  exact ⟨rfl, b1.out⟩


end Go.Proofs.Ytieljgfocgdngaa

/- IsRule: the program. -/
namespace Go.Proofs.Ytieljgfocgdngaa
open Go.RowKit
set_option linter.unusedVariables false
set_option maxRecDepth 100000

theorem fs_zero (s : ByteArray) : fsB s 0 = isSide s := by unfold fsB; rw [show isW 0 = true from rfl, Bool.true_and]
theorem parts_ar0 {n : Nd} {i : Int} (h : isNode n i = true) : ((parts n).length == 0) = (ar n.op == 0) := by
  rcases ar_cases_nd h with ⟨h1, h2, h3, -, -⟩ | ⟨h1, h2, h3, -, -, -⟩ | ⟨h1, h2, h3, -, -, -, -⟩
  · rw [parts_ar.2.2 h2 h3, h1]; rfl
  · rw [parts_ar.1 h1 h2, h1]; rfl
  · rw [parts_ar.2.1 h2 h3, h1]; rfl

set_option maxHeartbeats 4000000 in
theorem iIsRule_any (L B : Nat) (A1 A2 : Option Addr) (c1 c2 : Nat) (fr to : List Nd) (s : ByteArray) (w : World) (hl1 : fr.length ≤ 1048576) (hl2 : to.length ≤ 1048576) (h1 : NS w L B A1 fr) (h2 : NS w L B A2 to) (hB : B ≤ w.heap.size) :
    Calls Try.prog 39 #[.agg #[.slice A1 fr.length c1, .slice A2 to.length c2, .string s]] w (ResIsRule (ruleOk fr to s) w) := by
  obtain ⟨W1, hW1⟩ : ∃ W1, W1 = w.alloc (.cells #[.slice A1 fr.length c1, .slice A2 to.length c2, .string s] 45) := ⟨_, rfl⟩
  have b1 : Hid (Below w.heap.size w W1) := by unfold Hid; rw [hW1]; exact (Below.refl _ _).alloc (Nat.le_refl _) _
  have x1 : Hid (RX 45 W1 w.heap.size (.slice A1 fr.length c1) (.slice A2 to.length c2) s) := by unfold Hid; rw [hW1]; exact rx_new _ _ _ _ _
  have e1 := Lib.hid hW1
  obtain ⟨k0, k1, k2⟩ := x1.out.cells
  rw [hW1] at k0 k1 k2
  have E1 := Lib.hid fun (W : World) (hW : Below w.heap.size w W) => h1.below hW hB
  have HF := Lib.hid fun W => iFitsSide_any s 0 W
  rw [fs_zero] at HF
  have HW1 := Lib.hid fun (W : World) (hW : Below w.heap.size w W) => isWalked_any L B A1 c1 fr W hl1 (h1.below hW hB) (Nat.le_trans hB hW.size)
  have HW2 := Lib.hid fun (W : World) (hW : Below w.heap.size w W) => isWalked_any L B A2 c2 to W hl2 (h2.below hW hB) (Nat.le_trans hB hW.size)
  have HI1 := Lib.hid fun (k : Int) (W : World) (hW : Below w.heap.size w W) => hasInput_any L B A1 c1 fr k W hl1 (h1.below hW hB) (Nat.le_trans hB hW.size)
  have HI2 := Lib.hid fun (k : Int) (W : World) (hW : Below w.heap.size w W) => hasInput_any L B A2 c2 to k W hl2 (h2.below hW hB) (Nat.le_trans hB hW.size)
  generalize fsR s 0 = fr0 at *
  clear hW1 h1 h2
  cases hs : isSide s
  · have hK : Hid (ruleOk fr to s = false) := by unfold Hid ruleOk; rw [hs]; rfl
    rw [hs] at HF
    clear hs
    go_enter Try.func39, Try.ntmps39
    go_wp2_with (fail)
    rw [← e1.out]
    refine (HF.out W1).mono ?_
    rintro e w2 ⟨rfl, rfl⟩
    go_wp2
    go_ret
    unfold ResIsRule
    exact ⟨ret_bool (by rw [hK.out]), b1.out⟩
  rw [hs] at HF
  cases hw1 : walked fr
  · have hK : Hid (ruleOk fr to s = false) := by unfold Hid ruleOk; rw [hs, hw1]; rfl
    rw [hw1] at HW1
    clear hs hw1
    go_enter Try.func39, Try.ntmps39
    go_wp2_with (fail)
    rw [← e1.out]
    refine (HF.out W1).mono ?_
    rintro e w2 ⟨rfl, rfl⟩
    clear k0 k1 k2
    obtain ⟨k0, k1, k2⟩ := x1.out.cells
    go_wp2_with (fail)
    refine (HW1.out W1 b1.out).mono ?_
    rintro e w3 ⟨rfl, hb⟩
    have b3 := Lib.hid (b1.out.trans (hb.mono b1.out.size))
    clear hb
    go_wp2
    go_ret
    unfold ResIsRule
    exact ⟨ret_bool (by rw [hK.out]), b3.out⟩
  rw [hw1] at HW1
  cases hw2 : walked to
  · have hK : Hid (ruleOk fr to s = false) := by unfold Hid ruleOk; rw [hs, hw1, hw2]; rfl
    rw [hw2] at HW2
    clear hs hw1 hw2
    go_enter Try.func39, Try.ntmps39
    go_wp2_with (fail)
    rw [← e1.out]
    refine (HF.out W1).mono ?_
    rintro e w2 ⟨rfl, rfl⟩
    clear k0 k1 k2
    obtain ⟨k0, k1, k2⟩ := x1.out.cells
    go_wp2_with (fail)
    refine (HW1.out W1 b1.out).mono ?_
    rintro e w3 ⟨rfl, hb⟩
    have b3 := Lib.hid (b1.out.trans (hb.mono b1.out.size))
    have x3 := x1.out.next hb
    clear hb k0 k1 k2
    obtain ⟨k0, k1, k2⟩ := x3.cells
    go_wp2_with (fail)
    refine (HW2.out w3 b3.out).mono ?_
    rintro e w4 ⟨rfl, hb⟩
    have b4 := Lib.hid (b3.out.trans (hb.mono b3.out.size))
    clear hb
    go_wp2
    go_ret
    unfold ResIsRule
    exact ⟨ret_bool (by rw [hK.out]), b4.out⟩
  rw [hw2] at HW2
  have hg := walked_good hw1
  obtain ⟨hf1, hf24, hok⟩ := good_len hg
  obtain ⟨m, hm⟩ : ∃ m, fr.length = m + 1 := ⟨fr.length - 1, by omega⟩
  have hM := Lib.hid hm
  have hmi : (fr.length : Int) - 1 = (m : Int) := by omega
  have hMI := Lib.hid hmi
  have hmf : m < fr.length := by omega
  have hK0 : Hid (ruleOk fr to s = (!(ar fr[m].op == 0) && holesOk fr to s)) := by
    unfold Hid ruleOk rootOp; rw [hs, hw1, hw2, show fr.length - 1 = m by omega, getD_nd hmf, parts_ar0 (ok_get hok hmf)]; rfl
  have hCl := Lib.hid fun (W : World) (hW : Below w.heap.size w W) => (show ∃ b o, A1 = some ⟨b, o, none⟩ ∧ W.cell? ⟨b, o + m * 4, none⟩ = some (.string fr[m].op) by
    obtain ⟨b, o, e, _, hc⟩ := (E1.out W hW) (by omega)
    exact ⟨b, o, e, (hc m hmf).1⟩)
  have hOc := Lib.hid fun W => operandCount_any fr[m].op W
  have m0 : (0 : Int) ≤ (m : Int) := by omega
  have m1 : (m : Int) < (fr.length : Int) := by omega
  clear hs hw1 hw2 hg hok hm hmi
  generalize fr[m].op = op at *
  have hAny : isAny s = (s.toList == [97, 110, 121]) := rfl
  have hHo : Hid (holesOk fr to s = ((hasIn fr 0 || !hasIn to 0) && (hasIn fr 1 || (!hasIn to 1 && isAny s)))) := rfl
  go_enter Try.func39, Try.ntmps39
  go_wp2_with (fail)
  rw [← e1.out]
  refine (HF.out W1).mono ?_
  rintro e w2 ⟨rfl, rfl⟩
  clear k0 k1 k2
  obtain ⟨k0, k1, k2⟩ := x1.out.cells
  go_wp2_with (fail)
  refine (HW1.out W1 b1.out).mono ?_
  rintro e w3 ⟨rfl, hb⟩
  have b3 := Lib.hid (b1.out.trans (hb.mono b1.out.size))
  have x3 := Lib.hid (x1.out.next hb)
  clear hb k0 k1 k2
  obtain ⟨k0, k1, k2⟩ := x3.out.cells
  go_wp2_with (fail)
  refine (HW2.out w3 b3.out).mono ?_
  rintro e w4 ⟨rfl, hb⟩
  have b4 := Lib.hid (b3.out.trans (hb.mono b3.out.size))
  have x4 := Lib.hid (x3.out.next hb)
  clear hb k0 k1 k2
  obtain ⟨k0, k1, k2⟩ := x4.out.cells
  obtain ⟨b', o', hA, q0⟩ := hCl.out w4 b4.out
  subst hA
  have hmi := hMI.out
  go_wp2_with (fail)
  (with_reducible refine (hOc.out _).mono ?_)
  rintro e w5 ⟨rfl, rfl⟩
  by_cases hp0 : ar op = 0
  · have hK : Hid (ruleOk fr to s = false) := by rw [Hid, hK0.out, hp0]; rfl
    go_wp2
    go_ret
    unfold ResIsRule
    exact ⟨ret_bool (by rw [hK.out]), b4.out⟩
  have hK : Hid (ruleOk fr to s = holesOk fr to s) := by
    have : (ar op == 0) = false := by simpa using hp0
    rw [Hid, hK0.out, this]; rfl
  have hz9 : (ar op == 0) = false := by simpa using hp0
  have HZ9 := Lib.hid hz9
  clear hz9
  go_wp2
  rw [HZ9.out]
  clear hmi hp0 m0 m1
  go_loopw [39] (fun i wi => ∃ j : Nat, j ≤ 2 ∧ i = .int .i64 j ∧ (1 ≤ j → hasIn to 0 = true → hasIn fr 0 = true) ∧ (2 ≤ j → hasIn to 1 = true → hasIn fr 1 = true) ∧ RX 45 wi w.heap.size (.slice (some ⟨b', o', none⟩) fr.length c1) (.slice A2 to.length c2) s ∧ Below w.heap.size w wi) (fun i _ => 2 - (intOf i).toNat)
  case atStart => exact ⟨0, by omega, rfl, fun h => by omega, fun h => by omega, x4.out, b4.out⟩
  case round =>
    obtain ⟨j, hj, rfl, hh0, hh1, hx, hbel⟩ := hrel
    have H0 := Lib.hid hh0
    have H1 := Lib.hid hh1
    have X := Lib.hid hx
    have hBe := Lib.hid hbel
    clear hh0 hh1 hx hbel k0 k1 k2 q0
    obtain ⟨k0, k1, k2⟩ := X.out.cells
    by_cases hlt : j < 2
    · have j0 : (0 : Int) ≤ (j : Int) := by omega
      have j2 : (j : Int) < 2 := by omega
      have hT := Lib.hid (HI2.out (j : Int) wr hBe.out)
      have hNext : Hid (hasIn to (j : Int) = false ∨ hasIn fr (j : Int) = true → (1 ≤ j + 1 → hasIn to 0 = true → hasIn fr 0 = true) ∧ (2 ≤ j + 1 → hasIn to 1 = true → hasIn fr 1 = true)) := by
        intro hor
        have : j = 0 ∨ j = 1 := by omega
        rcases this with rfl | rfl
        · refine ⟨fun _ h => ?_, fun h => by omega⟩
          rcases hor with e | e
          · rw [show ((0 : Nat) : Int) = 0 from rfl, h] at e; cases e
          · exact e
        · refine ⟨fun _ => H0.out (by omega), fun _ h => ?_⟩
          rcases hor with e | e
          · rw [show ((1 : Nat) : Int) = 1 from rfl, h] at e; cases e
          · exact e
      have hStop : Hid (hasIn to (j : Int) = true → hasIn fr (j : Int) = false → holesOk fr to s = false) := by
        intro ht hf
        have : j = 0 ∨ j = 1 := by omega
        rcases this with rfl | rfl
        · rw [show ((0 : Nat) : Int) = 0 from rfl] at ht hf
          rw [hHo.out, ht, hf]; rfl
        · rw [show ((1 : Nat) : Int) = 1 from rfl] at ht hf
          rw [hHo.out, ht, hf]; simp
      have hF2 := Lib.hid fun (W : World) (hW : Below w.heap.size w W) => HI1.out (j : Int) W hW
      generalize hasIn to (j : Int) = zt at *
      generalize hasIn fr (j : Int) = zf at *
      cases zt
      · have hn := Lib.hid (hNext.out (.inl rfl))
        go_wp2_with (fail)
        refine hT.out.mono ?_
        rintro e w6 ⟨rfl, hb⟩
        have b6 := Lib.hid (hBe.out.trans (hb.mono hBe.out.size))
        have x6 := Lib.hid (X.out.next hb)
        clear hb
        go_wp2
        go_roundw
        case rel => exact ⟨j + 1, by omega, by go_num, hn.out.1, hn.out.2, x6.out, b6.out⟩
        case measure => simp [intOf]; omega
      · go_wp2_with (fail)
        refine hT.out.mono ?_
        rintro e w6 ⟨rfl, hb⟩
        have b6 := Lib.hid (hBe.out.trans (hb.mono hBe.out.size))
        have x6 := Lib.hid (X.out.next hb)
        clear hb k0 k1 k2
        obtain ⟨k0, k1, k2⟩ := x6.out.cells
        have hFF := Lib.hid (hF2.out w6 b6.out)
        cases zf
        · have hst := Lib.hid (hStop.out (by first | rfl | trivial) (by first | rfl | trivial))
          go_wp2_with (fail)
          refine hFF.out.mono ?_
          rintro e w7 ⟨rfl, hb⟩
          have b7 := Lib.hid (b6.out.trans (hb.mono b6.out.size))
          clear hb
          go_wp2
          go_ret
          unfold ResIsRule
          exact ⟨ret_bool (by rw [hK.out, hst.out]), b7.out⟩
        · have hn := Lib.hid (hNext.out (.inr rfl))
          go_wp2_with (fail)
          refine hFF.out.mono ?_
          rintro e w7 ⟨rfl, hb⟩
          have b7 := Lib.hid (b6.out.trans (hb.mono b6.out.size))
          have x7 := Lib.hid (x6.out.next hb)
          clear hb
          go_wp2
          go_roundw
          case rel => exact ⟨j + 1, by omega, by go_num, hn.out.1, hn.out.2, x7.out, b7.out⟩
          case measure => simp [intOf]; omega
    · obtain rfl : j = 2 := by omega
      have hF1 := Lib.hid (HI1.out 1 wr hBe.out)
      have hz0 : (hasIn fr 0 || !hasIn to 0) = true := by
        have := H0.out (by omega)
        cases ht : hasIn to 0
        · simp
        · rw [this ht]; rfl
      have hz1 := H1.out (by omega)
      have hFin : Hid (holesOk fr to s = (isAny s || hasIn fr 1)) := by
        rw [Hid, hHo.out, hz0]
        cases hf : hasIn fr 1
        · cases ht : hasIn to 1
          · simp
          · rw [hz1 ht] at hf; cases hf
        · simp
      clear hz0 hz1
      cases hany : (s.toList == [97, 110, 121])
      · have hr : Hid (ruleOk fr to s = hasIn fr 1) := by rw [Hid, hK.out, hFin.out, hAny, hany]; rfl
        clear hAny
        go_wp2_with (fail)
        refine hF1.out.mono ?_
        rintro e w7 ⟨rfl, hb⟩
        have b7 := Lib.hid (hBe.out.trans (hb.mono hBe.out.size))
        clear hb
        go_wp2
        go_ret
        unfold ResIsRule
        exact ⟨ret_bool (by rw [hr.out]), b7.out⟩
      · have hr : Hid (ruleOk fr to s = true) := by rw [Hid, hK.out, hFin.out, hAny, hany]; rfl
        have hs' : s.toList = [97, 110, 121] := by simpa using hany
        clear hAny hany
        go_wp2
        go_ret
        unfold ResIsRule
        exact ⟨ret_bool (by rw [hr.out]), hBe.out⟩
theorem iIsRule_k (L B : Nat) (A1 A2 : Option Addr) (c1 c2 : Nat) (fr to : List Nd) (s : ByteArray) (w : World) (hl1 : fr.length ≤ 1048576) (hl2 : to.length ≤ 1048576) (hl3 : s.size ≤ 1048576) (h1 : RS Nd.enc 4 w L B A1 fr) (h2 : RS Nd.enc 4 w L B A2 to) (hB : B ≤ w.heap.size) (hc1 : fr.length ≤ c1) (hc2 : to.length ≤ c2) :
    Calls Try.prog 39 #[.agg #[.slice A1 fr.length c1, .slice A2 to.length c2, .string s]] w (ResIsRule (ruleOk fr to s) w) := iIsRule_any L B A1 A2 c1 c2 fr to s w hl1 hl2 h1.ns h2.ns hB
end Go.Proofs.Ytieljgfocgdngaa

/- Which words refuse a rule: the program. -/
namespace Go.Proofs.Ytieljgfocgdngaa
open Go.RowKit
set_option linter.unusedVariables false
set_option maxRecDepth 100000

set_option maxHeartbeats 2000000 in
theorem refutingBits_any (L B L' B' : Nat) (A A' : Option Addr) (c c' : Nat) (s : ByteArray) (xs ys : List Int) (x0 x1 : Nat) (w : World) (hl : xs.length = 4096) (hl' : ys.length = 4096) (hx : IS w L B A xs) (hy : IS w L' B' A' ys) (hB : B ≤ w.heap.size) (hB' : B' ≤ w.heap.size) (h0 : x0 < 64) (h1 : x1 < 64) :
    Calls Try.prog 126 #[.agg #[.slice A 4096 c, .slice A' 4096 c', .string s], .int .i64 x0, .int .i64 x1] w fun e w' => e = .returned (.int .i64 (refF s xs ys x0 x1)) ∧ Below w.heap.size w w' := by
  obtain ⟨W1, hW1⟩ : ∃ W1, W1 = w.alloc (.cells #[.slice A 4096 c, .slice A' 4096 c', .string s] 135) := ⟨_, rfl⟩
  have b1 : Hid (Below w.heap.size w W1) := by unfold Hid; rw [hW1]; exact (Below.refl _ _).alloc (Nat.le_refl _) _
  have x1' : Hid (RX 135 W1 w.heap.size (.slice A 4096 c) (.slice A' 4096 c') s) := by unfold Hid; rw [hW1]; exact rx_new _ _ _ _ _
  have HF := Lib.hid fun W => iFitsSide_any s (x1 : Int) W
  have HD := Lib.hid fun (W : World) (hW : Below w.heap.size w W) => differentBits_any L B L' B' A A' c c' 4096 xs ys x0 x1 W rfl hl hl' (hx.below hW hB) (hy.below hW hB') (Nat.le_trans hB hW.size) (Nat.le_trans hB' hW.size) h0 h1
  have hR : Hid (refF s xs ys x0 x1 = if fsR s x1 = true then bits .xor .i64 (xs.getD (64 * x0 + x1) 0) (ys.getD (64 * x0 + x1) 0) else 0) := by
    unfold Hid refF; rw [show (64 * (x0 : Int) + (x1 : Int)).toNat = 64 * x0 + x1 by omega]
  have e1 := Lib.hid hW1
  obtain ⟨k0, k1, k2⟩ := x1'.out.cells
  rw [hW1] at k0 k1 k2
  clear hW1 hx hy hl hl'
  generalize refF s xs ys x0 x1 = r at *
  generalize bits .xor .i64 (xs.getD (64 * x0 + x1) 0) (ys.getD (64 * x0 + x1) 0) = z at *
  generalize fsB s (x1 : Int) = fb at *
  cases hf : fsR s (x1 : Int)
  · rw [hf] at HF hR
    rw [if_neg (by decide)] at hR
    clear hf
    go_enter Try.func126, Try.ntmps126
    go_wp2_with (fail)
    rw [← e1.out]
    refine (HF.out W1).mono ?_
    rintro e w2 ⟨rfl, rfl⟩
    go_wp2
    go_ret
    exact ⟨by rw [hR.out]; rfl, b1.out⟩
  · rw [hf] at HF hR
    rw [if_pos rfl] at hR
    clear hf
    go_enter Try.func126, Try.ntmps126
    go_wp2_with (fail)
    rw [← e1.out]
    refine (HF.out W1).mono ?_
    rintro e w2 ⟨rfl, rfl⟩
    clear k0 k1 k2
    obtain ⟨k0, k1, k2⟩ := x1'.out.cells
    go_wp2_with (fail)
    (with_reducible refine (HD.out W1 b1.out).mono ?_)
    rintro e w3 ⟨rfl, hb⟩
    have b3 := Lib.hid (b1.out.trans (hb.mono b1.out.size))
    clear hb
    go_wp2
    go_ret
    exact ⟨by rw [hR.out]; rfl, b3.out⟩
theorem refutingBits_tells (N L B L' B' : Nat) (A A' : Option Addr) (c c' : Nat) (s : ByteArray) (xs ys : List Int) (w : World) (hl : xs.length = 4096) (hl' : ys.length = 4096) (hx : IS w L B A xs) (hy : IS w L' B' A' ys) (hB : B ≤ w.heap.size) (hB' : B' ≤ w.heap.size) (hBN : B ≤ N) (hBN' : B' ≤ N) :
    Tells N (fun _ => True) w 126 (.agg #[.slice A 4096 c, .slice A' 4096 c', .string s]) (refF s xs ys) := by
  intro x0 x1 W h0 h1 hb hz _
  refine (refutingBits_any L B L' B' A A' c c' s xs ys x0 x1 W hl hl' (hx.below hb hBN) (hy.below hb hBN') (Nat.le_trans hB hz) (Nat.le_trans hB' hz) h0 h1).mono ?_
  rintro e W' ⟨rfl, hb'⟩
  exact ⟨rfl, trivial, none, grownBy_of_below hb' none, fun k hk => by cases hk⟩

set_option maxHeartbeats 4000000 in
theorem refutationsOf_any (L B : Nat) (A1 A2 : Option Addr) (c1 c2 : Nat) (fr to : List Nd) (s : ByteArray) (w : World) (hl1 : fr.length ≤ 1048576) (hl2 : to.length ≤ 1048576) (h1 : NS w L B A1 fr) (h2 : NS w L B A2 to) (hB : B ≤ w.heap.size) :
    Calls Try.prog 92 #[.agg #[.slice A1 fr.length c1, .slice A2 to.length c2, .string s]] w fun e w' => ∃ V v, e = .returned (.tuple #[.slice V (refR fr to s).length v, .bool (ruleOk fr to s)]) ∧ IS w' w.heap.size w'.heap.size V (refR fr to s) ∧ Below w.heap.size w w' := by
  obtain ⟨W1, hW1⟩ : ∃ W1, W1 = w.alloc (.cells #[.slice A1 fr.length c1, .slice A2 to.length c2, .string s] 45) := ⟨_, rfl⟩
  have b1 : Hid (Below w.heap.size w W1) := by unfold Hid; rw [hW1]; exact (Below.refl _ _).alloc (Nat.le_refl _) _
  have x1 : Hid (RX 45 W1 w.heap.size (.slice A1 fr.length c1) (.slice A2 to.length c2) s) := by unfold Hid; rw [hW1]; exact rx_new _ _ _ _ _
  have HG := Lib.hid (iIsRule_any L B A1 A2 c1 c2 fr to s W1 hl1 hl2 (h1.below b1.out hB) (h2.below b1.out hB) (Nat.le_trans hB b1.out.size))
  have GE := Lib.hid fun (W : World) (hW : Below w.heap.size w W) => iTable_is L B A1 c1 fr W hl1 (h1.below hW hB) (Nat.le_trans hB hW.size)
  have GF := Lib.hid fun (W : World) (hW : Below w.heap.size w W) => iTable_is L B A2 c2 to W hl2 (h2.below hW hB) (Nat.le_trans hB hW.size)
  obtain ⟨k0, k1, k2⟩ := x1.out.cells
  rw [hW1] at k0 k1 k2
  have e1 := Lib.hid hW1
  clear hW1 h1 h2
  unfold ResIsRule at HG
  cases hg : ruleOk fr to s
  · have hR : Hid (refR fr to s = []) := by unfold Hid refR; rw [hg]; rfl
    rw [hg] at HG
    clear hg
    go_enter Try.func92, Try.ntmps92
    go_wp2_with (fail)
    rw [← e1.out]
    refine HG.out.mono ?_
    rintro e w2 ⟨rfl, hb⟩
    have b2 := Lib.hid (b1.out.trans (hb.mono b1.out.size))
    clear hb
    go_wp2
    go_ret2
    rw [hR.out]
    exact ⟨none, 0, rfl, fun h => absurd h (by simp), b2.out⟩
  · have hgg := ruleOk_goods hg
    have hR : Hid (refR fr to s = refT s (tab fr) (tab to)) := by unfold Hid refR; rw [if_pos hg]
    rw [hg] at HG
    rw [hgg.1, show tabR fr = tab fr by unfold tabR; rw [if_pos hgg.1], tab_len] at GE
    rw [hgg.2, show tabR to = tab to by unfold tabR; rw [if_pos hgg.2], tab_len] at GF
    clear hg hgg
    go_enter Try.func92, Try.ntmps92
    go_wp2_with (fail)
    rw [← e1.out]
    refine HG.out.mono ?_
    rintro e w2 ⟨rfl, hb⟩
    have b2 := Lib.hid (b1.out.trans (hb.mono b1.out.size))
    have x2 := x1.out.next hb
    clear hb k0 k1 k2
    obtain ⟨k0, k1, k2⟩ := x2.cells
    go_wp2_with (fail)
    refine (GE.out w2 b2.out).mono ?_
    rintro e w3 ⟨V1, v1, rfl, hi, hb⟩
    have b3 := Lib.hid (b2.out.trans (hb.mono b2.out.size))
    have x3 := x2.next hb
    have i3 := Lib.hid hi
    clear hb k0 k1 k2 hi
    obtain ⟨k0, k1, k2⟩ := x3.cells
    go_wp2_with (fail)
    refine (GF.out w3 b3.out).mono ?_
    rintro e w4 ⟨V2, v2, rfl, hi, hb⟩
    have b4 := Lib.hid (b3.out.trans (hb.mono b3.out.size))
    have x4 := x3.next hb
    have i4 := Lib.hid hi
    have j4 := Lib.hid (i3.out.below hb (Nat.le_refl _))
    have z4 := Lib.hid hb.size
    clear hb k0 k1 k2 hi i3
    obtain ⟨k0, k1, k2⟩ := x4.cells
    have hT := Lib.hid (tableFor_R V1 V2 4096 v1 4096 v2 s (refF s (tab fr) (tab to)) w4.heap.size (fun _ => True) w4 (Nat.le_refl _) trivial (fun _ _ _ _ => trivial)
      (refutingBits_tells w4.heap.size _ _ _ _ V1 V2 v1 v2 s (tab fr) (tab to) w4 (tab_len _) (tab_len _) j4.out i4.out z4.out (Nat.le_refl _) z4.out (Nat.le_refl _)))
    go_wp2_with (fail)
    refine hT.out.mono ?_
    rintro e w5 ⟨V3, v3, rfl, how, hb, _⟩
    have b5 := Lib.hid (b4.out.trans (hb.mono b4.out.size))
    have i5 := Lib.hid (how.rs.more b4.out.size (Nat.le_refl _))
    clear hb how
    go_wp2
    go_ret2
    rw [hR.out]
    exact ⟨V3, v3, by rw [refT_len]; rfl, i5.out, b5.out⟩

end Go.Proofs.Ytieljgfocgdngaa

/- CountRefuting, ProveRule, RefuteRule: the program. -/
namespace Go.Proofs.Ytieljgfocgdngaa
open Go.RowKit
set_option linter.unusedVariables false
set_option maxRecDepth 100000

set_option maxHeartbeats 1000000 in
theorem iCountRefuting_any (L B : Nat) (A1 A2 : Option Addr) (c1 c2 : Nat) (fr to : List Nd) (s : ByteArray) (w : World) (hl1 : fr.length ≤ 1048576) (hl2 : to.length ≤ 1048576) (h1 : NS w L B A1 fr) (h2 : NS w L B A2 to) (hB : B ≤ w.heap.size) :
    Calls Try.prog 52 #[.agg #[.slice A1 fr.length c1, .slice A2 to.length c2, .string s]] w (ResCountRefuting (rcR fr to s) (ruleOk fr to s) w) := by
  obtain ⟨W1, hW1⟩ : ∃ W1, W1 = w.alloc (.cells #[.slice A1 fr.length c1, .slice A2 to.length c2, .string s] 45) := ⟨_, rfl⟩
  have b1 : Hid (Below w.heap.size w W1) := by unfold Hid; rw [hW1]; exact (Below.refl _ _).alloc (Nat.le_refl _) _
  have x1 : RX 45 W1 w.heap.size (.slice A1 fr.length c1) (.slice A2 to.length c2) s := by rw [hW1]; exact rx_new _ _ _ _ _
  have H := Lib.hid (refutationsOf_any L B A1 A2 c1 c2 fr to s W1 hl1 hl2 (h1.below b1.out hB) (h2.below b1.out hB) (Nat.le_trans hB b1.out.size))
  obtain ⟨k0, k1, k2⟩ := x1.cells
  rw [hW1] at k0 k1 k2
  have e1 := Lib.hid hW1
  have hC := Lib.hid (refR_count fr to s)
  have hl := refR_len fr to s
  clear hW1 h1 h2 x1
  generalize refR fr to s = D at *
  generalize ruleOk fr to s = ok at *
  generalize rcR fr to s = r at *
  go_enter Try.func52, Try.ntmps52
  go_wp2_with (fail)
  rw [← e1.out]
  refine H.out.mono ?_
  rintro e w2 ⟨V, v, rfl, hi, hb⟩
  have b2 := Lib.hid (b1.out.trans (hb.mono b1.out.size))
  have hCd := Lib.hid (countDifferences_any W1.heap.size w2.heap.size V v D.length D w2 hl rfl hi)
  rw [hC.out] at hCd
  clear hi hb
  go_wp2_with (fail)
  refine hCd.out.mono ?_
  rintro e w3 ⟨rfl, rfl⟩
  go_wp2
  go_ret2
  exact ⟨rfl, b2.out⟩
theorem iCountRefuting_k (L B : Nat) (A1 A2 : Option Addr) (c1 c2 : Nat) (fr to : List Nd) (s : ByteArray) (w : World) (hl1 : fr.length ≤ 1048576) (hl2 : to.length ≤ 1048576) (hl3 : s.size ≤ 1048576) (h1 : RS Nd.enc 4 w L B A1 fr) (h2 : RS Nd.enc 4 w L B A2 to) (hB : B ≤ w.heap.size) (hc1 : fr.length ≤ c1) (hc2 : to.length ≤ c2) :
    Calls Try.prog 52 #[.agg #[.slice A1 fr.length c1, .slice A2 to.length c2, .string s]] w (ResCountRefuting (rcR fr to s) (ruleOk fr to s) w) := iCountRefuting_any L B A1 A2 c1 c2 fr to s w hl1 hl2 h1.ns h2.ns hB

set_option maxHeartbeats 1000000 in
theorem iProveRule_k (L B : Nat) (A1 A2 : Option Addr) (c1 c2 : Nat) (fr to : List Nd) (s : ByteArray) (w : World) (hl1 : fr.length ≤ 1048576) (hl2 : to.length ≤ 1048576) (hl3 : s.size ≤ 1048576) (h1 : RS Nd.enc 4 w L B A1 fr) (h2 : RS Nd.enc 4 w L B A2 to) (hB : B ≤ w.heap.size) (hc1 : fr.length ≤ c1) (hc2 : to.length ≤ c2) :
    Calls Try.prog 48 #[.agg #[.slice A1 fr.length c1, .slice A2 to.length c2, .string s]] w (ResProveRule (prR fr to s) (ruleOk fr to s) w) := by
  obtain ⟨W1, hW1⟩ : ∃ W1, W1 = w.alloc (.cells #[.slice A1 fr.length c1, .slice A2 to.length c2, .string s] 45) := ⟨_, rfl⟩
  have b1 : Hid (Below w.heap.size w W1) := by unfold Hid; rw [hW1]; exact (Below.refl _ _).alloc (Nat.le_refl _) _
  have x1 : RX 45 W1 w.heap.size (.slice A1 fr.length c1) (.slice A2 to.length c2) s := by rw [hW1]; exact rx_new _ _ _ _ _
  have H := Lib.hid (iCountRefuting_any L B A1 A2 c1 c2 fr to s W1 hl1 hl2 (h1.below b1.out hB).ns (h2.below b1.out hB).ns (Nat.le_trans hB b1.out.size))
  obtain ⟨k0, k1, k2⟩ := x1.cells
  rw [hW1] at k0 k1 k2
  have e1 := Lib.hid hW1
  have hP : Hid (prR fr to s = (ruleOk fr to s && decide (rcR fr to s = 0))) := rfl
  clear hW1 h1 h2 x1
  unfold ResCountRefuting at H
  generalize rcR fr to s = r at *
  cases hg : ruleOk fr to s
  · rw [hg] at H hP
    clear hg
    go_enter Try.func48, Try.ntmps48
    go_wp2_with (fail)
    rw [← e1.out]
    refine H.out.mono ?_
    rintro e w2 ⟨rfl, hb⟩
    have b2 := Lib.hid (b1.out.trans (hb.mono b1.out.size))
    clear hb
    go_wp2
    go_ret2
    unfold ResProveRule
    exact ⟨by rw [hP.out]; rfl, b2.out⟩
  · rw [hg] at H hP
    clear hg
    go_enter Try.func48, Try.ntmps48
    go_wp2_with (fail)
    rw [← e1.out]
    refine H.out.mono ?_
    rintro e w2 ⟨rfl, hb⟩
    have b2 := Lib.hid (b1.out.trans (hb.mono b1.out.size))
    clear hb
    by_cases hr : r = 0
    · subst hr
      go_wp2
      go_ret2
      unfold ResProveRule
      exact ⟨by rw [hP.out]; rfl, b2.out⟩
    · go_wp2
      go_ret2
      unfold ResProveRule
      exact ⟨by rw [hP.out, decide_eq_false hr]; first | rfl | (simp [hr]; done), b2.out⟩

set_option maxHeartbeats 1000000 in
theorem iRefuteRule_k (L B : Nat) (A1 A2 : Option Addr) (c1 c2 : Nat) (fr to : List Nd) (s : ByteArray) (w : World) (hl1 : fr.length ≤ 1048576) (hl2 : to.length ≤ 1048576) (hl3 : s.size ≤ 1048576) (h1 : RS Nd.enc 4 w L B A1 fr) (h2 : RS Nd.enc 4 w L B A2 to) (hB : B ≤ w.heap.size) (hc1 : fr.length ≤ c1) (hc2 : to.length ≤ c2) :
    Calls Try.prog 50 #[.agg #[.slice A1 fr.length c1, .slice A2 to.length c2, .string s]] w (ResRefuteRule (rf0 fr to s) (rf1 fr to s) (rfB fr to s) w) := by
  obtain ⟨W1, hW1⟩ : ∃ W1, W1 = w.alloc (.cells #[.slice A1 fr.length c1, .slice A2 to.length c2, .string s] 45) := ⟨_, rfl⟩
  have b1 : Hid (Below w.heap.size w W1) := by unfold Hid; rw [hW1]; exact (Below.refl _ _).alloc (Nat.le_refl _) _
  have x1 : RX 45 W1 w.heap.size (.slice A1 fr.length c1) (.slice A2 to.length c2) s := by rw [hW1]; exact rx_new _ _ _ _ _
  have H := Lib.hid (refutationsOf_any L B A1 A2 c1 c2 fr to s W1 hl1 hl2 (h1.below b1.out hB).ns (h2.below b1.out hB).ns (Nat.le_trans hB b1.out.size))
  obtain ⟨k0, k1, k2⟩ := x1.cells
  rw [hW1] at k0 k1 k2
  have e1 := Lib.hid hW1
  have hC := Lib.hid (refR_first fr to s)
  have hl := refR_len fr to s
  have hr0 : Hid (rf0 fr to s = if rfI fr to s < 0 then 0 else rfI fr to s / 64) := rfl
  have hr1 : Hid (rf1 fr to s = if rfI fr to s < 0 then 0 else rfI fr to s % 64) := rfl
  have hr2 : Hid (rfB fr to s = decide (0 ≤ rfI fr to s)) := rfl
  clear hW1 h1 h2 x1
  generalize rf0 fr to s = ra at *
  generalize rf1 fr to s = rb at *
  generalize rfB fr to s = rc at *
  generalize refR fr to s = D at *
  generalize ruleOk fr to s = ok at *
  generalize rfI fr to s = r at *
  go_enter Try.func50, Try.ntmps50
  go_wp2_with (fail)
  rw [← e1.out]
  refine H.out.mono ?_
  rintro e w2 ⟨V, v, rfl, hi, hb⟩
  have b2 := Lib.hid (b1.out.trans (hb.mono b1.out.size))
  have hCd := Lib.hid (firstDifference_any W1.heap.size w2.heap.size V v D.length D w2 hl rfl hi)
  rw [hC.out] at hCd
  rw [← hr0.out, ← hr1.out, ← hr2.out] at hCd
  clear hi hb
  go_wp2_with (fail)
  refine hCd.out.mono ?_
  rintro e w3 ⟨rfl, rfl⟩
  go_wp2
  go_ret3
  exact ⟨rfl, b2.out⟩
end Go.Proofs.Ytieljgfocgdngaa
