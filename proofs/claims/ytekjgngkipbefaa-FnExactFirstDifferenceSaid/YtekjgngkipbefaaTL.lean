import Derived.Test.YtekjgngkipbefaaTK
import Derived.WalkKit
import Derived.WalkSpells
import Derived.WalkLawsBesides
import Derived.Lib.Hide
/- The program's functions of chapter 3 over tables. -/
namespace Go.Proofs.Ytekjgngkipbefaa
open Go.RowKit
set_option linter.unusedVariables false
set_option maxRecDepth 100000

theorem IntsRes.is {w : World} {xs : List Int} {ok : Bool} {e : Ending} {w' : World} (h : IntsRes w xs ok e w') : ∃ A c, e = .returned (.tuple #[.slice A xs.length c, .bool ok]) ∧ IS w' w.heap.size w'.heap.size A xs ∧ Below w.heap.size w w' := by
  obtain ⟨A, c, rfl, how, hb⟩ := h
  obtain ⟨A2, c2, hv, his⟩ := how.form
  injection hv with a b d
  subst a; subst d
  exact ⟨A, c, rfl, his, hb⟩

theorem iTable_is (L B : Nat) (A : Option Addr) (c : Nat) (es : List Nd) (w : World) (hl : es.length ≤ 1048576) (hes : NS w L B A es) (hB : B ≤ w.heap.size) :
    Calls Try.prog 112 #[.slice A es.length c] w fun e w' => ∃ A' c', e = .returned (.tuple #[.slice A' (tabR es).length c', .bool (good es)]) ∧ IS w' w.heap.size w'.heap.size A' (tabR es) ∧ Below w.heap.size w w' :=
  (iTableOf_any L B A c es w hl hes hB).mono fun e w' h => IntsRes.is h

theorem nil_fin {w w' : World} {xs : List Int} {ok : Bool} (hx : xs = []) (hok : ok = false) (hb : Below w.heap.size w w') : IntsRes w xs ok (.returned (.tuple #[.slice none 0 0, .bool false])) w' := by
  subst hx; subst hok
  exact ⟨none, 0, rfl, OW.nil _ _ _, hb⟩

set_option maxHeartbeats 4000000 in
theorem differencesOf_any (L B L' B' : Nat) (A A' : Option Addr) (c c' : Nat) (es fs : List Nd) (w : World) (hl : es.length ≤ 1048576) (hl' : fs.length ≤ 1048576) (hes : NS w L B A es) (hfs : NS w L' B' A' fs) (hB : B ≤ w.heap.size) (hB' : B' ≤ w.heap.size) :
    Calls Try.prog 76 #[.slice A es.length c, .slice A' fs.length c'] w (IntsRes w (difR es fs) (ok2 es fs)) := by
  have GE := Lib.hid fun (W : World) (hW : Below w.heap.size w W) => iTable_is L B A c es W hl (hes.below hW hB) (Nat.le_trans hB hW.size)
  have GF := Lib.hid fun (W : World) (hW : Below w.heap.size w W) => iTable_is L' B' A' c' fs W hl' (hfs.below hW hB') (Nat.le_trans hB' hW.size)
  have b0 := Lib.hid (Below.refl w.heap.size w)
  clear hes hfs hB hB'
  cases hok' : ok2 es fs
  · have hR := Lib.hid (show difR es fs = [] by unfold difR; rw [if_neg (by rw [hok']; decide)])
    cases hg : good es
    all_goals
      cases hf : good fs
      all_goals
        first
        | (simp [ok2, hg, hf] at hok'; done)
        | (rw [hg] at GE
           rw [hf] at GF
           clear hok' hg hf
           go_enter Try.func76, Try.ntmps76
           go_wp2_with (fail)
           refine (GE.out w b0.out).mono ?_
           rintro e w1 ⟨V1, v1, rfl, _, hb⟩
           have b1 := Lib.hid (b0.out.trans (hb.mono b0.out.size)); clear hb
           go_wp2_with (fail)
           refine (GF.out w1 b1.out).mono ?_
           rintro e w2 ⟨V2, v2, rfl, _, hb⟩
           have b2 := Lib.hid (b1.out.trans (hb.mono b1.out.size)); clear hb
           go_wp2_with (fail)
           go_ret2
           exact nil_fin hR.out rfl b2.out)
  simp only [ok2, Bool.and_eq_true] at hok'
  have hR := Lib.hid (show difR es fs = difT (tab es) (tab fs) by unfold difR; rw [if_pos (by simp [ok2, hok'])])
  rw [hok'.1] at GE
  rw [hok'.2] at GF
  have he := Lib.hid (show tabR es = tab es by unfold tabR; rw [if_pos hok'.1])
  have hf := Lib.hid (show tabR fs = tab fs by unfold tabR; rw [if_pos hok'.2])
  rw [he.out, tab_len] at GE
  rw [hf.out, tab_len] at GF
  clear hok' he hf
  go_enter Try.func76, Try.ntmps76
  go_wp2_with (fail)
  refine (GE.out w b0.out).mono ?_
  rintro e w1 ⟨V1, v1, rfl, hi, hb⟩
  have b1 := Lib.hid (b0.out.trans (hb.mono b0.out.size)); clear hb
  have i1 := Lib.hid hi; clear hi
  go_wp2_with (fail)
  refine (GF.out w1 b1.out).mono ?_
  rintro e w2 ⟨V2, v2, rfl, hi, hb⟩
  have b2 := Lib.hid (b1.out.trans (hb.mono b1.out.size))
  have i2 := Lib.hid hi
  have j1 := Lib.hid (i1.out.below hb (Nat.le_refl _))
  have z2 := Lib.hid hb.size
  clear hb hi i1
  have hT := Lib.hid (tableFor_P (.slice V1 4096 v1) (.slice V2 4096 v2) (fun x0 x1 => bits .xor .i64 ((tab es).getD (64 * x0 + x1).toNat 0) ((tab fs).getD (64 * x0 + x1).toNat 0)) w2.heap.size (fun _ => True) w2 (Nat.le_refl _) trivial (fun _ _ _ _ => trivial)
    (differentBits_tells w2.heap.size _ _ _ _ V1 V2 v1 v2 (tab es) (tab fs) w2 (tab_len _) (tab_len _) j1.out i2.out z2.out (Nat.le_refl _) z2.out (Nat.le_refl _)))
  go_wp2_with (fail)
  refine hT.out.mono ?_
  rintro e w3 ⟨V3, v3, rfl, how, hb, _⟩
  have b3 := Lib.hid (b2.out.trans (hb.mono b2.out.size)); clear hb
  have o3 := Lib.hid how; clear how
  go_wp2_with (fail)
  go_ret2
  rw [hR.out]
  exact ⟨V3, v3, by rw [difT_len]; rfl, by rw [difT_len]; exact o3.out.lower b2.out.size, b3.out⟩

theorem dif_is (L B L' B' : Nat) (A A' : Option Addr) (c c' : Nat) (es fs : List Nd) (w : World) (hl : es.length ≤ 1048576) (hl' : fs.length ≤ 1048576) (hes : NS w L B A es) (hfs : NS w L' B' A' fs) (hB : B ≤ w.heap.size) (hB' : B' ≤ w.heap.size) :
    Calls Try.prog 76 #[.slice A es.length c, .slice A' fs.length c'] w fun e w' => ∃ V v, e = .returned (.tuple #[.slice V (difR es fs).length v, .bool (ok2 es fs)]) ∧ IS w' w.heap.size w'.heap.size V (difR es fs) ∧ Below w.heap.size w w' :=
  (differencesOf_any L B L' B' A A' c c' es fs w hl hl' hes hfs hB hB').mono fun e w' h => IntsRes.is h
theorem difR_len (es fs : List Nd) : (difR es fs).length ≤ 4096 := by
  unfold difR; split
  · rw [difT_len]; omega
  · simp


set_option maxHeartbeats 2000000 in
theorem countDifferences_any (L B : Nat) (V1 : Option Addr) (v1 n : Nat) (D : List Int) (w1 : World) (hn4 : n ≤ 4096) (hxn' : D.length = n) (hi : IS w1 L B V1 D) :
    Calls Try.prog 78 #[.slice V1 n v1] w1 fun e w' => e = .returned (.int .i64 (countI (fun i => D.getD i 0 != 0) n)) ∧ w1 = w' := by
  have i1 := Lib.hid hi
  have hxn := Lib.hid hxn'
  clear hi hxn'
  obtain ⟨P, hP'⟩ : ∃ P : Nat → Bool, P = fun i => D.getD i 0 != 0 := ⟨_, rfl⟩
  rw [← hP']
  have hP := Lib.hid hP'
  clear hP'
  go_enter Try.func78, Try.ntmps78
  go_wp2
  go_loop [3, 8] (fun q i => ∃ k : Nat, k ≤ n ∧ i = .int .i64 k ∧ q = .int .i64 (countI P k)) (fun _ i => n - (intOf i).toNat)
  case atStart => exact ⟨0, Nat.zero_le _, rfl, rfl⟩
  case round =>
    obtain ⟨k, hk, rfl, rfl⟩ := hrel
    by_cases hlt : k < n
    · have hkx : k < D.length := by rw [hxn.out]; exact hlt
      obtain ⟨b, o, rfl, _, hc⟩ := i1.out (by rw [hxn.out]; omega)
      have c1 := hc k hkx
      have hS : Hid (P k = (D[k] != 0)) := by unfold Hid; rw [hP.out]; show (D.getD k 0 != 0) = _; rw [getD_get hkx]
      clear hc
      generalize hgx : D[k] = x at *
      clear hgx hkx
      have hbd := countI_bd P k
      have HC := Lib.hid (isDifference_any x w1)
      cases hb : (x != 0)
      · rw [hb] at HC
        have hS2 := Lib.hid (countI_no (by rw [hS.out]; exact hb) : countI P (k + 1) = countI P k)
        generalize countI P k = q at *
        go_wp2_with (fail)
        refine HC.out.mono ?_
        rintro e w' ⟨rfl, rfl⟩
        go_wp2
        go_round
        case rel => exact ⟨k + 1, by omega, by go_num, by rw [hS2.out]⟩
        case measure => simp [intOf]; omega
      · rw [hb] at HC
        have hS2 := Lib.hid (countI_yes (by rw [hS.out]; exact hb) : countI P (k + 1) = countI P k + 1)
        generalize countI P k = q at *
        go_wp2_with (fail)
        refine HC.out.mono ?_
        rintro e w' ⟨rfl, rfl⟩
        go_wp2
        go_round
        case rel => exact ⟨k + 1, by omega, by go_num, by rw [hS2.out]⟩
        case measure => simp [intOf]; omega
    · obtain rfl : k = n := by omega
      go_wp2
      go_ret
      exact ⟨rfl, rfl⟩

set_option maxHeartbeats 2000000 in
theorem firstDifference_any (L B : Nat) (V1 : Option Addr) (v1 n : Nat) (D : List Int) (w1 : World) (hn4 : n ≤ 4096) (hxn' : D.length = n) (hi : IS w1 L B V1 D) :
    Calls Try.prog 77 #[.slice V1 n v1] w1 fun e w' => e = .returned (.tuple #[.int .i64 (if firstI (fun i => D.getD i 0 != 0) n < 0 then 0 else firstI (fun i => D.getD i 0 != 0) n / 64), .int .i64 (if firstI (fun i => D.getD i 0 != 0) n < 0 then 0 else firstI (fun i => D.getD i 0 != 0) n % 64), .bool (decide (0 ≤ firstI (fun i => D.getD i 0 != 0) n))]) ∧ w1 = w' := by
  have HI := Lib.hid (indexFunc_isDifference L B V1 v1 n D w1 (by omega) hxn' hi)
  have hbd := firstI_bd (fun i => D.getD i 0 != 0) n
  clear hi hxn'
  generalize firstI (fun i => D.getD i 0 != 0) n = r at *
  by_cases hn : r < 0
  · rw [if_pos hn, if_pos hn, decide_eq_false (by omega : ¬ (0 ≤ r))]
    go_enter Try.func77, Try.ntmps77
    go_wp2_with (fail)
    refine HI.out.mono ?_
    rintro e w2 ⟨rfl, rfl⟩
    go_wp2_with (fail)
    go_ret3
    exact ⟨rfl, rfl⟩
  · rw [if_neg hn, if_neg hn, decide_eq_true (by omega : 0 ≤ r)]
    obtain ⟨k, rfl⟩ := Int.eq_ofNat_of_zero_le (by omega : 0 ≤ r)
    go_enter Try.func77, Try.ntmps77
    go_wp2_with (fail)
    refine HI.out.mono ?_
    rintro e w2 ⟨rfl, rfl⟩
    go_wp2_with (fail)
    refine (inputsAt_any k _ (by omega)).mono ?_
    rintro e w2 ⟨rfl, rfl⟩
    go_wp2_with (fail)
    go_ret3
    exact ⟨rfl, rfl⟩


set_option maxHeartbeats 2000000 in
theorem iCountDifferences_any (L B L' B' : Nat) (A A' : Option Addr) (c c' : Nat) (es fs : List Nd) (w : World) (hl : es.length ≤ 1048576) (hl' : fs.length ≤ 1048576) (hes : NS w L B A es) (hfs : NS w L' B' A' fs) (hB : B ≤ w.heap.size) (hB' : B' ≤ w.heap.size) :
    Calls Try.prog 35 #[.slice A es.length c, .slice A' fs.length c'] w fun e w' => e = .returned (.tuple #[.int .i64 (cdR es fs), .bool (ok2 es fs)]) ∧ Below w.heap.size w w' := by
  have HD := Lib.hid (dif_is L B L' B' A A' c c' es fs w hl hl' hes hfs hB hB')
  have hln := Lib.hid (difR_len es fs)
  clear hes hfs hB hB'
  have q1 := Lib.hid (difR_first es fs)
  have q2 := Lib.hid (difR_count es fs)
  have q3 := Lib.hid (difR_or es fs)
  generalize hD : difR es fs = D at *
  clear hD
  obtain ⟨n, hn⟩ : ∃ n, n = D.length := ⟨_, rfl⟩
  rw [← hn] at HD hln q1 q2 q3
  have hxn := Lib.hid hn.symm
  clear hn
  have hn4 : n ≤ 4096 := hln.out
  go_enter Try.func35, Try.ntmps35
  go_wp2_with (fail)
  refine HD.out.mono ?_
  rintro e w1 ⟨V1, v1, rfl, hi, hb⟩
  have b1 := Lib.hid hb
  have i1 := Lib.hid hi
  clear hb hi
  go_wp2_with (fail)
  refine (countDifferences_any _ _ _ _ n D w1 (by omega) hxn.out i1.out).mono ?_
  rintro e w2 ⟨rfl, rfl⟩
  rw [q2.out]
  go_wp2_with (fail)
  go_ret2
  exact ⟨rfl, b1.out⟩


set_option maxHeartbeats 2000000 in
theorem iFirstDifference_any (L B L' B' : Nat) (A A' : Option Addr) (c c' : Nat) (es fs : List Nd) (w : World) (hl : es.length ≤ 1048576) (hl' : fs.length ≤ 1048576) (hes : NS w L B A es) (hfs : NS w L' B' A' fs) (hB : B ≤ w.heap.size) (hB' : B' ≤ w.heap.size) :
    Calls Try.prog 33 #[.slice A es.length c, .slice A' fs.length c'] w fun e w' => e = .returned (.tuple #[.int .i64 (fd0 es fs), .int .i64 (fd1 es fs), .bool (fdB es fs)]) ∧ Below w.heap.size w w' := by
  have HD := Lib.hid (dif_is L B L' B' A A' c c' es fs w hl hl' hes hfs hB hB')
  have hln := Lib.hid (difR_len es fs)
  clear hes hfs hB hB'
  have q1 := Lib.hid (difR_first es fs)
  have q2 := Lib.hid (difR_count es fs)
  have q3 := Lib.hid (difR_or es fs)
  generalize hD : difR es fs = D at *
  clear hD
  obtain ⟨n, hn⟩ : ∃ n, n = D.length := ⟨_, rfl⟩
  rw [← hn] at HD hln q1 q2 q3
  have hxn := Lib.hid hn.symm
  clear hn
  have hn4 : n ≤ 4096 := hln.out
  go_enter Try.func33, Try.ntmps33
  go_wp2_with (fail)
  refine HD.out.mono ?_
  rintro e w1 ⟨V1, v1, rfl, hi, hb⟩
  have b1 := Lib.hid hb
  have i1 := Lib.hid hi
  clear hb hi
  go_wp2_with (fail)
  refine (firstDifference_any _ _ _ _ n D w1 (by omega) hxn.out i1.out).mono ?_
  rintro e w2 ⟨rfl, rfl⟩
  rw [q1.out]
  have hFD : Hid (fd0 es fs = if fdR es fs < 0 then 0 else fdR es fs / 64) := rfl
  have hFD1 : Hid (fd1 es fs = if fdR es fs < 0 then 0 else fdR es fs % 64) := rfl
  have hFB : Hid (fdB es fs = decide (0 ≤ fdR es fs)) := rfl
  rw [← hFD.out, ← hFD1.out, ← hFB.out]
  clear q1 hFD hFD1 hFB
  go_wp2_with (fail)
  go_ret3
  exact ⟨rfl, b1.out⟩


end Go.Proofs.Ytekjgngkipbefaa
