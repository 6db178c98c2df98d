import Derived.Test.YtekjgngkipbefaaTF
import Derived.WalkKit
import Derived.WalkSpells
import Derived.WalkLawsBesides
import Derived.Lib.Hide
/- The model's functions of two expressions. -/
namespace Go.Proofs.Ytekjgngkipbefaa
open Go.RowKit
set_option linter.unusedVariables false
set_option maxRecDepth 100000

theorem exTable_n (L B : Nat) (A : Option Addr) (c : Nat) (es : List Nd) (w : World) (hg : good es = true) (hes : NS w L B A es) (hB : B ≤ w.heap.size) :
    Calls Try.prog 75 #[.slice A es.length c] w fun e w' => ∃ A' c', e = .returned (.slice A' 4096 c') ∧ IS w' w.heap.size w'.heap.size A' (tab es) ∧ Below w.heap.size w w' := by
  obtain ⟨hl1, hl24, hok⟩ := good_len hg
  refine (exTable_any L B A c es w hl24 hl1 hes hB hok).mono ?_
  rintro e w' ⟨A', c', rfl, how, hb⟩
  obtain ⟨A2, c2, hv, his⟩ := how.form
  injection hv with a b d
  subst a; subst d
  exact ⟨A', c', by rw [tab_len], his, hb⟩


set_option maxHeartbeats 4000000 in
theorem sFirstDifference_any (L B L' B' : Nat) (A A' : Option Addr) (c c' : Nat) (es fs : List Nd) (w : World) (hl : es.length ≤ 1048576) (hl' : fs.length ≤ 1048576) (hes : NS w L B A es) (hfs : NS w L' B' A' fs) (hB : B ≤ w.heap.size) (hB' : B' ≤ w.heap.size) :
    Calls Try.prog 32 #[.slice A es.length c, .slice A' fs.length c'] w fun e w' => e = .returned (.tuple #[.int .i64 (fd0 es fs), .int .i64 (fd1 es fs), .bool (fdB es fs)]) ∧ Below w.heap.size w w' := by
  have HE := Lib.hid fun (W : World) (hW : Below w.heap.size w W) => exGood_any L B A c es W hl (hes.below hW hB) (Nat.le_trans hB hW.size)
  have HF := Lib.hid fun (W : World) (hW : Below w.heap.size w W) => exGood_any L' B' A' c' fs W hl' (hfs.below hW hB') (Nat.le_trans hB' hW.size)
  have TE := Lib.hid fun (W : World) (hW : Below w.heap.size w W) (hg : good es = true) => exTable_n L B A c es W hg (hes.below hW hB) (Nat.le_trans hB hW.size)
  have TF := Lib.hid fun (W : World) (hW : Below w.heap.size w W) (hg : good fs = true) => exTable_n L' B' A' c' fs W hg (hfs.below hW hB') (Nat.le_trans hB' hW.size)
  clear hes hfs hB hB'
  have b0 := Lib.hid (Below.refl w.heap.size w)
  cases hg : good es
  · have hr := Lib.hid (show ok2 es fs = false by simp [ok2, hg])
    rw [hg] at HE
    clear TE TF HF
    go_enter Try.func32, Try.ntmps32
    go_wp2_with (fail)
    refine (HE.out w b0.out).mono ?_
    rintro e w1 ⟨rfl, hb⟩
    have b1 := Lib.hid (b0.out.trans (hb.mono b0.out.size)); clear hb
    go_wp2_with (fail)
    go_ret3
    exact ⟨by simp [fd0, fd1, fdB, fdR, hr.out], b1.out⟩
  cases hf : good fs
  · have hr := Lib.hid (show ok2 es fs = false by simp [ok2, hg, hf])
    rw [hg] at HE
    rw [hf] at HF
    clear TE TF
    go_enter Try.func32, Try.ntmps32
    go_wp2_with (fail)
    refine (HE.out w b0.out).mono ?_
    rintro e w1 ⟨rfl, hb⟩
    have b1 := Lib.hid (b0.out.trans (hb.mono b0.out.size)); clear hb
    go_wp2_with (fail)
    refine (HF.out w1 b1.out).mono ?_
    rintro e w2 ⟨rfl, hb⟩
    have b2 := Lib.hid (b1.out.trans (hb.mono b1.out.size)); clear hb
    go_wp2_with (fail)
    go_ret3
    exact ⟨by simp [fd0, fd1, fdB, fdR, hr.out], b2.out⟩
  have hr := Lib.hid (show ok2 es fs = true by simp [ok2, hg, hf])
  have hge := Lib.hid hg
  have hgf := Lib.hid hf
  rw [hg] at HE
  rw [hf] at HF
  clear hg hf
  go_enter Try.func32, Try.ntmps32
  go_wp2_with (fail)
  refine (HE.out w b0.out).mono ?_
  rintro e w1 ⟨rfl, hb⟩
  have b1 := Lib.hid (b0.out.trans (hb.mono b0.out.size)); clear hb
  go_wp2_with (fail)
  refine (HF.out w1 b1.out).mono ?_
  rintro e w2 ⟨rfl, hb⟩
  have b2 := Lib.hid (b1.out.trans (hb.mono b1.out.size)); clear hb
  go_wp2_with (fail)
  refine (TE.out w2 b2.out hge.out).mono ?_
  rintro e w3 ⟨V1, v1, rfl, hi, hb⟩
  have b3 := Lib.hid (b2.out.trans (hb.mono b2.out.size)); clear hb
  have I1 := Lib.hid hi
  clear hi
  go_wp2_with (fail)
  refine (TF.out w3 b3.out hgf.out).mono ?_
  rintro e w4 ⟨V2, v2, rfl, hi, hb⟩
  have b4 := Lib.hid (b3.out.trans (hb.mono b3.out.size))
  have J1 := Lib.hid (I1.out.below hb (Nat.le_refl _))
  have I2 := Lib.hid hi
  have z4 := Lib.hid hb.size
  clear hi hb I1
  go_wp2_with (fail)
  refine (eqFirst_any _ _ _ _ _ _ _ _ 4096 (tab es) (tab fs) w4 (by omega) (tab_len _) (tab_len _) J1.out I2.out).mono ?_
  rintro e w5 ⟨rfl, rfl⟩
  have hq : Hid (fdR es fs = firstI (neI (tab es) (tab fs)) 4096) := by unfold Hid fdR; rw [if_pos hr.out]
  have hbd := firstI_bd (neI (tab es) (tab fs)) 4096
  rw [← hq.out] at hbd ⊢
  have hFD : Hid (fd0 es fs = if fdR es fs < 0 then 0 else fdR es fs / 64) := rfl
  have hFD1 : Hid (fd1 es fs = if fdR es fs < 0 then 0 else fdR es fs % 64) := rfl
  have hFB : Hid (fdB es fs = decide (0 ≤ fdR es fs)) := rfl
  generalize fdR es fs = r at *
  by_cases hn : r < 0
  · go_wp2_with (fail)
    go_ret3
    exact ⟨by rw [hFD.out, hFD1.out, hFB.out, if_pos hn, if_pos hn, decide_eq_false (by omega)]; rfl, b4.out⟩
  · obtain ⟨k, rfl⟩ := Int.eq_ofNat_of_zero_le (by omega : 0 ≤ r)
    go_wp2_with (fail)
    go_ret3
    refine ⟨?_, b4.out⟩
    rw [hFD.out, hFD1.out, hFB.out, if_neg (by omega), if_neg (by omega), (decide_eq_true (by omega) : decide (0 ≤ (k : Int)) = true)]
    have h1 : wrap64 ((k : Int) / 64) = (k : Int) / 64 := by unfold wrap64; omega
    rw [← h1]; rfl

set_option maxHeartbeats 4000000 in
theorem sCountDifferences_any (L B L' B' : Nat) (A A' : Option Addr) (c c' : Nat) (es fs : List Nd) (w : World) (hl : es.length ≤ 1048576) (hl' : fs.length ≤ 1048576) (hes : NS w L B A es) (hfs : NS w L' B' A' fs) (hB : B ≤ w.heap.size) (hB' : B' ≤ w.heap.size) :
    Calls Try.prog 34 #[.slice A es.length c, .slice A' fs.length c'] w fun e w' => e = .returned (.tuple #[.int .i64 (cdR es fs), .bool (ok2 es fs)]) ∧ Below w.heap.size w w' := by
  have HE := Lib.hid fun (W : World) (hW : Below w.heap.size w W) => exGood_any L B A c es W hl (hes.below hW hB) (Nat.le_trans hB hW.size)
  have HF := Lib.hid fun (W : World) (hW : Below w.heap.size w W) => exGood_any L' B' A' c' fs W hl' (hfs.below hW hB') (Nat.le_trans hB' hW.size)
  have TE := Lib.hid fun (W : World) (hW : Below w.heap.size w W) (hg : good es = true) => exTable_n L B A c es W hg (hes.below hW hB) (Nat.le_trans hB hW.size)
  have TF := Lib.hid fun (W : World) (hW : Below w.heap.size w W) (hg : good fs = true) => exTable_n L' B' A' c' fs W hg (hfs.below hW hB') (Nat.le_trans hB' hW.size)
  clear hes hfs hB hB'
  have b0 := Lib.hid (Below.refl w.heap.size w)
  cases hg : good es
  · have hr := Lib.hid (show ok2 es fs = false by simp [ok2, hg])
    rw [hg] at HE
    clear TE TF HF
    go_enter Try.func34, Try.ntmps34
    go_wp2_with (fail)
    refine (HE.out w b0.out).mono ?_
    rintro e w1 ⟨rfl, hb⟩
    have b1 := Lib.hid (b0.out.trans (hb.mono b0.out.size)); clear hb
    go_wp2_with (fail)
    go_ret2
    exact ⟨by simp [cdR, hr.out], b1.out⟩
  cases hf : good fs
  · have hr := Lib.hid (show ok2 es fs = false by simp [ok2, hg, hf])
    rw [hg] at HE
    rw [hf] at HF
    clear TE TF
    go_enter Try.func34, Try.ntmps34
    go_wp2_with (fail)
    refine (HE.out w b0.out).mono ?_
    rintro e w1 ⟨rfl, hb⟩
    have b1 := Lib.hid (b0.out.trans (hb.mono b0.out.size)); clear hb
    go_wp2_with (fail)
    refine (HF.out w1 b1.out).mono ?_
    rintro e w2 ⟨rfl, hb⟩
    have b2 := Lib.hid (b1.out.trans (hb.mono b1.out.size)); clear hb
    go_wp2_with (fail)
    go_ret2
    exact ⟨by simp [cdR, hr.out], b2.out⟩
  have hr := Lib.hid (show ok2 es fs = true by simp [ok2, hg, hf])
  have hge := Lib.hid hg
  have hgf := Lib.hid hf
  rw [hg] at HE
  rw [hf] at HF
  clear hg hf
  go_enter Try.func34, Try.ntmps34
  go_wp2_with (fail)
  refine (HE.out w b0.out).mono ?_
  rintro e w1 ⟨rfl, hb⟩
  have b1 := Lib.hid (b0.out.trans (hb.mono b0.out.size)); clear hb
  go_wp2_with (fail)
  refine (HF.out w1 b1.out).mono ?_
  rintro e w2 ⟨rfl, hb⟩
  have b2 := Lib.hid (b1.out.trans (hb.mono b1.out.size)); clear hb
  go_wp2_with (fail)
  refine (TF.out w2 b2.out hgf.out).mono ?_
  rintro e w3 ⟨V1, v1, rfl, hi, hb⟩
  have b3 := Lib.hid (b2.out.trans (hb.mono b2.out.size)); clear hb
  have I1 := Lib.hid hi
  clear hi
  go_wp2_with (fail)
  refine (TE.out w3 b3.out hge.out).mono ?_
  rintro e w4 ⟨V2, v2, rfl, hi, hb⟩
  have b4 := Lib.hid (b3.out.trans (hb.mono b3.out.size))
  have J1 := Lib.hid (I1.out.below hb (Nat.le_refl _))
  have I2 := Lib.hid hi
  have z4 := Lib.hid hb.size
  clear hi hb I1
  have hq : Hid (cdR es fs = countI (neI (tab es) (tab fs)) 4096) := by unfold Hid cdR; rw [if_pos hr.out]
  have hlx := Lib.hid (tab_len es)
  have hly := Lib.hid (tab_len fs)
  generalize tab es = xs at *
  generalize tab fs = ys at *
  obtain ⟨n, hn⟩ : ∃ n : Nat, n = 4096 := ⟨_, rfl⟩
  have hnn : n ≤ 1000000 := by omega
  rw [← hn] at hq hlx hly
  rw [← hn]
  clear hn
  go_wp2
  go_loop [7, 8, 23] (fun q _ i => ∃ k : Nat, k ≤ n ∧ i = .int .i64 k ∧ q = .int .i64 (countI (neI xs ys) k)) (fun _ _ i => n - (intOf i).toNat)
  case atStart => exact ⟨0, Nat.zero_le _, rfl, rfl⟩
  case round =>
    obtain ⟨k, hk, rfl, rfl⟩ := hrel
    by_cases hlt : k < n
    · have hkx : k < xs.length := by rw [hlx.out]; exact hlt
      have hky : k < ys.length := by rw [hly.out]; exact hlt
      obtain ⟨b, o, rfl, _, hc⟩ := I2.out (by omega)
      obtain ⟨b', o', rfl, _, hc'⟩ := J1.out (by omega)
      have c1 := hc k hkx
      have c2 := hc' k hky
      have hS : Hid (neI xs ys k = (xs[k] != ys[k])) := by unfold Hid neI; rw [getD_get hkx, getD_get hky]
      clear hc hc'
      generalize hgx : xs[k] = x at *
      generalize hgy : ys[k] = y at *
      clear hgx hgy hkx hky
      have hbd := countI_bd (neI xs ys) k
      cases hb : (x != y)
      · have hS2 := Lib.hid (countI_no (by rw [hS.out]; exact hb) : countI (neI xs ys) (k + 1) = countI (neI xs ys) k)
        generalize countI (neI xs ys) k = q at *
        go_wp2
        go_round
        case rel => exact ⟨k + 1, by omega, by go_num, by rw [hS2.out]⟩
        case measure => simp [intOf]; omega
      · have hS2 := Lib.hid (countI_yes (by rw [hS.out]; exact hb) : countI (neI xs ys) (k + 1) = countI (neI xs ys) k + 1)
        generalize countI (neI xs ys) k = q at *
        go_wp2
        go_round
        case rel => exact ⟨k + 1, by omega, by go_num, by rw [hS2.out]⟩
        case measure => simp [intOf]; omega
    · obtain rfl : k = n := by omega
      go_wp2
      go_ret2
      exact ⟨by rw [hq.out, hr.out]; rfl, b4.out⟩

end Go.Proofs.Ytekjgngkipbefaa
