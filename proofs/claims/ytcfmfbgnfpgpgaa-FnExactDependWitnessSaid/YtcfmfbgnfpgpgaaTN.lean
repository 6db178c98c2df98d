import Derived.Test.YtcfmfbgnfpgpgaaTS
import Derived.Test.YtcfmfbgnfpgpgaaTL
import Derived.Test.YtcfmfbgnfpgpgaaCG
import Derived.Deep.RegionHeld3
import Derived.WalkKit
import Derived.WalkSpells
import Derived.WalkLawsBesides
import Derived.StillTailTactics
import Derived.Deep.QuietTactic
import Derived.BigQuiet
import Derived.Lib.Hide
/- Functions of chapter 3 of one expression's table. -/
namespace Go.Proofs.Ytcfmfbgnfpgpgaa
open Go.RowKit
set_option linter.unusedVariables false
set_option maxRecDepth 100000

theorem isK_inR (k : Int) : inR k 0 1 = isK k := by
  unfold inR isK
  rw [Bool.eq_iff_iff]; simp only [Bool.and_eq_true, decide_eq_true_eq, Bool.or_eq_true, beq_iff_eq]; omega
theorem allIn_co {xs : List Int} {n : Nat} (hn : xs.length = n) : allIn xs (xs.getD 0 0) (xs.getD 0 0) = coI xs n := by
  rw [Bool.eq_iff_iff, coI_iff]
  unfold allIn
  rw [List.all_eq_true]
  constructor
  · intro h i hi
    have hx : i < xs.length := by omega
    have := (inR_iff _ _ _).1 (h xs[i] (List.getElem_mem hx))
    rw [getD_get hx]; omega
  · intro h x hx
    obtain ⟨i, hi, rfl⟩ := List.getElem_of_mem hx
    have := h i (by omega)
    rw [getD_get hi] at this
    rw [inR_iff]; omega
theorem l1All_n (L B : Nat) (A : Option Addr) (c n : Nat) (xs : List Int) (lo hi : Int) (w : World) (hl : n ≤ 1048576) (hn : xs.length = n) (hx : IS w L B A xs) :
    Calls Try.prog 84 #[.slice A n c, .int .i64 lo, .int .i64 hi] w fun e w' => e = .returned (.bool (allIn xs lo hi)) ∧ w = w' := by
  subst hn; exact l1All_any L B A c xs lo hi w hl hx
theorem tmin_r (es : List Nd) (h : good es = true) : minI (fun i => (tab es).getD i 0) 63 4096 = tmin es := by unfold tmin; rw [if_pos h]
theorem tmax_r (es : List Nd) (h : good es = true) : maxI (fun i => (tab es).getD i 0) 0 4096 = tmax es := by unfold tmax; rw [if_pos h]
theorem minI_succ (f : Nat → Int) (m : Int) (n : Nat) : minI f m (n + 1) = min (minI f m n) (f n) := rfl
theorem maxI_succ (f : Nat → Int) (m : Int) (n : Nat) : maxI f m (n + 1) = max (maxI f m n) (f n) := rfl

set_option maxHeartbeats 2000000 in
theorem sRangeOf_any (L B : Nat) (A : Option Addr) (c : Nat) (es : List Nd) (w : World) (hl : es.length ≤ 1048576) (hes : NS w L B A es) (hB : B ≤ w.heap.size) :
    Calls Try.prog 42 #[.slice A es.length c] w fun e w' => e = .returned (.tuple #[.int .i64 (tmin es), .int .i64 (tmax es), .bool (good es)]) ∧ Below w.heap.size w w' := by
  have HE := Lib.hid fun (W : World) (hW : Below w.heap.size w W) => exGood_any L B A c es W hl (hes.below hW hB) (Nat.le_trans hB hW.size)
  have TE := Lib.hid fun (W : World) (hW : Below w.heap.size w W) (hg : good es = true) => exTable_n L B A c es W hg (hes.below hW hB) (Nat.le_trans hB hW.size)
  clear hes hB
  have b0 := Lib.hid (Below.refl w.heap.size w)
  cases hg : good es
  · have h1 := Lib.hid (show tmin es = 0 by unfold tmin; rw [if_neg (by rw [hg]; decide)])
    have h2 := Lib.hid (show tmax es = 0 by unfold tmax; rw [if_neg (by rw [hg]; decide)])
    rw [hg] at HE
    clear hg TE
    go_enter Try.func42, Try.ntmps42
    go_wp2_with (fail)
    refine (HE.out w b0.out).mono ?_
    rintro e w1 ⟨rfl, hb⟩
    have b1 := Lib.hid hb; clear hb
    go_wp2_with (fail)
    go_ret3
    exact ⟨by rw [h1.out, h2.out]; rfl, b1.out⟩
  have hgh := Lib.hid hg
  have h1 := Lib.hid (tmin_r es hg)
  have h2 := Lib.hid (tmax_r es hg)
  rw [hg] at HE
  clear hg
  go_enter Try.func42, Try.ntmps42
  go_wp2_with (fail)
  refine (HE.out w b0.out).mono ?_
  rintro e w1 ⟨rfl, hb⟩
  have b1 := Lib.hid hb; clear hb
  go_wp2_with (fail)
  refine (TE.out w1 b1.out hgh.out).mono ?_
  rintro e w2 ⟨V1, v1, rfl, hi, hb⟩
  have b2 := Lib.hid (b1.out.trans (hb.mono b1.out.size)); clear hb
  have I1 := Lib.hid hi; clear hi
  have hlx := Lib.hid (tab_len es)
  have h1' := h1.out
  have h2' := h2.out
  rw [← hlx.out] at h1' h2'
  obtain ⟨n, hn⟩ : ∃ n, n = (tab es).length := ⟨_, rfl⟩
  rw [← hn] at h1' h2'
  have hn4 : n = 4096 := by rw [hn, hlx.out]
  rw [← hn4]
  have g1 := Lib.hid h1'
  have g2 := Lib.hid h2'
  have hxn := Lib.hid hn.symm
  have hnn : n ≤ 1000000 := by omega
  clear h1 h2 h1' h2' hn hn4 hlx
  generalize tab es = xs at *
  go_wp2
  go_loop [5, 6, 15] (fun lo hi i => ∃ k : Nat, k ≤ n ∧ i = .int .i64 k ∧ lo = .int .i64 (minI (fun i => xs.getD i 0) 63 k) ∧ hi = .int .i64 (maxI (fun i => xs.getD i 0) 0 k)) (fun _ _ i => n - (intOf i).toNat)
  case atStart => exact ⟨0, Nat.zero_le _, rfl, rfl, rfl⟩
  case round =>
    obtain ⟨k, hk, rfl, rfl, rfl⟩ := hrel
    by_cases hlt : k < n
    · have hkx : k < xs.length := by rw [hxn.out]; exact hlt
      obtain ⟨b, o, rfl, _, hc⟩ := I1.out (by rw [hxn.out]; omega)
      have c1 := hc k hkx
      have hS1 : Hid (minI (fun i => xs.getD i 0) 63 (k + 1) = min (minI (fun i => xs.getD i 0) 63 k) xs[k]) := by unfold Hid; rw [minI_succ, getD_get hkx]
      have hS2 : Hid (maxI (fun i => xs.getD i 0) 0 (k + 1) = max (maxI (fun i => xs.getD i 0) 0 k) xs[k]) := by unfold Hid; rw [maxI_succ, getD_get hkx]
      clear hc
      generalize hgx : xs[k] = x at *
      clear hgx hkx
      generalize minI (fun i => xs.getD i 0) 63 k = p at *
      generalize maxI (fun i => xs.getD i 0) 0 k = q at *
      go_wp2_with (fail)
      refine (l1Least_any _ _ _).mono ?_
      rintro e w' ⟨rfl, rfl⟩
      go_wp2_with (fail)
      refine (l1Most_any _ _ _).mono ?_
      rintro e w' ⟨rfl, rfl⟩
      go_wp2
      go_round
      case rel => exact ⟨k + 1, by omega, by go_num, by rw [hS1.out], by rw [hS2.out]⟩
      case measure => simp [intOf]; omega
    · obtain rfl : k = n := by omega
      have g1' := g1.out
      have g2' := g2.out
      generalize minI (fun i => xs.getD i 0) 63 k = p at *
      generalize maxI (fun i => xs.getD i 0) 0 k = q at *
      have g1h := Lib.hid g1'
      have g2h := Lib.hid g2'
      clear g1' g2'
      go_wp2
      go_ret3
      exact ⟨by rw [← g1h.out, ← g2h.out]; rfl, b2.out⟩

set_option maxHeartbeats 2000000 in
theorem sConstantOf_any (L B : Nat) (A : Option Addr) (c : Nat) (es : List Nd) (w : World) (hl : es.length ≤ 1048576) (hes : NS w L B A es) (hB : B ≤ w.heap.size) :
    Calls Try.prog 40 #[.slice A es.length c] w fun e w' => e = .returned (.tuple #[.int .i64 (coR es), .bool (coB es)]) ∧ Below w.heap.size w w' := by
  have HE := Lib.hid fun (W : World) (hW : Below w.heap.size w W) => exGood_any L B A c es W hl (hes.below hW hB) (Nat.le_trans hB hW.size)
  have TE := Lib.hid fun (W : World) (hW : Below w.heap.size w W) (hg : good es = true) => exTable_n L B A c es W hg (hes.below hW hB) (Nat.le_trans hB hW.size)
  clear hes hB
  have b0 := Lib.hid (Below.refl w.heap.size w)
  cases hg : good es
  · have h1 := Lib.hid (show coB es = false by unfold coB; rw [hg]; rfl)
    have h2 := Lib.hid (show coR es = 0 by unfold coR; rw [if_neg (by rw [h1.out]; decide)])
    rw [hg] at HE
    clear hg TE
    go_enter Try.func40, Try.ntmps40
    go_wp2_with (fail)
    refine (HE.out w b0.out).mono ?_
    rintro e w1 ⟨rfl, hb⟩
    have b1 := Lib.hid hb; clear hb
    go_wp2_with (fail)
    go_ret2
    exact ⟨by rw [h1.out, h2.out]; rfl, b1.out⟩
  have hgh := Lib.hid hg
  have h1 := Lib.hid (show coB es = coI (tab es) 4096 by unfold coB; rw [hg, Bool.true_and])
  have h2 : Hid (coR es = if coB es = true then (tab es).getD 0 0 else 0) := rfl
  have h3 := Lib.hid (allIn_co (tab_len es))
  rw [hg] at HE
  clear hg
  go_enter Try.func40, Try.ntmps40
  go_wp2_with (fail)
  refine (HE.out w b0.out).mono ?_
  rintro e w1 ⟨rfl, hb⟩
  have b1 := Lib.hid hb; clear hb
  go_wp2_with (fail)
  refine (TE.out w1 b1.out hgh.out).mono ?_
  rintro e w2 ⟨V1, v1, rfl, hi, hb⟩
  have b2 := Lib.hid (b1.out.trans (hb.mono b1.out.size))
  have hl0 : 0 < (tab es).length := by rw [tab_len]; omega
  obtain ⟨b, o, rfl, ⟨_, hbB⟩, hc⟩ := hi hl0
  have c0 := hc 0 hl0
  rw [← getD_get hl0, Nat.add_zero] at c0
  have bd := Lib.hid ((Below.refl w2.heap.size w2).drew)
  have HA := Lib.hid (l1All_n _ _ _ v1 4096 (tab es) ((tab es).getD 0 0) ((tab es).getD 0 0) w2.drew (by omega) (tab_len es) (hi.below bd.out (Nat.le_refl _)))
  rw [h3.out, ← h1.out] at HA
  clear h3 h1 hc hi hl0 hb TE HE
  generalize (tab es).getD 0 0 = t0 at *
  have h4 : (0 : Int) < (4096 : Int) := by omega
  have c0' : w2.drew.cell? ⟨b, o, none⟩ = some (.int .i64 t0) := c0
  have b2d := Lib.hid b2.out.drew
  cases hcb : coB es
  all_goals
    rw [hcb] at HA h2
    go_wp2_with (fail)
    go_region_held3 (fun w' => w'.cell? ⟨b, o, none⟩ = some (.int .i64 t0))
      (first | exact c0 | exact c0' | go_keep)
      ((first | (go_at_call 84; (with_reducible refine HA.out.mono ?_); rintro e w' ⟨rfl, rfl⟩)))
    all_goals
      go_wp2
      go_ret2
      exact ⟨by rw [h2.out, hcb]; rfl, b2d.out⟩

set_option maxHeartbeats 2000000 in
theorem sIsSymmetric_any (L B : Nat) (A : Option Addr) (c : Nat) (es : List Nd) (w : World) (hl : es.length ≤ 1048576) (hes : NS w L B A es) (hB : B ≤ w.heap.size) :
    Calls Try.prog 44 #[.slice A es.length c] w fun e w' => e = .returned (.tuple #[.bool (syR es), .bool (good es)]) ∧ Below w.heap.size w w' := by
  have HE := Lib.hid fun (W : World) (hW : Below w.heap.size w W) => exGood_any L B A c es W hl (hes.below hW hB) (Nat.le_trans hB hW.size)
  have TE := Lib.hid fun (W : World) (hW : Below w.heap.size w W) (hg : good es = true) => exTable_n L B A c es W hg (hes.below hW hB) (Nat.le_trans hB hW.size)
  clear hes hB
  have b0 := Lib.hid (Below.refl w.heap.size w)
  cases hg : good es
  · have h1 := Lib.hid (show syR es = false by unfold syR; rw [hg]; rfl)
    rw [hg] at HE
    clear hg TE
    go_enter Try.func44, Try.ntmps44
    go_wp2_with (fail)
    refine (HE.out w b0.out).mono ?_
    rintro e w1 ⟨rfl, hb⟩
    have b1 := Lib.hid hb; clear hb
    go_wp2_with (fail)
    go_ret2
    exact ⟨by rw [h1.out]; rfl, b1.out⟩
  have hgh := Lib.hid hg
  have h1 : syR es = decide (firstI (syI (tab es)) (tab es).length < 0) := by unfold syR; rw [hg, Bool.true_and, tab_len]
  rw [hg] at HE
  go_enter Try.func44, Try.ntmps44
  go_wp2_with (fail)
  refine (HE.out w b0.out).mono ?_
  rintro e w1 ⟨rfl, hb⟩
  have b1 := Lib.hid hb; clear hb
  go_wp2_with (fail)
  refine (TE.out w1 b1.out hgh.out).mono ?_
  rintro e w2 ⟨V1, v1, rfl, hi, hb⟩
  have b2 := Lib.hid (b1.out.trans (hb.mono b1.out.size)); clear hb
  have I1 := Lib.hid hi; clear hi
  have hlx := tab_len es
  obtain ⟨n, hn⟩ : ∃ n, n = (tab es).length := ⟨_, rfl⟩
  rw [← hn] at h1
  have hn4 := Lib.hid (show n = 4096 by rw [hn, hlx])
  rw [← hn4.out]
  have hxn := Lib.hid hn.symm
  have hR := Lib.hid h1
  clear h1 hn hlx hg TE HE hgh
  have hnn : n ≤ 1000000 := by have := hn4.out; omega
  generalize tab es = xs at *
  go_wp2
  go_loop [14] (fun i => ∃ k : Nat, k ≤ n ∧ i = .int .i64 k ∧ ∀ j, j < k → syI xs j = false) (fun i => n - (intOf i).toNat)
  case atStart => exact ⟨0, Nat.zero_le _, rfl, fun j hj => absurd hj (Nat.not_lt_zero _)⟩
  case round =>
    obtain ⟨k, hk, rfl, hh⟩ := hrel
    have hH := Lib.hid hh; clear hh
    by_cases hlt : k < n
    · have hkx : k < xs.length := by rw [hxn.out]; exact hlt
      obtain ⟨m, hm⟩ : ∃ m, m = 64 * (k % 64) + k / 64 := ⟨_, rfl⟩
      have hmx : m < xs.length := by rw [hxn.out]; have := hn4.out; omega
      have hmn : m < n := by rw [hxn.out] at hmx; exact hmx
      obtain ⟨b, o, rfl, _, hc⟩ := I1.out (by rw [hxn.out]; omega)
      have c1 := hc k hkx
      have c2 := hc m hmx
      have hS : Hid (syI xs k = (xs[m] != xs[k])) := by unfold Hid syI; rw [← hm, getD_get hkx, getD_get hmx]
      have hw0 : wrap64 ((k : Int) / 64) = (k : Int) / 64 := by have := hn4.out; unfold wrap64; omega
      have hw1 : wrap64 (64 * ((k : Int) % 64)) = 64 * ((k : Int) % 64) := by unfold wrap64; omega
      have hw2 : 64 * ((k : Int) % 64) + (k : Int) / 64 = (m : Int) := by omega
      have hw3 : wrap64 (m : Int) = (m : Int) := by unfold wrap64; omega
      clear hc hm
      generalize hgx : xs[k] = x at *
      generalize hgy : xs[m] = y at *
      clear hgx hgy hkx hmx
      cases hb : (y != x)
      · go_wp2
        go_round
        case rel => exact ⟨k + 1, by omega, by go_num, fun j hj => by
          by_cases e : j = k
          · rw [e, hS.out]; exact hb
          · exact hH.out j (by omega)⟩
        case measure => simp [intOf]; omega
      · go_wp2
        go_ret2
        exact ⟨by rw [hR.out, firstI_some hlt (by rw [hS.out]; exact hb) hH.out, (decide_eq_false (by omega) : decide ((k : Int) < 0) = false)]; rfl, b2.out⟩
    · obtain rfl : k = n := by omega
      go_wp2
      go_ret2
      exact ⟨by rw [hR.out, firstI_none hH.out]; rfl, b2.out⟩
end Go.Proofs.Ytcfmfbgnfpgpgaa
