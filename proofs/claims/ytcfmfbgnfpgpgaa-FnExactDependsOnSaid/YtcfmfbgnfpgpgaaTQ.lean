import Derived.Test.YtcfmfbgnfpgpgaaTO
import Derived.Test.YtcfmfbgnfpgpgaaLawX
import Derived.WalkKit
import Derived.WalkSpells
import Derived.WalkLawsBesides
import Derived.Lib.Hide
/- Functions of one expression's table: both sides. -/
namespace Go.Proofs.Ytcfmfbgnfpgpgaa
open Go.RowKit
set_option linter.unusedVariables false
set_option maxRecDepth 100000

theorem wi_dp {es : List Nd} {k : Int} (hg : good es = true) (hk : isK k = true) : wiR (tab es) k 4096 = dwR es k ∧ decide (0 ≤ wiI (tab es) k 4096) = dpR es k := by
  have hd : dpI es k = wiI (tab es) k 4096 := by unfold dpI; rw [if_pos (by simp [dpB, hg, hk])]; rfl
  unfold wiR dwR dpR; rw [hd]; exact ⟨rfl, rfl⟩
theorem dp_bad {es : List Nd} {k : Int} (h : dpB es k = false) : dwR es k = [] ∧ dpR es k = false ∧ dpI es k = -1 := by
  have hd : dpI es k = -1 := by unfold dpI; rw [if_neg (by rw [h]; decide)]
  unfold dwR dpR; rw [hd]; exact ⟨rfl, rfl, rfl⟩
theorem cwR_len (es : List Nd) (k : Int) : (cwR es k).length ≤ 4096 := by
  unfold cwR; split
  · rw [lwT_len]; omega
  · simp
theorem dpI_hi (es : List Nd) (k : Int) : -1 ≤ dpI es k ∧ dpI es k < 4096 := by
  unfold dpI; split
  · have := firstI_bd (fun i => isW (lwI (tab es) k i)) 4096; omega
  · omega
theorem cwR_at {es : List Nd} {k : Int} {q : Nat} (h : dpI es k = q) : q < (cwR es k).length ∧ (cwR es k).getD q 0 = lwI (tab es) k q := by
  have hh := dpI_hi es k
  have hB : dpB es k = true := by
    cases hb : dpB es k
    · have := (dp_bad hb).2.2; omega
    · rfl
  have hq : q < 4096 := by omega
  unfold cwR; rw [if_pos hB]
  exact ⟨by rw [lwT_len]; exact hq, lwT_get _ _ hq⟩


set_option maxHeartbeats 2000000 in
theorem sDependsOn_any (L B : Nat) (A : Option Addr) (c : Nat) (es : List Nd) (k : Int) (w : World) (hl : es.length ≤ 1048576) (hes : NS w L B A es) (hB : B ≤ w.heap.size) :
    Calls Try.prog 32 #[.slice A es.length c, .int .i64 k] w fun e w' => e = .returned (.tuple #[.bool (dpR es k), .bool (dpB es k)]) ∧ Below w.heap.size w w' := by
  have HE := Lib.hid (exGood_any L B A c es w hl hes hB)
  have WI := Lib.hid fun (W : World) (hW : Below w.heap.size w W) (hg : good es = true) (hk : isK k = true) => eqWitness_any L B A c es k W hg hk (hes.below hW hB) (Nat.le_trans hB hW.size)
  have HK := Lib.hid fun W => l1In_r k 0 1 W
  rw [isK_inR] at HK
  clear hes hB
  cases hg : good es
  · have hB := Lib.hid (show dpB es k = false by simp [dpB, hg])
    have hD := Lib.hid (dp_bad hB.out)
    rw [hg] at HE
    clear hg WI HK
    go_enter Try.func32, Try.ntmps32
    go_wp2_with (fail)
    refine HE.out.mono ?_
    rintro e w1 ⟨rfl, hb⟩
    have b1 := Lib.hid hb; clear hb
    go_wp2_with (fail)
    go_ret2
    exact ⟨by rw [hD.out.2.1, hB.out]; rfl, b1.out⟩
  cases hk : isK k
  · have hB := Lib.hid (show dpB es k = false by simp [dpB, hk])
    have hD := Lib.hid (dp_bad hB.out)
    rw [hg] at HE
    rw [hk] at HK
    clear hg hk WI
    go_enter Try.func32, Try.ntmps32
    go_wp2_with (fail)
    refine HE.out.mono ?_
    rintro e w1 ⟨rfl, hb⟩
    have b1 := Lib.hid hb; clear hb
    go_wp2_with (go_at_call 79; refine (HK.out _).mono ?_; rintro e w' ⟨rfl, rfl⟩)
    go_ret2
    exact ⟨by rw [hD.out.2.1, hB.out]; rfl, b1.out⟩
  have hB := Lib.hid (show dpB es k = true by simp [dpB, hg, hk])
  have hD := Lib.hid (wi_dp hg hk)
  have W2 := Lib.hid fun (W : World) (hW : Below w.heap.size w W) => WI.out W hW hg hk
  rw [hD.out.1, hD.out.2] at W2
  rw [hg] at HE
  rw [hk] at HK
  clear hg hk WI hD
  go_enter Try.func32, Try.ntmps32
  go_wp2_with (fail)
  refine HE.out.mono ?_
  rintro e w1 ⟨rfl, hb⟩
  have b1 := Lib.hid hb; clear hb
  go_wp2_with (go_at_call 79; refine (HK.out _).mono ?_; rintro e w' ⟨rfl, rfl⟩)
  refine (W2.out w1 b1.out).mono ?_
  rintro e w2 ⟨V1, v1, rfl, how, hb⟩
  have b2 := Lib.hid (b1.out.trans (hb.mono b1.out.size)); clear hb
  have o2 := Lib.hid (how.lower b1.out.size); clear how
  generalize dwR es k = xs at *
  go_wp2_with (fail)
  go_ret2
  exact ⟨by rw [hB.out]; rfl, b2.out⟩

set_option maxHeartbeats 2000000 in
theorem sDependWitness_any (L B : Nat) (A : Option Addr) (c : Nat) (es : List Nd) (k : Int) (w : World) (hl : es.length ≤ 1048576) (hes : NS w L B A es) (hB : B ≤ w.heap.size) :
    Calls Try.prog 34 #[.slice A es.length c, .int .i64 k] w (IntsRes w (dwR es k) (dpR es k)) := by
  have HE := Lib.hid (exGood_any L B A c es w hl hes hB)
  have WI := Lib.hid fun (W : World) (hW : Below w.heap.size w W) (hg : good es = true) (hk : isK k = true) => eqWitness_any L B A c es k W hg hk (hes.below hW hB) (Nat.le_trans hB hW.size)
  have HK := Lib.hid fun W => l1In_r k 0 1 W
  rw [isK_inR] at HK
  clear hes hB
  cases hg : good es
  · have hB := Lib.hid (show dpB es k = false by simp [dpB, hg])
    have hD := Lib.hid (dp_bad hB.out)
    rw [hg] at HE
    clear hg WI HK
    go_enter Try.func34, Try.ntmps34
    go_wp2_with (fail)
    refine HE.out.mono ?_
    rintro e w1 ⟨rfl, hb⟩
    have b1 := Lib.hid hb; clear hb
    go_wp2_with (fail)
    go_ret2
    exact nil_fin hD.out.1 hD.out.2.1 b1.out
  cases hk : isK k
  · have hB := Lib.hid (show dpB es k = false by simp [dpB, hk])
    have hD := Lib.hid (dp_bad hB.out)
    rw [hg] at HE
    rw [hk] at HK
    clear hg hk WI
    go_enter Try.func34, Try.ntmps34
    go_wp2_with (fail)
    refine HE.out.mono ?_
    rintro e w1 ⟨rfl, hb⟩
    have b1 := Lib.hid hb; clear hb
    go_wp2_with (go_at_call 79; refine (HK.out _).mono ?_; rintro e w' ⟨rfl, rfl⟩)
    go_ret2
    exact nil_fin hD.out.1 hD.out.2.1 b1.out
  have hB := Lib.hid (show dpB es k = true by simp [dpB, hg, hk])
  have hD := Lib.hid (wi_dp hg hk)
  have W2 := Lib.hid fun (W : World) (hW : Below w.heap.size w W) => WI.out W hW hg hk
  rw [hD.out.1, hD.out.2] at W2
  rw [hg] at HE
  rw [hk] at HK
  clear hg hk WI hD
  go_enter Try.func34, Try.ntmps34
  go_wp2_with (fail)
  refine HE.out.mono ?_
  rintro e w1 ⟨rfl, hb⟩
  have b1 := Lib.hid hb; clear hb
  go_wp2_with (go_at_call 79; refine (HK.out _).mono ?_; rintro e w' ⟨rfl, rfl⟩)
  refine (W2.out w1 b1.out).mono ?_
  rintro e w2 ⟨V1, v1, rfl, how, hb⟩
  have b2 := Lib.hid (b1.out.trans (hb.mono b1.out.size)); clear hb
  have o2 := Lib.hid (how.lower b1.out.size); clear how
  generalize dwR es k = xs at *
  go_wp2_with (fail)
  go_ret2
  exact ⟨V1, v1, rfl, o2.out, b2.out⟩

set_option maxHeartbeats 2000000 in
theorem changingWords_any (L B : Nat) (A : Option Addr) (c : Nat) (es : List Nd) (k : Int) (w : World) (hl : es.length ≤ 1048576) (hes : NS w L B A es) (hB : B ≤ w.heap.size) :
    Calls Try.prog 81 #[.slice A es.length c, .int .i64 k] w (IntsRes w (cwR es k) (dpB es k)) := by
  have GE := Lib.hid (iTable_is L B A c es w hl hes hB)
  have HK := Lib.hid fun W => isIndex_any k 2 W
  rw [show inR k 0 (2 - 1) = isK k from isK_inR k] at HK
  clear hes hB
  cases hg : good es
  · have h1 := Lib.hid (show dpB es k = false by simp [dpB, hg])
    have h2 := Lib.hid (show cwR es k = [] by unfold cwR; rw [if_neg (by rw [h1.out]; decide)])
    rw [hg] at GE
    clear hg HK
    go_enter Try.func81, Try.ntmps81
    go_wp2_with (fail)
    refine GE.out.mono ?_
    rintro e w1 ⟨V1, v1, rfl, _, hb⟩
    have b1 := Lib.hid hb; clear hb
    go_wp2_with (fail)
    go_ret2
    exact nil_fin h2.out h1.out b1.out
  cases hk : isK k
  · have h1 := Lib.hid (show dpB es k = false by simp [dpB, hk])
    have h2 := Lib.hid (show cwR es k = [] by unfold cwR; rw [if_neg (by rw [h1.out]; decide)])
    rw [hg] at GE
    rw [hk] at HK
    clear hg hk
    go_enter Try.func81, Try.ntmps81
    go_wp2_with (fail)
    refine GE.out.mono ?_
    rintro e w1 ⟨V1, v1, rfl, _, hb⟩
    have b1 := Lib.hid hb; clear hb
    go_wp2_with (go_at_call 102; refine (HK.out _).mono ?_; rintro e w' ⟨rfl, rfl⟩)
    go_ret2
    exact nil_fin h2.out h1.out b1.out
  have h1 := Lib.hid (show dpB es k = true by simp [dpB, hg, hk])
  have h2 := Lib.hid (show cwR es k = lwT (tab es) k by unfold cwR; rw [if_pos h1.out])
  have ht := Lib.hid (show tabR es = tab es by unfold tabR; rw [if_pos hg])
  have hkh := Lib.hid hk
  rw [ht.out, tab_len, hg] at GE
  rw [hk] at HK
  clear hg hk ht
  go_enter Try.func81, Try.ntmps81
  go_wp2_with (fail)
  refine GE.out.mono ?_
  rintro e w1 ⟨V1, v1, rfl, hi, hb⟩
  have b1 := Lib.hid hb
  have i1 := Lib.hid hi
  clear hb hi
  have hT := Lib.hid (tableFor_C (.slice V1 4096 v1) (.int .i64 k) (fun x0 x1 => lwI (tab es) k (64 * x0 + x1).toNat) w1.heap.size (fun _ => True) w1 (Nat.le_refl _) trivial (fun _ _ _ _ => trivial)
    (leastWord_tells w1.heap.size _ _ V1 v1 (tab es) k w1 (tab_len _) i1.out (Nat.le_refl _) (Nat.le_refl _) hkh.out))
  go_wp2_with (go_at_call 102; refine (HK.out _).mono ?_; rintro e w' ⟨rfl, rfl⟩)
  refine hT.out.mono ?_
  rintro e w3 ⟨V3, v3, rfl, how, hb, _⟩
  have b3 := Lib.hid (b1.out.trans (hb.mono b1.out.size)); clear hb
  have o3 := Lib.hid how; clear how
  go_wp2_with (fail)
  go_ret2
  rw [h1.out, h2.out]
  exact ⟨V3, v3, by rw [lwT_len]; rfl, by rw [lwT_len]; exact o3.out.lower b1.out.size, b3.out⟩

theorem cw_is (L B : Nat) (A : Option Addr) (c : Nat) (es : List Nd) (k : Int) (w : World) (hl : es.length ≤ 1048576) (hes : NS w L B A es) (hB : B ≤ w.heap.size) :
    Calls Try.prog 81 #[.slice A es.length c, .int .i64 k] w fun e w' => ∃ V v, e = .returned (.tuple #[.slice V (cwR es k).length v, .bool (dpB es k)]) ∧ IS w' w.heap.size w'.heap.size V (cwR es k) ∧ Below w.heap.size w w' :=
  (changingWords_any L B A c es k w hl hes hB).mono fun e w' h => IntsRes.is h

set_option maxHeartbeats 2000000 in
theorem iDependsOn_any (L B : Nat) (A : Option Addr) (c : Nat) (es : List Nd) (k : Int) (w : World) (hl : es.length ≤ 1048576) (hes : NS w L B A es) (hB : B ≤ w.heap.size) :
    Calls Try.prog 33 #[.slice A es.length c, .int .i64 k] w fun e w' => e = .returned (.tuple #[.bool (dpR es k), .bool (dpB es k)]) ∧ Below w.heap.size w w' := by
  have HC := Lib.hid (cw_is L B A c es k w hl hes hB)
  have q1 := Lib.hid (cwR_first es k)
  have hln := cwR_len es k
  clear hes hB
  generalize cwR es k = D at *
  obtain ⟨n, hn⟩ : ∃ n, n = D.length := ⟨_, rfl⟩
  rw [← hn] at HC hln q1
  have hxn := Lib.hid hn.symm
  have hdp : Hid (dpR es k = decide (0 ≤ dpI es k)) := rfl
  clear hn
  go_enter Try.func33, Try.ntmps33
  go_wp2_with (fail)
  refine HC.out.mono ?_
  rintro e w1 ⟨V1, v1, rfl, hi, hb⟩
  have b1 := Lib.hid hb
  have i1 := Lib.hid hi
  clear hb hi
  have H2 := Lib.hid (containsFunc_isWord _ _ V1 v1 n D w1 (by omega) hxn.out i1.out)
  rw [q1.out, ← hdp.out] at H2
  go_wp2_with (fail)
  refine H2.out.mono ?_
  rintro e w2 ⟨rfl, rfl⟩
  go_wp2_with (fail)
  go_ret2
  exact ⟨rfl, b1.out⟩

set_option maxHeartbeats 2000000 in
theorem iDependWitness_any (L B : Nat) (A : Option Addr) (c : Nat) (es : List Nd) (k : Int) (w : World) (hl : es.length ≤ 1048576) (hes : NS w L B A es) (hB : B ≤ w.heap.size) :
    Calls Try.prog 35 #[.slice A es.length c, .int .i64 k] w (IntsRes w (dwR es k) (dpR es k)) := by
  have HC := Lib.hid (cw_is L B A c es k w hl hes hB)
  have q1 := Lib.hid (cwR_first es k)
  have hln := cwR_len es k
  have hhi := dpI_hi es k
  have hat := Lib.hid fun (q : Nat) (h : dpI es k = q) => cwR_at h
  clear hes hB
  generalize cwR es k = D at *
  obtain ⟨n, hn⟩ : ∃ n, n = D.length := ⟨_, rfl⟩
  rw [← hn] at HC hln q1 hat
  have hxn := Lib.hid hn.symm
  have hdp : Hid (dpR es k = decide (0 ≤ dpI es k)) := rfl
  have hdw : Hid (dwR es k = if dpI es k < 0 then [] else [dpI es k / 64, dpI es k % 64, lwI (tab es) k (dpI es k).toNat]) := rfl
  clear hn
  go_enter Try.func35, Try.ntmps35
  go_wp2_with (fail)
  refine HC.out.mono ?_
  rintro e w1 ⟨V1, v1, rfl, hi, hb⟩
  have b1 := Lib.hid hb
  have i1 := Lib.hid hi
  clear hb hi
  have H2 := Lib.hid (indexFunc_isWord _ _ V1 v1 n D w1 (by omega) hxn.out i1.out)
  rw [q1.out] at H2
  clear q1
  generalize dpI es k = r at *
  go_wp2_with (fail)
  refine H2.out.mono ?_
  rintro e w2 ⟨rfl, rfl⟩
  by_cases hr : r < 0
  · go_wp2_with (fail)
    go_ret2
    exact nil_fin (by rw [hdw.out, if_pos hr]) (by rw [hdp.out]; exact decide_eq_false (by omega)) b1.out
  · obtain ⟨q, rfl⟩ := Int.eq_ofNat_of_zero_le (by omega : 0 ≤ r)
    obtain ⟨hqn, hqx⟩ := hat.out q rfl
    have hqD : q < D.length := by rw [hxn.out]; exact hqn
    obtain ⟨b, o, rfl, _, hc⟩ := i1.out (by rw [hxn.out]; omega)
    have c1 := hc q hqD
    rw [← getD_get hqD, hqx] at c1
    have hdq := Lib.hid (show dwR es k = [(q : Int) / 64, (q : Int) % 64, lwI (tab es) k q] by rw [hdw.out, if_neg (by omega), Int.toNat_natCast])
    clear hqx hc hqD hat hdw
    generalize lwI (tab es) k q = lw at *
    have q0 : (0 : Int) ≤ (q : Int) := by omega
    have q1 : (q : Int) < (n : Int) := by omega
    go_wp2_with (fail)
    refine (inputsAt_any q _ (by omega)).mono ?_
    rintro e w2 ⟨rfl, rfl⟩
    go_wp2_with (fail)
    go_ret2
    exact ints3 w1 w _ _ _ _ _ hdq.out (by rw [hdp.out]; exact decide_eq_true (by omega)) b1.out

set_option maxHeartbeats 2000000 in
theorem iRangeOf_any (L B : Nat) (A : Option Addr) (c : Nat) (es : List Nd) (w : World) (hl : es.length ≤ 1048576) (hes : NS w L B A es) (hB : B ≤ w.heap.size) :
    Calls Try.prog 43 #[.slice A es.length c] w fun e w' => e = .returned (.tuple #[.int .i64 (tmin es), .int .i64 (tmax es), .bool (good es)]) ∧ Below w.heap.size w w' := by
  have GE := Lib.hid (iTable_is L B A c es w hl hes hB)
  clear hes hB
  cases hg : good es
  · have h1 := Lib.hid (show tmin es = 0 by unfold tmin; rw [if_neg (by rw [hg]; decide)])
    have h2 := Lib.hid (show tmax es = 0 by unfold tmax; rw [if_neg (by rw [hg]; decide)])
    rw [hg] at GE
    clear hg
    go_enter Try.func43, Try.ntmps43
    go_wp2_with (fail)
    refine GE.out.mono ?_
    rintro e w1 ⟨V1, v1, rfl, _, hb⟩
    have b1 := Lib.hid hb; clear hb
    go_wp2_with (fail)
    go_ret3
    exact ⟨by rw [h1.out, h2.out]; rfl, b1.out⟩
  have h1 := Lib.hid (tmin_start hg)
  have h2 := Lib.hid (tmax_start hg)
  have ht := Lib.hid (show tabR es = tab es by unfold tabR; rw [if_pos hg])
  rw [ht.out, tab_len, hg] at GE
  clear hg ht
  go_enter Try.func43, Try.ntmps43
  go_wp2_with (fail)
  refine GE.out.mono ?_
  rintro e w1 ⟨V1, v1, rfl, hi, hb⟩
  have b1 := Lib.hid hb
  have i1 := Lib.hid hi
  clear hb hi
  have M1 := Lib.hid (slMin_any _ _ V1 v1 4096 (tab es) w1 (by omega) (by omega) (tab_len _) i1.out)
  have M2 := Lib.hid (slMax_any _ _ V1 v1 4096 (tab es) w1 (by omega) (by omega) (tab_len _) i1.out)
  rw [← h1.out] at M1
  rw [← h2.out] at M2
  go_wp2_with (fail)
  refine M1.out.mono ?_
  rintro e w2 ⟨rfl, rfl⟩
  go_wp2_with (fail)
  refine M2.out.mono ?_
  rintro e w2 ⟨rfl, rfl⟩
  go_wp2_with (fail)
  go_ret3
  exact ⟨rfl, b1.out⟩

set_option maxHeartbeats 2000000 in
theorem iConstantOf_any (L B : Nat) (A : Option Addr) (c : Nat) (es : List Nd) (w : World) (hl : es.length ≤ 1048576) (hes : NS w L B A es) (hB : B ≤ w.heap.size) :
    Calls Try.prog 41 #[.slice A es.length c] w fun e w' => e = .returned (.tuple #[.int .i64 (coR es), .bool (coB es)]) ∧ Below w.heap.size w w' := by
  have HR := Lib.hid (iRangeOf_any L B A c es w hl hes hB)
  clear hes hB
  cases hg : good es
  · have h1 := Lib.hid (show coB es = false by unfold coB; rw [hg]; rfl)
    have h2 := Lib.hid (show coR es = 0 by unfold coR; rw [if_neg (by rw [h1.out]; decide)])
    rw [hg] at HR
    clear hg
    go_enter Try.func41, Try.ntmps41
    go_wp2_with (fail)
    refine HR.out.mono ?_
    rintro e w1 ⟨rfl, hb⟩
    go_wp2_with (fail)
    go_ret2
    exact ⟨by rw [h1.out, h2.out]; rfl, hb⟩
  obtain ⟨k1, k2⟩ := co_iff hg
  have hk1 := Lib.hid k1
  have hk2 := Lib.hid k2
  have hco : Hid (coR es = if coB es = true then (tab es).getD 0 0 else 0) := rfl
  rw [hg] at HR
  clear hg k1 k2
  generalize tmin es = mn at *
  generalize tmax es = mx at *
  by_cases he : mn = mx
  · have h1 := Lib.hid (show coB es = true by rw [hk1.out]; exact decide_eq_true he)
    have h2 := Lib.hid (hk2.out h1.out)
    subst he
    go_enter Try.func41, Try.ntmps41
    go_wp2_with (fail)
    refine HR.out.mono ?_
    rintro e w1 ⟨rfl, hb⟩
    go_wp2_with (fail)
    go_ret2
    exact ⟨by rw [h1.out, h2.out]; rfl, hb⟩
  · have h1 := Lib.hid (show coB es = false by rw [hk1.out]; exact decide_eq_false he)
    have h2 := Lib.hid (show coR es = 0 by rw [hco.out, if_neg (by rw [h1.out]; decide)])
    go_enter Try.func41, Try.ntmps41
    go_wp2_with (fail)
    refine HR.out.mono ?_
    rintro e w1 ⟨rfl, hb⟩
    go_wp2_with (fail)
    go_ret2
    exact ⟨by rw [h1.out, h2.out]; rfl, hb⟩

theorem OW.is_of {w : World} {lo hi n c : Nat} {A : Option Addr} {xs : List Int} (h : OW w lo hi (.slice A n c) xs) : IS w lo hi A xs := by
  obtain ⟨A2, c2, hv, his⟩ := h.form
  injection hv with a _ _
  subst a; exact his

set_option maxHeartbeats 2000000 in
theorem iIsSymmetric_any (L B : Nat) (A : Option Addr) (c : Nat) (es : List Nd) (w : World) (hl : es.length ≤ 1048576) (hes : NS w L B A es) (hB : B ≤ w.heap.size) :
    Calls Try.prog 45 #[.slice A es.length c] w fun e w' => e = .returned (.tuple #[.bool (syR es), .bool (good es)]) ∧ Below w.heap.size w w' := by
  have GE := Lib.hid (iTable_is L B A c es w hl hes hB)
  clear hes hB
  cases hg : good es
  · have h1 := Lib.hid (show syR es = false by unfold syR; rw [hg]; rfl)
    rw [hg] at GE
    clear hg
    go_enter Try.func45, Try.ntmps45
    go_wp2_with (fail)
    refine GE.out.mono ?_
    rintro e w1 ⟨V1, v1, rfl, _, hb⟩
    have b1 := Lib.hid hb; clear hb
    go_wp2_with (fail)
    go_ret2
    exact ⟨by rw [h1.out]; rfl, b1.out⟩
  have h1 := Lib.hid (show decide (firstI (neI (tab es) (exT (tab es))) 4096 < 0) = syR es by rw [exT_ne]; unfold syR; rw [hg, Bool.true_and])
  have ht := Lib.hid (show tabR es = tab es by unfold tabR; rw [if_pos hg])
  rw [ht.out, tab_len, hg] at GE
  clear hg ht
  go_enter Try.func45, Try.ntmps45
  go_wp2_with (fail)
  refine GE.out.mono ?_
  rintro e w1 ⟨V1, v1, rfl, hi, hb⟩
  have b1 := Lib.hid hb
  have i1 := Lib.hid hi
  clear hb hi
  have hT := Lib.hid (tableFor_V V1 v1 (fun x0 x1 => (tab es).getD (64 * x1 + x0).toNat 0) w1.heap.size (fun _ => True) w1 (Nat.le_refl _) trivial (fun _ _ _ _ => trivial)
    (exchanged_tells w1.heap.size _ _ V1 v1 (tab es) w1 (tab_len _) i1.out (Nat.le_refl _)))
  go_wp2_with (fail)
  refine hT.out.mono ?_
  rintro e w3 ⟨V3, v3, rfl, how, hb, _⟩
  have b3 := Lib.hid (b1.out.trans (hb.mono b1.out.size))
  have j1 := Lib.hid (i1.out.below hb (Nat.le_refl _))
  have z3 := Lib.hid hb.size
  have hex : tabTo (fun x0 x1 => (tab es).getD (64 * x1 + x0).toNat 0) 4096 = exT (tab es) := rfl
  rw [hex] at how
  have o3 := Lib.hid (OW.is_of how)
  clear how hb
  have hE := Lib.hid (slEqual_any _ _ _ _ V1 V3 v1 v3 4096 (tab es) (exT (tab es)) w3 (by omega) (tab_len _) (exT_len _) j1.out o3.out z3.out (Nat.le_refl _))
  rw [h1.out] at hE
  go_wp2_with (fail)
  refine hE.out.mono ?_
  rintro e w4 ⟨rfl, hb⟩
  have b4 := Lib.hid (b3.out.trans (hb.mono b3.out.size)); clear hb
  go_wp2_with (fail)
  go_ret2
  exact ⟨rfl, b4.out⟩

theorem sDependsOn_k (L B : Nat) (A : Option Addr) (c : Nat) (es : List Nd) (k : Int) (w : World) (hl : es.length ≤ 1048576) (hes : RS Nd.enc 4 w L B A es) (hB : B ≤ w.heap.size) :
    Calls Try.prog 32 #[.slice A es.length c, .int .i64 k] w (ResDependsOn (dpR es k) (dpB es k) w) := sDependsOn_any L B A c es k w hl hes.ns hB
theorem iDependsOn_k (L B : Nat) (A : Option Addr) (c : Nat) (es : List Nd) (k : Int) (w : World) (hl : es.length ≤ 1048576) (hes : RS Nd.enc 4 w L B A es) (hB : B ≤ w.heap.size) :
    Calls Try.prog 33 #[.slice A es.length c, .int .i64 k] w (ResDependsOn (dpR es k) (dpB es k) w) := iDependsOn_any L B A c es k w hl hes.ns hB
theorem sDependWitness_k (L B : Nat) (A : Option Addr) (c : Nat) (es : List Nd) (k : Int) (w : World) (hl : es.length ≤ 1048576) (hes : RS Nd.enc 4 w L B A es) (hB : B ≤ w.heap.size) :
    Calls Try.prog 34 #[.slice A es.length c, .int .i64 k] w (ResDependWitness (dwR es k) (dpR es k) w) := sDependWitness_any L B A c es k w hl hes.ns hB
theorem iDependWitness_k (L B : Nat) (A : Option Addr) (c : Nat) (es : List Nd) (k : Int) (w : World) (hl : es.length ≤ 1048576) (hes : RS Nd.enc 4 w L B A es) (hB : B ≤ w.heap.size) :
    Calls Try.prog 35 #[.slice A es.length c, .int .i64 k] w (ResDependWitness (dwR es k) (dpR es k) w) := iDependWitness_any L B A c es k w hl hes.ns hB
theorem sConstantOf_k (L B : Nat) (A : Option Addr) (c : Nat) (es : List Nd) (w : World) (hl : es.length ≤ 1048576) (hes : RS Nd.enc 4 w L B A es) (hB : B ≤ w.heap.size) :
    Calls Try.prog 40 #[.slice A es.length c] w (ResConstantOf (coR es) (coB es) w) := sConstantOf_any L B A c es w hl hes.ns hB
theorem iConstantOf_k (L B : Nat) (A : Option Addr) (c : Nat) (es : List Nd) (w : World) (hl : es.length ≤ 1048576) (hes : RS Nd.enc 4 w L B A es) (hB : B ≤ w.heap.size) :
    Calls Try.prog 41 #[.slice A es.length c] w (ResConstantOf (coR es) (coB es) w) := iConstantOf_any L B A c es w hl hes.ns hB
theorem sRangeOf_k (L B : Nat) (A : Option Addr) (c : Nat) (es : List Nd) (w : World) (hl : es.length ≤ 1048576) (hes : RS Nd.enc 4 w L B A es) (hB : B ≤ w.heap.size) :
    Calls Try.prog 42 #[.slice A es.length c] w (ResRangeOf (tmin es) (tmax es) (good es) w) := sRangeOf_any L B A c es w hl hes.ns hB
theorem iRangeOf_k (L B : Nat) (A : Option Addr) (c : Nat) (es : List Nd) (w : World) (hl : es.length ≤ 1048576) (hes : RS Nd.enc 4 w L B A es) (hB : B ≤ w.heap.size) :
    Calls Try.prog 43 #[.slice A es.length c] w (ResRangeOf (tmin es) (tmax es) (good es) w) := iRangeOf_any L B A c es w hl hes.ns hB
theorem sIsSymmetric_k (L B : Nat) (A : Option Addr) (c : Nat) (es : List Nd) (w : World) (hl : es.length ≤ 1048576) (hes : RS Nd.enc 4 w L B A es) (hB : B ≤ w.heap.size) :
    Calls Try.prog 44 #[.slice A es.length c] w (ResIsSymmetric (syR es) (good es) w) := sIsSymmetric_any L B A c es w hl hes.ns hB
theorem iIsSymmetric_k (L B : Nat) (A : Option Addr) (c : Nat) (es : List Nd) (w : World) (hl : es.length ≤ 1048576) (hes : RS Nd.enc 4 w L B A es) (hB : B ≤ w.heap.size) :
    Calls Try.prog 45 #[.slice A es.length c] w (ResIsSymmetric (syR es) (good es) w) := iIsSymmetric_any L B A c es w hl hes.ns hB
end Go.Proofs.Ytcfmfbgnfpgpgaa
