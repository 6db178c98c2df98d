/- Texts of this proof, one behind the other: GL, GM, GO, AW, OC, ON. -/
import Derived.Test.YtgcbfiamhpfkhaaZ2
import Derived.WalkKit
import Derived.WalkSpells
import Derived.WalkLawsBesides
import Derived.Lib.Hide
import Derived.Test.YtgcbfiamhpfkhaaZ10
import Derived.Test.YtgcbfiamhpfkhaaZ3
import Derived.Test.YtgcbfiamhpfkhaaLawCC
import Derived.Test.YtgcbfiamhpfkhaaZ17
import Derived.ProofKit
import Derived.OpenShut
import Derived.ShutString
import Derived.ChangeOld
import Derived.Below
import Derived.Deep.Slices
import Derived.Deep.Fields
import Derived.Test.YtgcbfiamhpfkhaaKMNode
/- The model's IsCover. -/
namespace Go.Proofs.Ytgcbfiamhpfkhaa
open Go.RowKit
set_option linter.unusedVariables false
set_option maxRecDepth 100000

theorem tocR_len_ne {es : List Nd} {nums : List Int} (h : ¬ nums.length = es.length) : tocR es nums = none := by unfold tocR; rw [if_neg (fun e => h e.2)]
theorem tocR_st_none {es : List Nd} {nums : List Int} (h : cvSt es nums es.length = none) : tocR es nums = none := by
  unfold tocR; split
  · rw [h]
  · rfl
set_option maxHeartbeats 8000000 in
theorem cvIs_any (L B L' B' : Nat) (A A' : Option Addr) (c c' : Nat) (es : List Nd) (nums : List Int) (w : World) (ht : treeR es = true) (hn : nums.length ≤ 1048576) (hes : NS w L B A es) (hB : B ≤ w.heap.size) (hns : IS w L' B' A' nums) (hB' : B' ≤ w.heap.size) :
    Calls Try.prog 132 #[.slice A es.length c, .slice A' nums.length c'] w (BoolB w (tocR es nums).isSome) := by
  have hg : good es = true := by unfold treeR at ht; simp only [Bool.and_eq_true] at ht; exact ht.1
  obtain ⟨hl1, hl24, hok⟩ := good_len hg
  by_cases hln : nums.length = es.length
  rotate_left
  · have hN := Lib.hid (tocR_len_ne hln)
    have hne : ((nums.length : Int) != (es.length : Int)) = true := by simp; omega
    generalize tocR es nums = R at *
    clear hes hns hB hB' ht hg hok
    generalize es.length = n at *
    generalize nums.length = m at *
    go_enter Try.func132, Try.ntmps132
    go_wp2
    go_ret
    exact ⟨by rw [hN.out]; rfl, Below.refl _ _⟩
  have H := Lib.hid (cvNeeded_any L B L' B' A A' c c' es nums w ht hln hes hB hns hB')
  cases hs : cvSt es nums es.length with
  | none =>
    rw [hs] at H
    have hN := Lib.hid (tocR_st_none hs)
    have hnh := Lib.hid hln
    rw [hln]
    clear hs hes hns hB hB' ht hg hok hln hn
    generalize tocR es nums = R at *
    generalize es.length = n at *
    go_enter Try.func132, Try.ntmps132
    go_wp2_with (go_at_call 166; refine H.out.mono ?_; rintro e w1 ⟨rfl, hb1⟩; have hbh := Lib.hid hb1; clear hb1)
    go_ret
    exact ⟨by rw [hN.out]; rfl, hbh.out⟩
  | some s =>
    obtain ⟨cs, out⟩ := s
    rw [hs] at H
    have hR := Lib.hid (tocR_iff ht hln hs)
    have hE := Lib.hid (cv_eq hln hs)
    have hcl := Lib.hid (cvSt_len hs).1
    have hnl := Lib.hid hln
    have HN := Lib.hid fun (W : World) (hW : Below w.heap.size w W) => hns.below hW hB'
    rw [hln]
    generalize (tocR es nums).isSome = R at *
    clear hs hes hns hB hB' ht hg hok hln hn
    generalize es.length = n at *
    go_enter Try.func132, Try.ntmps132
    go_wp2_with (fail)
    refine H.out.mono ?_
    rintro e w1 ⟨g, rfl, hib, hgw, hb1⟩
    have hIB := Lib.hid hib
    have hBL := Lib.hid hb1
    dsimp only at hIB
    clear hib hb1 H
    go_wp2_with (fail)
    go_loop [24] (fun i => ∃ k : Nat, k ≤ n ∧ i = .int .i64 k ∧ ∀ j, j < k → cs.getD j 0 = -1 → nums.getD j 0 = -1) (fun i => n - (intOf i).toNat)
    case atStart => exact ⟨0, Nat.zero_le _, rfl, fun j hj => absurd hj (Nat.not_lt_zero _)⟩
    case round =>
      obtain ⟨k, hk, rfl, hh⟩ := hrel
      have hH := Lib.hid hh; clear hh
      by_cases hlt : k < n
      · have hki : (k : Int) < (n : Int) := by omega
        obtain ⟨nb, no, rfl, ⟨_, hnb⟩, hcc⟩ := HN.out w1 hBL.out (by rw [hnl.out]; omega)
        have x1 := hcc k (by rw [hnl.out]; exact hlt)
        rw [show nums[k]'(by rw [hnl.out]; exact hlt) = nums.getD k 0 from (getD_get (by rw [hnl.out]; exact hlt)).symm] at x1
        have y := hIB.out.cell k (by rw [ndB_len, hcl.out]; exact hlt)
        rw [ndB_get (by rw [hcl.out]; exact hlt)] at y
        have hlth := Lib.hid hlt
        clear hcc
        by_cases hc : cs.getD k 0 = -1
        · rw [hc, show ((-1 : Int) != -1) = false from rfl] at y
          by_cases ht : nums.getD k 0 = -1
          · have hS : Hid (∀ j, j < k + 1 → cs.getD j 0 = -1 → nums.getD j 0 = -1) := fun j hj => by
              by_cases e : j = k
              · rw [e]; exact fun _ => ht
              · exact hH.out j (by omega)
            rw [ht] at x1
            clear hc ht
            go_wp2
            have := hlth.out
            exact ⟨⟨k + 1, hlth.out, by go_num, hS.out⟩, by simp [intOf] <;> omega⟩
          · have hS : Hid (¬ cs = nums) := fun e => ht (hE.out.1 e k hlt hc)
            have htb : (nums.getD k 0 != -1) = true := by simpa using ht
            clear ht hc
            generalize nums.getD k 0 = t at *
            go_wp2
            go_ret
            exact ⟨by rw [hR.out, decide_eq_false hS.out]; rfl, hBL.out⟩
        · have hcb : (cs.getD k 0 != -1) = true := by simpa using hc
          have hS : Hid (∀ j, j < k + 1 → cs.getD j 0 = -1 → nums.getD j 0 = -1) := fun j hj => by
              by_cases e : j = k
              · rw [e]; exact fun e => absurd e hc
              · exact hH.out j (by omega)
          rw [hcb] at y
          clear hc hcb
          generalize nums.getD k 0 = t at *
          go_wp2
          have := hlth.out
          exact ⟨⟨k + 1, hlth.out, by go_num, hS.out⟩, by simp [intOf] <;> omega⟩
      · obtain rfl : k = n := by omega
        have hS : Hid (cs = nums) := hE.out.2 hH.out
        go_wp2
        go_ret
        exact ⟨by rw [hR.out, decide_eq_true hS.out]; rfl, hBL.out⟩

end Go.Proofs.Ytgcbfiamhpfkhaa

/- The model's CoverCost and TileUses. -/
namespace Go.Proofs.Ytgcbfiamhpfkhaa
open Go.RowKit
set_option linter.unusedVariables false
set_option maxRecDepth 100000

theorem mst_bd {es : List Nd} {nums : List Int} {out : List Ti} (h : tocR es nums = some out) {k : Nat} (hk : k ≤ es.length) : ∀ x ∈ mst es nums k, TiB x := by
  intro x hx
  unfold mst at hx
  rw [List.mem_map] at hx
  obtain ⟨i, hi, rfl⟩ := hx
  rw [List.mem_filter, List.mem_range] at hi
  obtain ⟨y, hy⟩ := (tocR_mst h).2 i (by omega) (by simpa using hi.2)
  unfold tD; rw [hy]
  exact tOf_bd hy
/-- A place that bears a tile: its number, its cost. -/
theorem mst_at {es : List Nd} {nums : List Int} {out : List Ti} (h : tocR es nums = some out) {k : Nat} (hk : k < es.length) (h0 : 0 ≤ nums.getD k 0) :
    ∃ n : Nat, nums.getD k 0 = (n : Int) ∧ n < 13 ∧ (tD es nums k).num = (n : Int) ∧ (tD es nums k).c = ctN n es[k] := by
  obtain ⟨y, hy⟩ := (tocR_mst h).2 k hk h0
  obtain ⟨n, hk', e, hn, hm⟩ := tOf_mt hy
  have hD : tD es nums k = y := by unfold tD; rw [hy]; rfl
  rw [hD]
  exact ⟨n, e, hn, mt_num hm, mt_c hm⟩
set_option maxHeartbeats 8000000 in
theorem cvSum_any (L B L' B' : Nat) (A A' : Option Addr) (c c' : Nat) (es : List Nd) (nums : List Int) (out : List Ti) (w : World) (h : tocR es nums = some out) (hes : NS w L B A es) (hns : IS w L' B' A' nums) :
    Calls Try.prog 80 #[.slice A es.length c, .slice A' nums.length c'] w fun e w' => e = .returned (.int .i64 (ccostR es nums)) ∧ w = w' := by
  obtain ⟨ht, hln, _⟩ := tocR_some h
  have hg : good es = true := by unfold treeR at ht; simp only [Bool.and_eq_true] at ht; exact ht.1
  obtain ⟨hl1, hl24, hok⟩ := good_len hg
  have HN := Lib.hid hns
  have hnl := Lib.hid hln
  have hR := Lib.hid (tocR_sum h)
  have hbd := Lib.hid fun k (hk : k ≤ es.length) => sumK_bd (mst_bd h hk)
  have hml := Lib.hid fun k => mst_len es nums k
  have hat := Lib.hid fun k (hk : k < es.length) (h0 : 0 ≤ nums.getD k 0) => (show ∃ t : Nat, nums.getD k 0 = (t : Int) ∧ t < 13 ∧ (tD es nums k).num = (t : Int) ∧ Calls Try.prog 125 #[.slice A es.length c, .int .i64 (k : Int), .int .i64 (t : Int)] w fun e w' => e = .returned (.int .i64 (tD es nums k).c) ∧ w = w' from by
    obtain ⟨t, e1, e2, e3, e4⟩ := mst_at h hk h0
    exact ⟨t, e1, e2, e3, by rw [e4]; exact cvCost_any L B A c es k t hk w hes⟩)
  have hcb := Lib.hid fun k (hk : k < es.length) (h0 : 0 ≤ nums.getD k 0) => (show TiB (tD es nums k) from by
    obtain ⟨t, e1, e2, e3, e4⟩ := mst_at h hk h0
    have := ctN_bd t es[k]
    exact ⟨by omega, by omega, by omega, by omega⟩)
  have hsk := Lib.hid fun k => @mst_skip es nums k
  have htk := Lib.hid fun k => @mst_take es nums k
  have hz := Lib.hid (mst_zero es nums)
  rw [hln]
  clear hes hns hg hok ht hln
  clear h
  generalize ccostR es nums = R at *
  generalize mst es nums = M at *
  generalize tD es nums = TD at *
  generalize es.length = n at *
  go_enter Try.func80, Try.ntmps80
  go_wp2_with (fail)
  go_loop [5, 10] (fun q i => ∃ k : Nat, k ≤ n ∧ i = .int .i64 k ∧ q = .int .i64 (sumK (M k))) (fun _ i => n - (intOf i).toNat)
  case atStart => exact ⟨0, Nat.zero_le _, rfl, by rw [hz.out]; rfl⟩
  case round =>
    obtain ⟨k, hk, rfl, rfl⟩ := hrel
    by_cases hlt : k < n
    · have hki : (k : Int) < (n : Int) := by omega
      obtain ⟨nb, no, rfl, _, hcc⟩ := HN.out (by rw [hnl.out]; omega)
      have x1 := hcc k (by rw [hnl.out]; exact hlt)
      rw [show nums[k]'(by rw [hnl.out]; exact hlt) = nums.getD k 0 from (getD_get (by rw [hnl.out]; exact hlt)).symm] at x1
      have hlth := Lib.hid hlt
      clear hcc
      by_cases h0 : 0 ≤ nums.getD k 0
      · obtain ⟨t, e1, e2, e3, hc⟩ := hat.out k hlt h0
        have hCC := Lib.hid hc
        have hS := Lib.hid (htk.out k h0)
        have hb1 := hbd.out k hk
        have hb2 := hml.out k
        have hb3 := hcb.out k hlt h0
        unfold TiB at hb3
        rw [e1] at x1
        have ht0 : (0 : Int) ≤ (t : Int) := by omega
        have hs2 := Lib.hid (sumK_snoc (M k) (TD k))
        have hw : IntKind.i64.wrap (sumK (M k) + (TD k).c) = sumK (M k) + (TD k).c := by rw [IntKind.wrap_i64]; omega
        clear hc h0 e1 e2 e3 hb1 hb2 hb3
        generalize (TD k).c = tc at *
        generalize sumK (M k) = s at *
        go_wp2_with (go_at_call 125; refine hCC.out.mono ?_; rintro e w1 ⟨rfl, rfl⟩)
        have := hlth.out
        exact ⟨⟨k + 1, hlth.out, by go_num, by rw [hS.out, hs2.out]⟩, by simp [intOf] <;> omega⟩
      · have hS := Lib.hid (hsk.out k (by omega))
        generalize nums.getD k 0 = t at *
        have hneg : ¬ (0 : Int) ≤ t := h0
        go_wp2
        have := hlth.out
        exact ⟨⟨k + 1, hlth.out, by go_num, by rw [hS.out]⟩, by simp [intOf] <;> omega⟩
    · obtain rfl : k = n := by omega
      generalize sumK (M k) = s at *
      go_wp2
      go_ret
      exact ⟨by rw [hR.out]; rfl, rfl⟩

theorem ccostR_none {es : List Nd} {nums : List Int} (h : tocR es nums = none) : ccostR es nums = 0 := by unfold ccostR; rw [h]; rfl
theorem tuseR_none {es : List Nd} {nums : List Int} (h : tocR es nums = none) : tuseR es nums = [] := by unfold tuseR; rw [h]; rfl
end Go.Proofs.Ytgcbfiamhpfkhaa

/- IsCover, CoverCost: the contracts as the laws take them. -/
namespace Go.Proofs.Ytgcbfiamhpfkhaa
open Go.RowKit
theorem iIsCover_k (L B : Nat) (A : Option Addr) (c : Nat) (es : List Nd) (L' B' : Nat) (A' : Option Addr) (c' : Nat) (nums : List Int) (w : World) (hl : es.length ≤ 1048576) (hes : RS Nd.enc 4 w L B A es) (hB : B ≤ w.heap.size) (hn : nums.length ≤ 1048576) (hns : IS w L' B' A' nums) (hB' : B' ≤ w.heap.size) :
    Calls Try.prog 135 #[.slice A es.length c, .slice A' nums.length c'] w (ResIsCover (tocR es nums).isSome (treeR es) w) := iIsCover_any L B L' B' A A' c c' es nums w hl hn hes.ns hB hns hB'
theorem iCoverCost_k (L B : Nat) (A : Option Addr) (c : Nat) (es : List Nd) (L' B' : Nat) (A' : Option Addr) (c' : Nat) (nums : List Int) (w : World) (hl : es.length ≤ 1048576) (hes : RS Nd.enc 4 w L B A es) (hB : B ≤ w.heap.size) (hn : nums.length ≤ 1048576) (hns : IS w L' B' A' nums) (hB' : B' ≤ w.heap.size) :
    Calls Try.prog 81 #[.slice A es.length c, .slice A' nums.length c'] w (ResCoverCost (ccostR es nums) (tocR es nums).isSome w) := iCoverCost_any L B L' B' A A' c c' es nums w hl hn hes.ns hB hns hB'
end Go.Proofs.Ytgcbfiamhpfkhaa

/- SavedBy. -/
namespace Go.Proofs.Ytgcbfiamhpfkhaa
open Go.RowKit
set_option linter.unusedVariables false
set_option maxRecDepth 100000

theorem bestR_yes {es : List Nd} (ht : treeR es = true) : bestR es = chR es.length (chE (kB es) es) := by unfold bestR; rw [if_pos ht]
theorem bestR_len2 {es : List Nd} (ht : treeR es = true) : (bestR es).length = es.length := by rw [bestR_yes ht, chR_len]
theorem largeR_len2 {es : List Nd} (ht : treeR es = true) : (largeR es).length = es.length := by unfold largeR; rw [if_pos ht, chR_len]
set_option maxHeartbeats 4000000 in
theorem sSavedBy_any (L B : Nat) (A : Option Addr) (c : Nat) (es : List Nd) (w : World) (hl : es.length ≤ 1048576) (hes : NS w L B A es) (hB : B ≤ w.heap.size) :
    Calls Try.prog 34 #[.slice A es.length c] w (IntRes w (savedR es) (treeR es)) := by
  have H := Lib.hid (sLargestCover_any L B A c es w hl hes hB)
  cases ht : treeR es
  · have hR := Lib.hid (show savedR es = 0 by unfold savedR; rw [if_neg (by rw [ht]; simp)])
    rw [ht] at H
    clear ht hes hB
    go_enter Try.func34, Try.ntmps34
    go_wp2_with (go_at_call 28; refine H.out.mono ?_; rintro e w1 ⟨PA, pc, rfl, _, hb1⟩; have hbh := Lib.hid hb1; clear hb1)
    go_ret2
    exact ⟨by rw [hR.out]; rfl, hbh.out⟩
  have hR := Lib.hid (show savedR es = wrap64 (ccostR es (largeR es) - ccostR es (bestR es)) by unfold savedR; rw [if_pos ht])
  obtain ⟨o1, ho1⟩ := tocR_large ht
  obtain ⟨o2, ho2⟩ := tocR_best ht
  have HS1 := Lib.hid fun (A' : Option Addr) (c' L' B' : Nat) (W : World) (hW : Below w.heap.size w W) (hns : IS W L' B' A' (largeR es)) => cvSum_any L B L' B' A A' c c' es (largeR es) o1 W ho1 (hes.below hW hB) hns
  have HS2 := Lib.hid fun (A' : Option Addr) (c' L' B' : Nat) (W : World) (hW : Below w.heap.size w W) (hns : IS W L' B' A' (bestR es)) => cvSum_any L B L' B' A A' c c' es (bestR es) o2 W ho2 (hes.below hW hB) hns
  have HB := Lib.hid fun (W : World) (hW : Below w.heap.size w W) => (show Calls Try.prog 64 #[.slice A es.length c] W (OwnIs W (bestR es)) from by rw [bestR_yes ht]; exact cvBest_any L B A c es W ht (hes.below hW hB) (Nat.le_trans hB hW.size))
  have hl1 := largeR_len2 ht
  have hl2 := bestR_len2 ht
  rw [ht] at H
  rw [hl1] at HS1
  rw [hl2] at HS2
  clear ht hes hB ho1 ho2
  generalize savedR es = R at *
  generalize ccostR es (largeR es) = a at *
  generalize ccostR es (bestR es) = b at *
  generalize largeR es = LR at *
  generalize bestR es = BR at *
  generalize es.length = n at *
  have h1 := Lib.hid hl1
  have h2 := Lib.hid hl2
  clear hl1 hl2
  go_enter Try.func34, Try.ntmps34
  go_wp2_with (first
    | (go_at_call 28; refine H.out.mono ?_; rintro e w1 ⟨PA, pc, rfl, ho, hb1⟩; rw [h1.out] at ho ⊢; have hO := Lib.hid ho; have hbh := Lib.hid hb1; clear hb1 ho)
    | (go_at_call 80; (with_reducible refine (HS1.out _ _ _ _ _ hbh.out hO.out.rs).mono ?_); clear HS1; rintro e w2 ⟨rfl, rfl⟩)
    | (go_at_call 64; refine (HB.out _ hbh.out).mono ?_; rintro e w3 ⟨PB, pd, rfl, ho2, hb2⟩; rw [h2.out] at ho2 ⊢; have hO2 := Lib.hid ho2; have hbi := Lib.hid (hbh.out.trans (hb2.mono hbh.out.size)); clear hb2 ho2)
    | (go_at_call 80; (with_reducible refine (HS2.out _ _ _ _ _ hbi.out hO2.out.rs).mono ?_); clear HS2; rintro e w4 ⟨rfl, rfl⟩))
  go_ret2
  exact ⟨by rw [hR.out]; rfl, hbi.out⟩

set_option maxHeartbeats 4000000 in
theorem iSavedBy_any (L B : Nat) (A : Option Addr) (c : Nat) (es : List Nd) (w : World) (hl : es.length ≤ 1048576) (hes : NS w L B A es) (hB : B ≤ w.heap.size) :
    Calls Try.prog 35 #[.slice A es.length c] w (IntRes w (savedR es) (treeR es)) := by
  have H1 := Lib.hid (iLargestCover_any L B A c es w hl hes hB)
  have H2 := Lib.hid fun (W : World) (hW : Below w.heap.size w W) => iBestCover_any L B A c es W hl (hes.below hW hB) (Nat.le_trans hB hW.size)
  have HC1 := Lib.hid fun (A' : Option Addr) (c' L' B' : Nat) (W : World) (hW : Below w.heap.size w W) (hB' : B' ≤ W.heap.size) (hns : IS W L' B' A' (largeR es)) => iCoverCost_any L B L' B' A A' c c' es (largeR es) W hl (largeR_len es) (hes.below hW hB) (Nat.le_trans hB hW.size) hns hB'
  have HC2 := Lib.hid fun (A' : Option Addr) (c' L' B' : Nat) (W : World) (hW : Below w.heap.size w W) (hB' : B' ≤ W.heap.size) (hns : IS W L' B' A' (bestR es)) => iCoverCost_any L B L' B' A A' c c' es (bestR es) W hl (bestR_len es) (hes.below hW hB) (Nat.le_trans hB hW.size) hns hB'
  have hOk := Lib.hid (show (tocR es (bestR es)).isSome = treeR es by
    cases ht : treeR es
    · rw [tocR_nil ht]; rfl
    · obtain ⟨o, ho⟩ := tocR_best ht; rw [ho]; rfl)
  have hR := Lib.hid (show savedR es = wrap64 (ccostR es (largeR es) - ccostR es (bestR es)) by
    unfold savedR
    cases ht : treeR es
    · rw [if_neg (by simp), ccostR_none (tocR_nil ht _), ccostR_none (tocR_nil ht _)]; unfold wrap64; omega
    · rw [if_pos rfl])
  rw [hOk.out] at HC2
  clear hes hB hOk
  generalize savedR es = R at *
  generalize ccostR es (largeR es) = a at *
  generalize ccostR es (bestR es) = b at *
  generalize (tocR es (largeR es)).isSome = ok1 at *
  generalize largeR es = LR at *
  generalize bestR es = BR at *
  generalize treeR es = tr at *
  generalize es.length = n at *
  go_enter Try.func35, Try.ntmps35
  go_wp2_with (first
    | (go_at_call 29; refine H1.out.mono ?_; rintro e w1 ⟨PA, pc, rfl, ho, hb1⟩; have hO := Lib.hid ho; have hbh := Lib.hid hb1; clear hb1 ho)
    | (go_at_call 24; refine (H2.out _ hbh.out).mono ?_; rintro e w2 ⟨PB, pd, rfl, ho2, hb2⟩; have hO2 := Lib.hid (ho2); have hOa := Lib.hid ((hO.out.below hb2 (Nat.le_refl _)).more hb2.size); have hbi := Lib.hid (hbh.out.trans (hb2.mono hbh.out.size)); clear hb2 ho2)
    | (go_at_call 81; (with_reducible refine (HC1.out _ _ _ _ _ hbi.out (Nat.le_refl _) hOa.out.rs).mono ?_); clear HC1; rintro e w3 ⟨rfl, hb3⟩; have hO3 := Lib.hid ((hO2.out.below hb3 (Nat.le_refl _)).more hb3.size); have hbj := Lib.hid (hbi.out.trans (hb3.mono hbi.out.size)); clear hb3)
    | (go_at_call 81; (with_reducible refine (HC2.out _ _ _ _ _ hbj.out (Nat.le_refl _) hO3.out.rs).mono ?_); clear HC2; rintro e w4 ⟨rfl, hb4⟩; have hbk := Lib.hid (hbj.out.trans (hb4.mono hbj.out.size)); clear hb4))
  go_ret2
  exact ⟨by rw [hR.out]; rfl, hbk.out⟩
theorem sSavedBy_k (L B : Nat) (A : Option Addr) (c : Nat) (es : List Nd) (w : World) (hl : es.length ≤ 1048576) (hes : RS Nd.enc 4 w L B A es) (hB : B ≤ w.heap.size) : Calls Try.prog 34 #[.slice A es.length c] w (ResSavedBy (savedR es) (treeR es) w) := sSavedBy_any L B A c es w hl hes.ns hB
theorem iSavedBy_k (L B : Nat) (A : Option Addr) (c : Nat) (es : List Nd) (w : World) (hl : es.length ≤ 1048576) (hes : RS Nd.enc 4 w L B A es) (hB : B ≤ w.heap.size) : Calls Try.prog 35 #[.slice A es.length c] w (ResSavedBy (savedR es) (treeR es) w) := iSavedBy_any L B A c es w hl hes.ns hB
end Go.Proofs.Ytgcbfiamhpfkhaa

/- Arguments of the types []laws.Instr, laws.Instr and []int opened. -/
namespace Go.Proofs.Ytgcbfiamhpfkhaa
open Go.ChangeShapes Go.WideShapes Go.ChangeAt Go.RowKit Go.Deep
open Go.ChangeMaps (open_string shut_string)
set_option linter.unusedVariables false

theorem cellsIn : Try.prog.cellsOf 99 = 5 := by kernel_rfl
theorem cellsStr : Try.prog.cellsOf 9 = 1 := by kernel_rfl
theorem cellsInt : Try.prog.cellsOf 3 = 1 := by kernel_rfl

set_option maxRecDepth 100000 in
theorem in_of_trod {H : Type} {enc : TypeId × Value → H} {w : World} {base : Nat} {spare : Nat → Bool} {held : Bool} {n : Nat} {cs : List Value} {x : DataW H × List MemPlace}
    (h : DataW.trod enc Try.prog w base spare held n 99 cs = some x) : ∃ nd : In, cs = nd.enc ∧ nd.op.size ≤ maxLen := by
  obtain ⟨xs, m, _, _, hlen, hxl, hf⟩ := DataW.trod_struct Try.underlying99 h
  rw [cellsIn] at hlen
  match cs, hlen with
  | [c0, c1, c2, c3, c4], _ =>
    match xs, hxl with
    | [y0, y1, y2, y3, y4], _ =>
      have h0 := hf 0 _ rfl
      change DataW.trod enc Try.prog w base spare held m 9 (([c0, c1, c2, c3, c4].drop 0).take (Try.prog.cellsOf 9)) = _ at h0
      rw [cellsStr] at h0
      have h1 := hf 1 _ rfl
      change DataW.trod enc Try.prog w base spare held m 3 (([c0, c1, c2, c3, c4].drop 1).take (Try.prog.cellsOf 3)) = _ at h1
      rw [cellsInt] at h1
      have h2 := hf 2 _ rfl
      change DataW.trod enc Try.prog w base spare held m 3 (([c0, c1, c2, c3, c4].drop 2).take (Try.prog.cellsOf 3)) = _ at h2
      rw [cellsInt] at h2
      have h3 := hf 3 _ rfl
      change DataW.trod enc Try.prog w base spare held m 3 (([c0, c1, c2, c3, c4].drop 3).take (Try.prog.cellsOf 3)) = _ at h3
      rw [cellsInt] at h3
      have h4 := hf 4 _ rfl
      change DataW.trod enc Try.prog w base spare held m 3 (([c0, c1, c2, c3, c4].drop 4).take (Try.prog.cellsOf 3)) = _ at h4
      rw [cellsInt] at h4
      obtain ⟨s, e0, _, hs⟩ := DataW.trod_string Try.underlying9 h0
      obtain ⟨d, e1, _, _⟩ := DataW.trod_int Try.underlying3 h1
      obtain ⟨a, e2, _, _⟩ := DataW.trod_int Try.underlying3 h2
      obtain ⟨b, e3, _, _⟩ := DataW.trod_int Try.underlying3 h3
      obtain ⟨m, e4, _, _⟩ := DataW.trod_int Try.underlying3 h4
      have e0 : c0 = .string s := by simpa using e0
      have e1 : c1 = .int .i64 d := by simpa using e1
      have e2 : c2 = .int .i64 a := by simpa using e2
      have e3 : c3 = .int .i64 b := by simpa using e3
      have e4 : c4 = .int .i64 m := by simpa using e4
      exact ⟨⟨s, d, a, b, m⟩, by rw [e0, e1, e2, e3, e4]; rfl, hs⟩

theorem cell_lt_heap {w : World} {a : Addr} {v : Value} (h : w.cell? a = some v) : a.block < w.heap.size := by
  rcases Nat.lt_or_ge a.block w.heap.size with hlt | hge
  · exact hlt
  · unfold World.cell? at h; rw [Array.getElem?_eq_none hge] at h; simp at h

set_option maxRecDepth 100000 in
theorem x_of_trod {H : Type} {enc : TypeId × Value → H} {w : World} {r : Reach} {b0 : Nat} {spare : Nat → Bool} {held : Bool} {v : Value} {d : DataW H} {p : List MemPlace}
    (hv : Value.okWide Try.prog w r b0 99 v) (h : DataW.Trod enc Try.prog w 0 spare held 99 v d p) :
    ∃ x : In, v = .agg #[.string x.op, .int .i64 x.d, .int .i64 x.a, .int .i64 x.b, .int .i64 x.m] ∧ x.op.size ≤ 9223372036854775807 := by
  obtain ⟨cs, rfl, hsz⟩ := okWide_struct Try.underlying99 hv
  obtain ⟨fuel, hf⟩ := h
  obtain ⟨x, hx, hs⟩ := in_of_trod hf
  refine ⟨x, ?_, by unfold maxLen at hs; omega⟩
  obtain ⟨l⟩ := cs
  have hx' : l = x.enc := by simpa [Value.cells] using hx
  subst hx'; rfl

set_option maxRecDepth 100000 in
theorem ins_of_trod {H : Type} {enc : TypeId × Value → H} {w : World} {spare : Nat → Bool} {held : Bool} {A : Option Addr} {len cap : Nat} {d : DataW H} {p : List MemPlace}
    (h : DataW.Trod enc Try.prog w 0 spare held 44 (.slice A len cap) d p) :
    ∃ es : List In, es.length = len ∧ RS In.enc 5 w 0 w.heap.size A es ∧ (∀ n ∈ es, n.op.size ≤ 9223372036854775807) ∧ len ≤ 9223372036854775807 := by
  obtain ⟨fuel, hf⟩ := h
  rcases open_slice Try.underlying44 hf with ⟨hcs, _⟩ | ⟨a, l, c, m, n, D, Pl, hcs, _, hl, hm, hmm, _, hi⟩
  · simp [Value.cells] at hcs
    obtain ⟨rfl, rfl, rfl⟩ := hcs
    exact ⟨[], rfl, fun h => absurd h (by simp), (fun n hn => by cases hn), by omega⟩
  · simp [Value.cells] at hcs
    obtain ⟨rfl, rfl, rfl⟩ := hcs
    have hlm : len ≤ m := by rw [hmm]; split <;> omega
    have hex : ∀ i, i < len → ∃ nd : In, (∀ j v, nd.enc[j]? = some v → w.cell? (a.add (i * 5 + j)) = some v) ∧ nd.op.size ≤ maxLen := by
      intro i hil
      obtain ⟨cs', hc, ht⟩ := hi i (by omega)
      rw [cellsIn] at hc
      obtain ⟨nd, rfl, hs⟩ := in_of_trod ht
      obtain ⟨_, _, hat⟩ := World.cells?_some hc
      refine ⟨nd, fun j v hv => ?_, hs⟩
      have hj : j < 5 := kflat_lt In.hk hv
      have := hat j hj
      rw [add_add, hv] at this; exact this
    obtain ⟨f, hf2⟩ := Classical.axiomOfChoice (fun i : {i // i < len} => hex i.1 i.2)
    have hget : ∀ i (h : i < (List.ofFn fun i : Fin len => f ⟨i.1, i.2⟩).length), (List.ofFn fun i : Fin len => f ⟨i.1, i.2⟩)[i] = f ⟨i, by simpa using h⟩ := fun i h => by simp
    refine ⟨List.ofFn fun i : Fin len => f ⟨i.1, i.2⟩, by simp, ?_, ?_, by unfold maxLen at hm; omega⟩
    · intro hpos
      have hpos' : 0 < len := by simpa using hpos
      have h0 := (hf2 ⟨0, hpos'⟩).1 0 _ rfl
      obtain ⟨b, o, spot⟩ := a
      have hspot : spot = none := by have := World.cell?_spot h0; simpa [Addr.add] using this
      subst hspot
      have hadd : ∀ k, (⟨b, o, none⟩ : Addr).add k = ⟨b, o + k, none⟩ := fun k => by simp [Addr.add]
      refine ⟨b, o, rfl, ⟨Nat.zero_le _, ?_⟩, fun i hi j v hv => ?_⟩
      · rw [hadd] at h0
        exact cell_lt_heap h0
      · have hi' : i < len := by simpa using hi
        rw [hget i hi] at hv
        have := (hf2 ⟨i, hi'⟩).1 j v hv
        simp only [hadd, ← Nat.add_assoc] at this
        exact this
    · intro n hn
      obtain ⟨i, rfl⟩ := List.mem_ofFn.1 hn
      have := (hf2 ⟨i.1, i.2⟩).2
      unfold maxLen at this; omega

set_option maxRecDepth 100000 in
theorem ints_of_trod {H : Type} {enc : TypeId × Value → H} {w : World} {spare : Nat → Bool} {held : Bool} {A : Option Addr} {len cap : Nat} {d : DataW H} {p : List MemPlace}
    (h : DataW.Trod enc Try.prog w 0 spare held 23 (.slice A len cap) d p) :
    ∃ xs : List Int, xs.length = len ∧ IS w 0 w.heap.size A xs ∧ len ≤ 9223372036854775807 := by
  obtain ⟨fuel, hf⟩ := h
  rcases open_slice Try.underlying23 hf with ⟨hcs, _⟩ | ⟨a, l, c, m, n, D, Pl, hcs, _, hl, hm, hmm, _, hi⟩
  · simp [Value.cells] at hcs
    obtain ⟨rfl, rfl, rfl⟩ := hcs
    exact ⟨[], rfl, fun h => absurd h (by simp), by omega⟩
  · simp [Value.cells] at hcs
    obtain ⟨rfl, rfl, rfl⟩ := hcs
    have hlm : len ≤ m := by rw [hmm]; split <;> omega
    have hex : ∀ i, i < len → ∃ x : Int, w.cell? (a.add i) = some (.int .i64 x) := by
      intro i hil
      obtain ⟨cs', hc, ht⟩ := hi i (by omega)
      rw [cellsInt, Nat.mul_one] at hc
      obtain ⟨x, hx, _, _⟩ := DataW.trod_int Try.underlying3 ht
      obtain ⟨_, _, hat⟩ := World.cells?_some hc
      have := hat 0 (by omega)
      rw [add_add, hx] at this
      exact ⟨x, by simpa using this⟩
    obtain ⟨f, hf2⟩ := Classical.axiomOfChoice (fun i : {i // i < len} => hex i.1 i.2)
    have hget : ∀ i (h : i < (List.ofFn fun i : Fin len => f ⟨i.1, i.2⟩).length), (List.ofFn fun i : Fin len => f ⟨i.1, i.2⟩)[i] = f ⟨i, by simpa using h⟩ := fun i h => by simp
    refine ⟨List.ofFn fun i : Fin len => f ⟨i.1, i.2⟩, by simp, ?_, by unfold maxLen at hm; omega⟩
    intro hpos
    have hpos' : 0 < len := by simpa using hpos
    have h0 := hf2 ⟨0, hpos'⟩
    obtain ⟨b, o, spot⟩ := a
    have hspot : spot = none := by have := World.cell?_spot h0; simpa [Addr.add] using this
    subst hspot
    have hadd : ∀ k, (⟨b, o, none⟩ : Addr).add k = ⟨b, o + k, none⟩ := fun k => by simp [Addr.add]
    refine ⟨b, o, rfl, ⟨Nat.zero_le _, ?_⟩, fun i hi => ?_⟩
    · rw [hadd] at h0
      exact cell_lt_heap h0
    · have hi' : i < len := by simpa using hi
      rw [hget i hi]
      have := hf2 ⟨i, hi'⟩
      simp only [hadd] at this
      exact this
end Go.Proofs.Ytgcbfiamhpfkhaa

/- An argument of type []laws.Node opened as a list of nodes. -/
namespace Go.Proofs.Ytgcbfiamhpfkhaa
open Go.ChangeShapes Go.WideShapes Go.ChangeAt Go.RowKit Go.Deep
open Go.ChangeMaps (open_string shut_string)
set_option linter.unusedVariables false
set_option maxRecDepth 100000

theorem cellsNode : Try.prog.cellsOf 62 = 4 := by kernel_rfl

theorem node_of_trod {H : Type} {enc : TypeId × Value → H} {w : World} {base : Nat} {spare : Nat → Bool} {held : Bool} {n : Nat} {cs : List Value} {x : DataW H × List MemPlace}
    (h : DataW.trod enc Try.prog w base spare held n 62 cs = some x) : ∃ nd : Nd, cs = nd.cells ∧ nd.op.size ≤ maxLen := by
  obtain ⟨xs, m, _, _, hlen, hxl, hf⟩ := DataW.trod_struct Try.underlying62 h
  rw [cellsNode] at hlen
  match cs, hlen with
  | [c0, c1, c2, c3], _ =>
    match xs, hxl with
    | [y0, y1, y2, y3], _ =>
      have h0 := hf 0 _ rfl
      change DataW.trod enc Try.prog w base spare held m 9 (([c0, c1, c2, c3].drop 0).take (Try.prog.cellsOf 9)) = _ at h0
      rw [cellsStr] at h0
      have h1 := hf 1 _ rfl
      change DataW.trod enc Try.prog w base spare held m 3 (([c0, c1, c2, c3].drop 1).take (Try.prog.cellsOf 3)) = _ at h1
      rw [cellsInt] at h1
      have h2 := hf 2 _ rfl
      change DataW.trod enc Try.prog w base spare held m 3 (([c0, c1, c2, c3].drop 2).take (Try.prog.cellsOf 3)) = _ at h2
      rw [cellsInt] at h2
      have h3 := hf 3 _ rfl
      change DataW.trod enc Try.prog w base spare held m 3 (([c0, c1, c2, c3].drop 3).take (Try.prog.cellsOf 3)) = _ at h3
      rw [cellsInt] at h3
      obtain ⟨s, e0, _, hs⟩ := DataW.trod_string Try.underlying9 h0
      obtain ⟨a, e1, _, _⟩ := DataW.trod_int Try.underlying3 h1
      obtain ⟨b, e2, _, _⟩ := DataW.trod_int Try.underlying3 h2
      obtain ⟨v, e3, _, _⟩ := DataW.trod_int Try.underlying3 h3
      have e0 : c0 = .string s := by simpa using e0
      have e1 : c1 = .int .i64 a := by simpa using e1
      have e2 : c2 = .int .i64 b := by simpa using e2
      have e3 : c3 = .int .i64 v := by simpa using e3
      exact ⟨⟨s, a, b, v⟩, by rw [e0, e1, e2, e3]; rfl, hs⟩

theorem nodes_of_trod_ns {H : Type} {enc : TypeId × Value → H} {w : World} {spare : Nat → Bool} {held : Bool} {A : Option Addr} {len cap : Nat} {d : DataW H} {p : List MemPlace}
    (h : DataW.Trod enc Try.prog w 0 spare held 22 (.slice A len cap) d p) :
    ∃ es : List Nd, es.length = len ∧ NS w 0 w.heap.size A es ∧ (∀ n ∈ es, n.op.size ≤ 9223372036854775807) ∧ len ≤ 9223372036854775807 := by
  obtain ⟨fuel, hf⟩ := h
  rcases open_slice Try.underlying22 hf with ⟨hcs, _⟩ | ⟨a, l, c, m, n, D, Pl, hcs, _, hl, hm, hmm, _, hi⟩
  · simp [Value.cells] at hcs
    obtain ⟨rfl, rfl, rfl⟩ := hcs
    exact ⟨[], rfl, fun h => absurd h (by simp), (fun n hn => by cases hn), by omega⟩
  · simp [Value.cells] at hcs
    obtain ⟨rfl, rfl, rfl⟩ := hcs
    have hlm : len ≤ m := by rw [hmm]; split <;> omega
    have hex : ∀ i, i < len → ∃ nd : Nd, (w.cell? (a.add (i * 4)) = some (.string nd.op) ∧ w.cell? (a.add (i * 4 + 1)) = some (.int .i64 nd.a) ∧ w.cell? (a.add (i * 4 + 2)) = some (.int .i64 nd.b) ∧ w.cell? (a.add (i * 4 + 3)) = some (.int .i64 nd.v)) ∧ nd.op.size ≤ maxLen := by
      intro i hil
      obtain ⟨cs', hc, ht⟩ := hi i (by omega)
      rw [cellsNode] at hc
      obtain ⟨nd, rfl, hs⟩ := node_of_trod ht
      obtain ⟨_, _, hat⟩ := World.cells?_some hc
      refine ⟨nd, ⟨?_, ?_, ?_, ?_⟩, hs⟩
      · have := hat 0 (by omega); rw [add_add] at this; exact this
      · have := hat 1 (by omega); rw [add_add] at this; exact this
      · have := hat 2 (by omega); rw [add_add] at this; exact this
      · have := hat 3 (by omega); rw [add_add] at this; exact this
    obtain ⟨f, hf2⟩ := Classical.axiomOfChoice (fun i : {i // i < len} => hex i.1 i.2)
    have hget : ∀ i (h : i < (List.ofFn fun i : Fin len => f ⟨i.1, i.2⟩).length), (List.ofFn fun i : Fin len => f ⟨i.1, i.2⟩)[i] = f ⟨i, by simpa using h⟩ := fun i h => by simp
    refine ⟨List.ofFn fun i : Fin len => f ⟨i.1, i.2⟩, by simp, ?_, ?_, by unfold maxLen at hm; omega⟩
    · intro hpos
      have hpos' : 0 < len := by simpa using hpos
      have h0 := (hf2 ⟨0, hpos'⟩).1.1
      obtain ⟨b, o, spot⟩ := a
      have hspot : spot = none := by have := World.cell?_spot h0; simpa [Addr.add] using this
      subst hspot
      have hadd : ∀ k, (⟨b, o, none⟩ : Addr).add k = ⟨b, o + k, none⟩ := fun k => by simp [Addr.add]
      refine ⟨b, o, rfl, ⟨Nat.zero_le _, ?_⟩, fun i hi => ?_⟩
      · rw [hadd] at h0
        exact cell_lt_heap h0
      · have hi' : i < len := by simpa using hi
        rw [hget i hi]
        have := (hf2 ⟨i, hi'⟩).1
        simp only [hadd, ← Nat.add_assoc] at this
        exact this
    · intro n hn
      obtain ⟨i, rfl⟩ := List.mem_ofFn.1 hn
      have := (hf2 ⟨i.1, i.2⟩).2
      unfold maxLen at this; omega
theorem nodes_of_trod {H : Type} {enc : TypeId × Value → H} {w : World} {spare : Nat → Bool} {held : Bool} {A : Option Addr} {len cap : Nat} {d : DataW H} {p : List MemPlace}
    (h : DataW.Trod enc Try.prog w 0 spare held 22 (.slice A len cap) d p) :
    ∃ es : List Nd, es.length = len ∧ RS Nd.enc 4 w 0 w.heap.size A es ∧ (∀ n ∈ es, n.op.size ≤ 9223372036854775807) ∧ len ≤ 9223372036854775807 := by
  obtain ⟨es, h1, h2, h3⟩ := nodes_of_trod_ns h
  exact ⟨es, h1, h2.rs, h3⟩
end Go.Proofs.Ytgcbfiamhpfkhaa
