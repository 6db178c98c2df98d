/- Texts of this proof, one behind the other: G, J, YA. -/
import Derived.Test.YtmhdijklindipaaF
import Derived.WalkKit
import Derived.WalkSpells
import Derived.WalkLawsBesides
import Derived.Lib.Hide
import Derived.Test.YtmhdijklindipaaLI
namespace Go.Proofs.Ytmhdijklindipaa
open Go.RowKit
set_option linter.unusedVariables false

set_option maxHeartbeats 4000000 in
theorem IsExpr_any (L B : Nat) (A : Option Addr) (c : Nat) (es : List Nd) (w : World) (hl : es.length ≤ 1048576) (hes : NS w L B A es) (hB : B ≤ w.heap.size) :
    Calls Try.prog 22 #[.slice A es.length c] w fun e w' => e = .returned (.bool (good es)) ∧ Below w.heap.size w w' := by
  have hE := Lib.hid hes
  have hBel0 := Below.refl w.heap.size w
  clear hes
  by_cases h24 : inR es.length 1 24 = true
  · obtain ⟨h1, h2⟩ := (inR_iff _ _ _).1 h24
    have hBB := Lib.hid hB
    go_enter Try.func22, Try.ntmps22
    go_wp2
    go_loopw [15] (fun i wr => ∃ k : Nat, k ≤ es.length ∧ i = .int .i64 k ∧ okFrom (es.take k) 0 = true ∧ Below w.heap.size w wr) (fun i _ => es.length - (intOf i).toNat)
    case atStart => exact ⟨0, Nat.zero_le _, rfl, rfl, hBel0⟩
    case round =>
      obtain ⟨k, hk, rfl, hok, hbel⟩ := hrel
      have hOK := Lib.hid hok
      clear hok
      by_cases hlt : k < es.length
      · obtain ⟨b, o, rfl, ⟨_, hbB⟩, hc⟩ := (hE.out.below hbel hBB.out) (by omega)
        obtain ⟨c1, c2, c3, c4⟩ := hc k hlt
        clear hc
        have hT := Lib.hid (okFrom_take hlt)
        generalize es[k] = nd at *
        obtain ⟨s, a, bb, v⟩ := nd
        have hBelB := Lib.hid hbel
        go_wp2_with (fail)
        refine (isNodeAt_any _ _ _ _ _ _).mono ?_
        rintro e w2 ⟨rfl, hb2⟩
        have hbel2 : Below w.heap.size w w2 := hBelB.out.trans (((Below.refl _ _).alloc hBelB.out.size _).trans (hb2.mono (by simp; have := hBelB.out.size; omega)))
        clear hb2 hbel c1 c2 c3 c4
        cases hn : isNode ⟨s, a, bb, v⟩ ↑k
        · have hG : Hid (good es = false) := by
            have : okFrom es 0 = false := okFrom_of_take (k := k + 1) (by rw [hT.out, hn]; simp)
            simp [Hid, good, this]
          go_wp2
          go_ret
          exact ⟨ret_bool hG.out.symm, hbel2⟩
        · have hN := Lib.hid hn
          go_wp2
          go_roundw
          case rel => exact ⟨k + 1, by omega, by go_num, by rw [hT.out, hOK.out, hN.out]; rfl, hbel2⟩
          case measure => simp [intOf]; omega
      · obtain rfl : k = es.length := by omega
        have hok : okFrom es 0 = true := by have := hOK.out; rwa [List.take_length] at this
        have hU := Lib.hid (usesOf_any L B A c es wr (by omega) (hE.out.below hbel hBB.out) (Nat.le_trans hBB.out hbel.size) (ok_parts hok))
        have hG : Hid (good es = !(hasI ((uses es).take (es.length - 1)) 0)) := by
          have g1 : 1 ≤ es.length := by omega
          have g2 : es.length ≤ 24 := by omega
          simp [Hid, good, hok, g1, g2]
        have hBelB := Lib.hid hbel
        have hul : (uses es).length = es.length := usesAt_len es _
        have hUL := Lib.hid hul
        clear hok hul hbel
        go_wp2_with (fail)
        refine hU.out.mono ?_
        rintro e w2 ⟨g, rfl, hg, hib, hb2⟩
        have hI := Lib.hid hib
        have hbel2 := hBelB.out.trans (hb2.mono hBelB.out.size)
        clear hib hb2
        rw [hUL.out]
        go_wp2_with (fail)
        refine (Contains_eq g (g + 1) _ _ _ ((uses es).take (es.length - 1)) 0 _ (by rw [List.length_take, hUL.out]; omega) (by rw [List.length_take, hUL.out]; omega) (hI.out.take _)).mono ?_
        rintro e w3 ⟨rfl, rfl⟩
        go_wp2
        go_ret
        exact ⟨ret_bool hG.out.symm, hbel2⟩
  · have hG : Hid (good es = false) := by
      have : ¬ (1 ≤ es.length ∧ es.length ≤ 24) := fun h => h24 ((inR_iff _ _ _).2 (by omega))
      simp only [Hid, good]
      by_cases h1 : 1 ≤ es.length
      · have : ¬ es.length ≤ 24 := by omega
        simp [this]
      · simp [h1]
    have h24' : es.length < 1 ∨ 24 < es.length := by
      have : ¬ (1 ≤ (es.length : Int) ∧ (es.length : Int) ≤ 24) := fun h => h24 ((inR_iff _ _ _).2 h)
      omega
    clear h24
    rcases h24' with h5 | h5
    all_goals
      go_enter Try.func22, Try.ntmps22
      go_wp2
      go_ret
      exact ⟨ret_bool hG.out.symm, hBel0⟩
end Go.Proofs.Ytmhdijklindipaa

namespace Go.Proofs.Ytmhdijklindipaa
open Go.RowKit
set_option linter.unusedVariables false

theorem good_len {es : List Nd} (h : good es = true) : 1 ≤ es.length ∧ es.length ≤ 24 ∧ okFrom es 0 = true := by
  simp only [good, Bool.and_eq_true, decide_eq_true_eq] at h
  exact ⟨h.1.1.1, h.1.1.2, h.1.2⟩

/-! ### CountOps -/
def isOpN (n : Nd) : Bool := isOp n.op
theorem isOpN_ar (n : Nd) : isOpN n = decide (0 < ar n.op) := by
  rcases ar_cases n.op with ⟨h, h3, h4⟩|⟨h, h3, h4⟩|⟨h, h3, h4⟩|⟨h, h3, h4⟩ <;> simp [isOpN, isOp, h, h3, h4]
theorem isOpN_parts (n : Nd) : isOpN n = decide (0 < (parts n).length) := by
  unfold parts isOpN isOp
  cases h1 : isOne n.op <;> cases h2 : isTwo n.op <;> simp
def cntAt (es : List Nd) (k : Nat) : Int := ((es.take k).filter isOpN).length
def cnt (es : List Nd) : Int := cntAt es es.length
theorem cntAt_succ {es : List Nd} {k : Nat} (h : k < es.length) : cntAt es (k + 1) = cntAt es k + if isOpN es[k] = true then 1 else 0 := by
  unfold cntAt; rw [List.take_succ_eq_append_getElem h, List.filter_append, List.length_append]
  cases h1 : isOpN es[k] <;> simp [h1]
theorem cntAt_bd (es : List Nd) (k : Nat) : 0 ≤ cntAt es k ∧ cntAt es k ≤ k := by
  unfold cntAt
  have h1 := List.length_filter_le isOpN (es.take k)
  have h2 : (es.take k).length ≤ k := List.length_take_le _ _
  omega
def cntR (es : List Nd) : Int := if good es = true then cnt es else 0

set_option maxHeartbeats 1000000 in
theorem exCount_any (L B : Nat) (A : Option Addr) (c : Nat) (es : List Nd) (w : World) (hl : es.length ≤ 1048576) (hes : NS w L B A es) (hB : B ≤ w.heap.size) :
    Calls Try.prog 215 #[.slice A es.length c] w fun e w' => e = .returned (.int .i64 (cnt es)) ∧ Below w.heap.size w w' := by
  have hE := Lib.hid hes
  have hBB := Lib.hid hB
  have hBel0 := Lib.hid (Below.refl w.heap.size w)
  clear hes hB
  go_enter Try.func215, Try.ntmps215
  go_wp2
  go_loopw [3, 8] (fun x i wr => ∃ k : Nat, k ≤ es.length ∧ i = .int .i64 k ∧ x = .int .i64 (cntAt es k) ∧ Below w.heap.size w wr) (fun _ i _ => es.length - (intOf i).toNat)
  case atStart => exact ⟨0, Nat.zero_le _, rfl, rfl, hBel0.out⟩
  case round =>
    obtain ⟨k, hk, rfl, rfl, hbel⟩ := hrel
    obtain ⟨hc0, hc1⟩ := cntAt_bd es k
    by_cases hlt : k < es.length
    · obtain ⟨b, o, rfl, ⟨_, hbB⟩, hc⟩ := (hE.out.below hbel hBB.out) (by omega)
      obtain ⟨c1, c2, c3, c4⟩ := hc k hlt
      clear hc
      have hS := Lib.hid (cntAt_succ hlt)
      have hP := Lib.hid (isOpN_parts es[k])
      generalize hx : cntAt es k = x at *
      have hX := Lib.hid hx; clear hx
      generalize es[k] = nd at *
      obtain ⟨s, a, bb, v⟩ := nd
      have hBelB := Lib.hid hbel
      go_wp2_with (fail)
      refine (exParts_any _ _ _ _ _).mono ?_
      rintro e w2 ⟨A2, cc, rfl, _, hb2⟩
      have hbel2 := Lib.hid (hBelB.out.trans (((Below.refl _ _).alloc hBelB.out.size _).trans (hb2.mono (by simp; have := hBelB.out.size; omega))))
      clear hb2 hbel c1 c2 c3 c4
      generalize parts ⟨s, a, bb, v⟩ = ps at *
      by_cases hp : 0 < ps.length
      · go_wp2
        go_roundw
        case rel => exact ⟨k + 1, by omega, by go_num, by rw [hS.out, hP.out]; simp [hp], hbel2.out⟩
        case measure => simp [intOf]; omega
      · go_wp2
        go_roundw
        case rel => exact ⟨k + 1, by omega, by go_num, by rw [hS.out, hP.out]; simp [hp], hbel2.out⟩
        case measure => simp [intOf]; omega
    · obtain rfl : k = es.length := by omega
      go_wp2
      go_ret
      exact ⟨rfl, hbel⟩

theorem sCountOps_any (L B : Nat) (A : Option Addr) (c : Nat) (es : List Nd) (w : World) (hl : es.length ≤ 1048576) (hes : NS w L B A es) (hB : B ≤ w.heap.size) :
    Calls Try.prog 102 #[.slice A es.length c] w fun e w' => e = .returned (.tuple #[.int .i64 (cntR es), .bool (good es)]) ∧ Below w.heap.size w w' := by
  have H := Lib.hid (exGood_any L B A c es w hl hes hB)
  have hE := Lib.hid hes
  have hBB := Lib.hid hB
  clear hes hB
  go_enter Try.func102, Try.ntmps102
  go_wp2_with (fail)
  refine H.out.mono ?_
  rintro e w2 ⟨rfl, hb⟩
  have hbb := Lib.hid hb
  clear hb
  cases hg : good es
  · have hR2 : Hid (cntR es = 0) := by simp [Hid, cntR, hg]
    go_wp2_with (fail)
    go_ret2
    exact ⟨by rw [hR2.out, hg]; rfl, hbb.out⟩
  · have hR2 : Hid (cntR es = cnt es) := by simp [Hid, cntR, hg]
    go_wp2_with (fail)
    refine (exCount_any L B A c es _ hl (hE.out.below hbb.out hBB.out) (Nat.le_trans hBB.out hbb.out.size)).mono ?_
    rintro e w3 ⟨rfl, hb⟩
    go_wp2_with (fail)
    go_ret2
    exact ⟨by rw [hR2.out, hg]; rfl, hbb.out.trans (hb.mono hbb.out.size)⟩

set_option maxHeartbeats 1000000 in
theorem iCountOps_any (L B : Nat) (A : Option Addr) (c : Nat) (es : List Nd) (w : World) (hl : es.length ≤ 1048576) (hes : NS w L B A es) (hB : B ≤ w.heap.size) :
    Calls Try.prog 101 #[.slice A es.length c] w fun e w' => e = .returned (.tuple #[.int .i64 (cntR es), .bool (good es)]) ∧ Below w.heap.size w w' := by
  have H := Lib.hid (IsExpr_any L B A c es w hl hes hB)
  have hE := Lib.hid hes
  have hBB := Lib.hid hB
  clear hes hB
  go_enter Try.func101, Try.ntmps101
  go_wp2_with (fail)
  refine H.out.mono ?_
  rintro e w2 ⟨rfl, hb⟩
  have hbb := Lib.hid hb
  clear hb
  cases hg : good es
  · have hR2 : Hid (cntR es = 0) := by simp [Hid, cntR, hg]
    go_wp2_with (fail)
    go_ret2
    exact ⟨by rw [hR2.out, hg]; rfl, hbb.out⟩
  · have hR2 : Hid (cntR es = cnt es) := by simp [Hid, cntR, hg]
    go_wp2_with (fail)
    go_loopw [4, 12] (fun x i wr => ∃ k : Nat, k ≤ es.length ∧ i = .int .i64 k ∧ x = .int .i64 (cntAt es k) ∧ Below w.heap.size w wr) (fun _ i _ => es.length - (intOf i).toNat)
    case atStart => exact ⟨0, Nat.zero_le _, rfl, rfl, hbb.out⟩
    case round =>
      obtain ⟨k, hk, rfl, rfl, hbel⟩ := hrel
      obtain ⟨hc0, hc1⟩ := cntAt_bd es k
      by_cases hlt : k < es.length
      · obtain ⟨b, o, rfl, ⟨_, hbB⟩, hc⟩ := (hE.out.below hbel hBB.out) (by omega)
        obtain ⟨c1, c2, c3, c4⟩ := hc k hlt
        clear hc
        have hS := Lib.hid (cntAt_succ hlt)
        have hP := Lib.hid (isOpN_ar es[k])
        generalize hx : cntAt es k = x at *
        have hX := Lib.hid hx; clear hx
        generalize es[k] = nd at *
        obtain ⟨s, a, bb, v⟩ := nd
        have hBelB := Lib.hid hbel
        have hal := fun o => Lib.hid (hBelB.out.alloc hBelB.out.size o)
        go_wp2_with (fail)
        refine (operandCount_any _ _).mono ?_
        rintro e w2 ⟨rfl, rfl⟩
        by_cases hp : 0 < ar s
        · go_wp2
          go_roundw
          case rel => exact ⟨k + 1, by omega, by go_num, by rw [hS.out, hP.out]; simp [hp], (hal _).out⟩
          case measure => simp [intOf]; omega
        · go_wp2
          go_roundw
          case rel => exact ⟨k + 1, by omega, by go_num, by rw [hS.out, hP.out, decide_eq_false (by omega)]; simp, (hal _).out⟩
          case measure => simp [intOf]; omega
      · obtain rfl : k = es.length := by omega
        go_wp2
        go_ret2
        exact ⟨by rw [hR2.out, hg]; rfl, hbel⟩

/-! ### IsTree -/
def allR (xs : List Int) (lo hi : Int) : Bool := xs.all fun x => inR x lo hi
theorem allR_take {xs : List Int} {lo hi : Int} {k : Nat} (h : k < xs.length) : allR (xs.take (k + 1)) lo hi = (allR (xs.take k) lo hi && inR xs[k] lo hi) := by
  unfold allR; rw [List.take_succ_eq_append_getElem h, List.all_append]; simp
theorem allR_of_take {xs : List Int} {lo hi : Int} {k : Nat} (h : allR (xs.take k) lo hi = false) : allR xs lo hi = false := by
  cases hh : allR xs lo hi
  · rfl
  · exfalso
    unfold allR at h hh
    rw [List.all_eq_true] at hh
    rw [List.all_eq_false] at h
    obtain ⟨x, hx, h⟩ := h
    exact h (hh x (List.mem_of_mem_take hx))
def tree (es : List Nd) : Bool := allR (uses es) 0 1
def treeR (es : List Nd) : Bool := good es && tree es

theorem l1AllR_any (L B : Nat) (A : Option Addr) (m c : Nat) (xs : List Int) (lo hi : Int) (w : World) (hm : m = xs.length) (hl : xs.length ≤ 1000000) (hx : IS w L B A xs) :
    Calls Try.prog 190 #[.slice A m c, .int .i64 lo, .int .i64 hi] w fun e w' => e = .returned (.bool (allR xs lo hi)) ∧ w = w' := by
  subst hm
  have hX := Lib.hid hx; clear hx
  go_enter Try.func190, Try.ntmps190
  go_wp2
  go_loop [8, 11] (fun _ i => ∃ k : Nat, k ≤ xs.length ∧ i = .int .i64 k ∧ allR (xs.take k) lo hi = true) (fun _ i => xs.length - (intOf i).toNat)
  case atStart => exact ⟨0, Nat.zero_le _, rfl, rfl⟩
  case round =>
    obtain ⟨k, hk, rfl, hh⟩ := hrel
    have hH := Lib.hid hh; clear hh
    by_cases hlt : k < xs.length
    · obtain ⟨b, o, rfl, _, hc⟩ := hX.out (by omega)
      have hcell := hc k hlt
      clear hc
      have hS := Lib.hid (allR_take (lo := lo) (hi := hi) hlt)
      generalize xs[k] = x at *
      cases hr : inR x lo hi
      · have hF : Hid (allR xs lo hi = false) := allR_of_take (k := k + 1) (by rw [hS.out, hr]; simp)
        go_wp2_with (go_at_call 169; refine (l1In_r _ _ _ _).mono ?_; rintro e w' ⟨rfl, rfl⟩)
        go_ret
        exact ⟨ret_bool hF.out.symm, rfl⟩
      · have hR := Lib.hid hr
        go_wp2_with (go_at_call 169; refine (l1In_r _ _ _ _).mono ?_; rintro e w' ⟨rfl, rfl⟩)
        go_round
        case rel => exact ⟨k + 1, by omega, by go_num, by rw [hS.out, hH.out, hR.out]; rfl⟩
        case measure => simp [intOf]; omega
    · obtain rfl : k = xs.length := by omega
      go_wp2
      go_ret
      exact ⟨ret_bool (by have := hH.out; rw [List.take_length] at this; rw [this]), rfl⟩

theorem exTree_any (L B : Nat) (A : Option Addr) (c : Nat) (es : List Nd) (w : World) (hl : es.length ≤ 24) (hes : NS w L B A es) (hB : B ≤ w.heap.size) (hok : okFrom es 0 = true) :
    Calls Try.prog 224 #[.slice A es.length c] w fun e w' => e = .returned (.bool (tree es)) ∧ Below w.heap.size w w' := by
  have H := Lib.hid (exUses_any L B A c es w hl hes hB (ok_parts hok))
  clear hes hok
  go_enter Try.func224, Try.ntmps224
  go_wp2_with (fail)
  refine H.out.mono ?_
  rintro e w2 ⟨g, rfl, _, hib, hb⟩
  have hI := Lib.hid hib
  have hbb := Lib.hid hb
  clear hib hb
  have hul : (uses es).length ≤ 1000000 := by rw [show (uses es).length = es.length from usesAt_len es _]; omega
  go_wp2_with (fail)
  refine (l1AllR_any _ _ _ _ _ (uses es) 0 1 _ rfl hul hI.out.toIS).mono ?_
  rintro e w3 ⟨rfl, rfl⟩
  go_wp2
  go_ret
  exact ⟨rfl, hbb.out⟩

theorem sIsTree_any (L B : Nat) (A : Option Addr) (c : Nat) (es : List Nd) (w : World) (hl : es.length ≤ 1048576) (hes : NS w L B A es) (hB : B ≤ w.heap.size) :
    Calls Try.prog 113 #[.slice A es.length c] w fun e w' => e = .returned (.tuple #[.bool (treeR es), .bool (good es)]) ∧ Below w.heap.size w w' := by
  have H := Lib.hid (exGood_any L B A c es w hl hes hB)
  have hE := Lib.hid hes
  have hBB := Lib.hid hB
  clear hes hB
  go_enter Try.func113, Try.ntmps113
  go_wp2_with (fail)
  refine H.out.mono ?_
  rintro e w2 ⟨rfl, hb⟩
  have hbb := Lib.hid hb
  clear hb
  cases hg : good es
  · have hR2 : Hid (treeR es = false) := by simp [Hid, treeR, hg]
    go_wp2_with (fail)
    go_ret2
    exact ⟨by rw [hR2.out, hg]; rfl, hbb.out⟩
  · have hR2 : Hid (treeR es = tree es) := by simp [Hid, treeR, hg]
    obtain ⟨_, hl24, hok⟩ := good_len hg
    have H2 := Lib.hid (exTree_any L B A c es w2 hl24 (hE.out.below hbb.out hBB.out) (Nat.le_trans hBB.out hbb.out.size) hok)
    clear hok
    go_wp2_with (fail)
    refine H2.out.mono ?_
    rintro e w3 ⟨rfl, hb⟩
    go_wp2_with (fail)
    go_ret2
    exact ⟨by rw [hR2.out, hg]; rfl, hbb.out.trans (hb.mono hbb.out.size)⟩

set_option maxHeartbeats 1000000 in
theorem iIsTree_any (L B : Nat) (A : Option Addr) (c : Nat) (es : List Nd) (w : World) (hl : es.length ≤ 1048576) (hes : NS w L B A es) (hB : B ≤ w.heap.size) :
    Calls Try.prog 112 #[.slice A es.length c] w fun e w' => e = .returned (.tuple #[.bool (treeR es), .bool (good es)]) ∧ Below w.heap.size w w' := by
  have H := Lib.hid (IsExpr_any L B A c es w hl hes hB)
  have hE := Lib.hid hes
  have hBB := Lib.hid hB
  clear hes hB
  go_enter Try.func112, Try.ntmps112
  go_wp2_with (fail)
  refine H.out.mono ?_
  rintro e w2 ⟨rfl, hb⟩
  have hbb := Lib.hid hb
  clear hb
  cases hg : good es
  · have hR2 : Hid (treeR es = false) := by simp [Hid, treeR, hg]
    go_wp2_with (fail)
    go_ret2
    exact ⟨by rw [hR2.out, hg]; rfl, hbb.out⟩
  · have hR2 : Hid (treeR es = tree es) := by simp [Hid, treeR, hg]
    obtain ⟨_, hl24, hok⟩ := good_len hg
    have H2 := Lib.hid (usesOf_any L B A c es w2 hl24 (hE.out.below hbb.out hBB.out) (Nat.le_trans hBB.out hbb.out.size) (ok_parts hok))
    clear hok
    go_wp2_with (fail)
    refine H2.out.mono ?_
    rintro e w3 ⟨g, rfl, _, hib, hb⟩
    have hb3 := Lib.hid (hbb.out.trans (hb.mono hbb.out.size))
    have hX := Lib.hid hib.toIS
    have hD := Lib.hid (usesAt_Bd (es := es) (k := es.length) (Nat.le_refl _))
    have hT : Hid (tree es = allR (uses es) 0 1) := rfl
    have hxl : (uses es).length ≤ 24 := by rw [show (uses es).length = es.length from usesAt_len es _]; exact hl24
    have hUU : Hid (Bd (2 * es.length) (uses es)) := hD.out
    clear hib hb hD
    generalize uses es = xs at *
    go_wp2_with (fail)
    go_loop [5, 12] (fun _ i => ∃ k : Nat, k ≤ xs.length ∧ i = .int .i64 k ∧ allR (xs.take k) 0 1 = true) (fun _ i => xs.length - (intOf i).toNat)
    case atStart => exact ⟨0, Nat.zero_le _, rfl, rfl⟩
    case round =>
      obtain ⟨k, hk, rfl, hh⟩ := hrel
      have hH := Lib.hid hh; clear hh
      by_cases hlt : k < xs.length
      · obtain ⟨b, o, hbo, _, hc⟩ := hX.out (by omega)
        have hbo' := hbo
        injection hbo' with hbo'
        injection hbo' with e1 e2 _
        subst e1
        subst e2
        have hcell := hc k hlt
        rw [Nat.zero_add] at hcell
        clear hc hbo
        have hS := Lib.hid (allR_take (lo := 0) (hi := 1) hlt)
        have h0 := (hUU.out k).1
        rw [List.getD_eq_getElem?_getD, List.getElem?_eq_getElem hlt] at h0
        change 0 ≤ xs[k] at h0
        generalize xs[k] = x at *
        by_cases hx : 1 < x
        · have hF : Hid (allR xs 0 1 = false) := allR_of_take (k := k + 1) (by
            have : inR x 0 1 = false := by simp [inR]; omega
            rw [hS.out, this]; simp)
          go_wp2
          go_ret2
          exact ⟨by first | (rw [hR2.out, hT.out, hF.out, hg]; rfl) | (rw [hR2.out, hT.out, hF.out]; rfl), hb3.out⟩
        · have hR : Hid (inR x 0 1 = true) := (inR_iff _ _ _).2 (by omega)
          go_wp2
          go_round
          case rel => exact ⟨k + 1, by omega, by go_num, by rw [hS.out, hH.out, hR.out]; rfl⟩
          case measure => simp [intOf]; omega
      · obtain rfl : k = xs.length := by omega
        have hF : Hid (allR xs 0 1 = true) := by have := hH.out; rwa [List.take_length] at this
        go_wp2
        go_ret2
        exact ⟨by first | (rw [hR2.out, hT.out, hF.out, hg]; rfl) | (rw [hR2.out, hT.out, hF.out]; rfl), hb3.out⟩
end Go.Proofs.Ytmhdijklindipaa

/- The cost of an expression. -/
namespace Go.Proofs.Ytmhdijklindipaa
open Go.RowKit
set_option linter.unusedVariables false

theorem node4_b {w w2 : World} {a b c d : Value} {t : TypeId} {C : Nat} (hb : Below C (w.alloc (.cells #[a, b, c, d] t)) w2) (hC : w.heap.size < C) : w2.cell? ⟨w.heap.size, 0, none⟩ = some a ∧ w2.cell? ⟨w.heap.size, 1, none⟩ = some b ∧
    w2.cell? ⟨w.heap.size, 2, none⟩ = some c ∧ w2.cell? ⟨w.heap.size, 3, none⟩ = some d := by
  obtain ⟨h1, h2, h3, h4⟩ := node4 w a b c d t
  exact ⟨(hb.cell (by exact hC)).trans h1, (hb.cell (by exact hC)).trans h2, (hb.cell (by exact hC)).trans h3, (hb.cell (by exact hC)).trans h4⟩

def cst (s : ByteArray) : Int := if s.toList = [109,117,108] then 4 else if s.toList = [115,104,108] then 2 else if s.toList = [115,104,114] then 2 else 1
def cstI (s : ByteArray) : Int := if s.toList = [105,110] then 0 else if s.toList = [99,111,110,115,116] then 0 else cst s
def cstN (n : Nd) : Int := if 0 < (parts n).length then cst n.op else 0
theorem cst_bd (s : ByteArray) : 1 ≤ cst s ∧ cst s ≤ 4 := by unfold cst; split; · omega
                                                             split; · omega
                                                             split <;> omega
theorem cstI_bd (s : ByteArray) : 0 ≤ cstI s ∧ cstI s ≤ 4 := by
  have := cst_bd s
  unfold cstI; split; · omega
  split <;> omega
theorem cstN_bd (n : Nd) : 0 ≤ cstN n ∧ cstN n ≤ 4 := by
  have := cst_bd n.op
  unfold cstN; split <;> omega
theorem cstN_eq {n : Nd} (h : isOp n.op = true ∨ isIn n.op = true ∨ isConst n.op = true) : cstI n.op = cstN n := by
  unfold cstI cstN parts
  rcases op_cases n.op with h'|h'|h'|h'|h'|h'|h'|h'|h'|h'|h'|h'|h'|h'|h'
  iterate 14 (· simp [isOne, isTwo, twoOps, h'])
  · exfalso
    obtain ⟨h1, h2, h3, h4, h5, h6, h7, h8, h9, h10, h11, h12, h13, h14⟩ := h'
    have f : ∀ t : List UInt8, (n.op.toList == t) = false → (t == n.op.toList) = false := fun t h => by
      rw [beq_eq_false_iff_ne] at h ⊢; exact Ne.symm h
    simp only [isOp, isIn, isConst, isOne, isTwo, twoOps, List.any_cons, List.any_nil, h1, h2, h3, h4, f _ h5, f _ h6, f _ h7, f _ h8, f _ h9, f _ h10, f _ h11, f _ h12, f _ h13, f _ h14, Bool.or_false, Bool.false_eq_true, or_self] at h
theorem isNode_op {n : Nd} {i : Int} (h : isNode n i = true) : isOp n.op = true ∨ isIn n.op = true ∨ isConst n.op = true := by
  unfold isNode at h
  by_cases h1 : isIn n.op = true
  · exact .inr (.inl h1)
  by_cases h2 : isConst n.op = true
  · exact .inr (.inr h2)
  left
  simp only [Bool.not_eq_true] at h1 h2
  unfold isOp
  cases h3 : isOne n.op
  · cases h4 : isTwo n.op
    · simp [h1, h2, h3, h4] at h
    · rfl
  · rfl
theorem okFrom_mem : ∀ (es : List Nd) (i : Int), okFrom es i = true → ∀ n ∈ es, ∃ j, isNode n j = true := by
  intro es
  induction es with
  | nil => intro i _ n hn; simp at hn
  | cons e t ih =>
    intro i h n hn
    simp only [okFrom, Bool.and_eq_true] at h
    rcases List.mem_cons.mp hn with rfl | hn
    · exact ⟨i, h.1⟩
    · exact ih _ h.2 n hn
theorem good_cst {es : List Nd} (h : good es = true) : ∀ n ∈ es, cstI n.op = cstN n := fun n hn => by
  obtain ⟨j, hj⟩ := okFrom_mem es 0 (good_len h).2.2 n hn
  exact cstN_eq (isNode_op hj)

def sumAt (f : Nd → Int) (es : List Nd) (k : Nat) : Int := ((es.take k).map f).sum
theorem sumAt_succ (f : Nd → Int) {es : List Nd} {k : Nat} (h : k < es.length) : sumAt f es (k + 1) = sumAt f es k + f es[k] := by
  unfold sumAt; rw [List.take_succ_eq_append_getElem h, List.map_append, List.sum_append]; simp
theorem sumAt_bd {f : Nd → Int} (hf : ∀ n, 0 ≤ f n ∧ f n ≤ 4) (es : List Nd) (k : Nat) : 0 ≤ sumAt f es k ∧ sumAt f es k ≤ 4 * k := by
  have H : ∀ l : List Nd, 0 ≤ (l.map f).sum ∧ (l.map f).sum ≤ 4 * l.length := by
    intro l
    induction l with
    | nil => simp
    | cons a t ih => have := hf a; simp only [List.map_cons, List.sum_cons, List.length_cons]; push_cast; omega
  have h2 : (es.take k).length ≤ k := List.length_take_le _ _
  have := H (es.take k)
  unfold sumAt
  omega
theorem sumAt_congr {f g : Nd → Int} {es : List Nd} (h : ∀ n ∈ es, f n = g n) (k : Nat) : sumAt f es k = sumAt g es k := by
  unfold sumAt
  congr 1
  exact List.map_congr_left fun n hn => h n (List.mem_of_mem_take hn)
def cost (es : List Nd) : Int := sumAt cstN es es.length
def costE (es : List Nd) : Int := if good es = true then cost es else 0

set_option maxHeartbeats 1000000 in
theorem ruCdCost_any (s : ByteArray) (w : World) :
    Calls Try.prog 158 #[.string s] w fun e w' => e = .returned (.int .i64 (cst s)) ∧ w = w' := by
  by_cases h1 : s.toList = [109,117,108]
  · have H := Lib.hid (show cst s = 4 by simp [cst, h1])
    go_enter Try.func158, Try.ntmps158
    go_wp2
    go_ret
    exact ⟨by rw [H.out]; rfl, rfl⟩
  by_cases h2 : s.toList = [115,104,108]
  · have H := Lib.hid (show cst s = 2 by simp [cst, h2])
    go_enter Try.func158, Try.ntmps158
    go_wp2
    go_ret
    exact ⟨by rw [H.out]; rfl, rfl⟩
  by_cases h3 : s.toList = [115,104,114]
  · have H := Lib.hid (show cst s = 2 by simp [cst, h3])
    go_enter Try.func158, Try.ntmps158
    go_wp2
    go_ret
    exact ⟨by rw [H.out]; rfl, rfl⟩
  · have H := Lib.hid (show cst s = 1 by simp [cst, h1, h2, h3])
    have g1 : (s.toList == [109,117,108]) = false := by simpa using h1
    have g2 : (s.toList == [115,104,108]) = false := by simpa using h2
    have g3 : (s.toList == [115,104,114]) = false := by simpa using h3
    clear h1 h2 h3
    go_enter Try.func158, Try.ntmps158
    go_wp2
    go_ret
    exact ⟨by rw [H.out]; rfl, rfl⟩

end Go.Proofs.Ytmhdijklindipaa
