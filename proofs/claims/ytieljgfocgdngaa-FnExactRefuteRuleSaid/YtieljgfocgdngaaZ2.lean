/- Texts of this proof, one behind the other: TF, TS, YA, RL, YH, YI. -/
import Derived.Test.YtieljgfocgdngaaTP
import Derived.Test.YtieljgfocgdngaaLI
import Derived.WalkKit
import Derived.WalkSpells
import Derived.WalkLawsBesides
import Derived.StillTailTactics
import Derived.Deep.QuietTactic
import Derived.BigQuiet
import Derived.Lib.Hide
import Derived.Test.YtieljgfocgdngaaJ
import Derived.Test.YtieljgfocgdngaaZ3
import Derived.Deep.RegionLaw
import Derived.Deep.RegionHeld3
import Derived.Test.YtieljgfocgdngaaZ4
/- The model's helpers of chapter 3 over tables. -/
namespace Go.Proofs.Ytieljgfocgdngaa
open Go.RowKit
set_option linter.unusedVariables false
set_option maxRecDepth 100000


set_option maxHeartbeats 1000000 in
theorem eqFirst_any (L B L' B' : Nat) (A A' : Option Addr) (c c' : Nat) (n : Nat) (xs ys : List Int) (w : World) (hl : n ≤ 1048576) (hxn : xs.length = n) (hyn : ys.length = n) (hx : IS w L B A xs) (hy : IS w L' B' A' ys) :
    Calls Try.prog 74 #[.slice A n c, .slice A' n c'] w fun e w' => e = .returned (.int .i64 (firstI (neI xs ys) n)) ∧ w = w' := by
  have hX := Lib.hid hx
  have hY := Lib.hid hy
  have hXN := Lib.hid hxn
  have hYN := Lib.hid hyn
  clear hx hy hxn hyn
  go_enter Try.func74, Try.ntmps74
  go_wp2
  go_loop [5, 9] (fun _ i => ∃ k : Nat, k ≤ n ∧ i = .int .i64 k ∧ ∀ j, j < k → neI xs ys j = false) (fun _ i => n - (intOf i).toNat)
  case atStart => exact ⟨0, Nat.zero_le _, rfl, fun j hj => absurd hj (Nat.not_lt_zero _)⟩
  case round =>
    obtain ⟨k, hk, rfl, hh⟩ := hrel
    have hH := Lib.hid hh; clear hh
    by_cases hlt : k < n
    · have hkx : k < xs.length := by rw [hXN.out]; exact hlt
      have hky : k < ys.length := by rw [hYN.out]; exact hlt
      obtain ⟨b, o, rfl, _, hc⟩ := hX.out (by rw [hXN.out]; omega)
      obtain ⟨b', o', rfl, _, hc'⟩ := hY.out (by rw [hYN.out]; omega)
      have c1 := hc k hkx
      have c2 := hc' k hky
      have hS : Hid (neI xs ys k = (xs[k] != ys[k])) := by unfold Hid neI; rw [getD_get hkx, getD_get hky]
      clear hc hc' 
      generalize hgx : xs[k] = x at *
      generalize hgy : ys[k] = y at *
      clear hgx hgy hkx hky
      cases hb : (x != y)
      · go_wp2
        go_round
        case rel => exact ⟨k + 1, by omega, by go_num, fun j hj => by
          by_cases e : j = k
          · rw [e, hS.out]; exact hb
          · exact hH.out j (by omega)⟩
        case measure => simp [intOf]; omega
      · go_wp2
        go_ret
        exact ⟨by rw [firstI_some hlt (by rw [hS.out]; exact hb) hH.out]; rfl, rfl⟩
    · obtain rfl : k = n := by omega
      go_wp2
      go_ret
      exact ⟨by rw [firstI_none hH.out]; rfl, rfl⟩

end Go.Proofs.Ytieljgfocgdngaa

/- The model's functions of two expressions. -/
namespace Go.Proofs.Ytieljgfocgdngaa
open Go.RowKit
set_option linter.unusedVariables false
set_option maxRecDepth 100000

theorem exTable_n (L B : Nat) (A : Option Addr) (c : Nat) (es : List Nd) (w : World) (hg : good es = true) (hes : NS w L B A es) (hB : B ≤ w.heap.size) :
    Calls Try.prog 75 #[.slice A es.length c] w fun e w' => ∃ A' c', e = .returned (.slice A' 4096 c') ∧ IS w' w.heap.size w'.heap.size A' (tab es) ∧ Below w.heap.size w w' := by
  obtain ⟨hl1, hl24, hok⟩ := good_len hg
  refine (exTable_any L B A c es w hl24 hl1 hes hB hok).mono ?_
  rintro e w' ⟨A', c', rfl, how, hb⟩
  obtain ⟨A2, c2, hv, his⟩ := how.form
  injection hv with a b d
  subst a; subst d
  exact ⟨A', c', by rw [tab_len], his, hb⟩


set_option maxHeartbeats 4000000 in
theorem sFirstDifference_any (L B L' B' : Nat) (A A' : Option Addr) (c c' : Nat) (es fs : List Nd) (w : World) (hl : es.length ≤ 1048576) (hl' : fs.length ≤ 1048576) (hes : NS w L B A es) (hfs : NS w L' B' A' fs) (hB : B ≤ w.heap.size) (hB' : B' ≤ w.heap.size) :
    Calls Try.prog 32 #[.slice A es.length c, .slice A' fs.length c'] w fun e w' => e = .returned (.tuple #[.int .i64 (fd0 es fs), .int .i64 (fd1 es fs), .bool (fdB es fs)]) ∧ Below w.heap.size w w' := by
  have HE := Lib.hid fun (W : World) (hW : Below w.heap.size w W) => exGood_any L B A c es W hl (hes.below hW hB) (Nat.le_trans hB hW.size)
  have HF := Lib.hid fun (W : World) (hW : Below w.heap.size w W) => exGood_any L' B' A' c' fs W hl' (hfs.below hW hB') (Nat.le_trans hB' hW.size)
  have TE := Lib.hid fun (W : World) (hW : Below w.heap.size w W) (hg : good es = true) => exTable_n L B A c es W hg (hes.below hW hB) (Nat.le_trans hB hW.size)
  have TF := Lib.hid fun (W : World) (hW : Below w.heap.size w W) (hg : good fs = true) => exTable_n L' B' A' c' fs W hg (hfs.below hW hB') (Nat.le_trans hB' hW.size)
  clear hes hfs hB hB'
  have b0 := Lib.hid (Below.refl w.heap.size w)
  cases hg : good es
  · have hr := Lib.hid (show ok2 es fs = false by simp [ok2, hg])
    rw [hg] at HE
    clear TE TF HF
    go_enter Try.func32, Try.ntmps32
    go_wp2_with (fail)
    refine (HE.out w b0.out).mono ?_
    rintro e w1 ⟨rfl, hb⟩
    have b1 := Lib.hid (b0.out.trans (hb.mono b0.out.size)); clear hb
    go_wp2_with (fail)
    go_ret3
    exact ⟨by simp [fd0, fd1, fdB, fdR, hr.out], b1.out⟩
  cases hf : good fs
  · have hr := Lib.hid (show ok2 es fs = false by simp [ok2, hg, hf])
    rw [hg] at HE
    rw [hf] at HF
    clear TE TF
    go_enter Try.func32, Try.ntmps32
    go_wp2_with (fail)
    refine (HE.out w b0.out).mono ?_
    rintro e w1 ⟨rfl, hb⟩
    have b1 := Lib.hid (b0.out.trans (hb.mono b0.out.size)); clear hb
    go_wp2_with (fail)
    refine (HF.out w1 b1.out).mono ?_
    rintro e w2 ⟨rfl, hb⟩
    have b2 := Lib.hid (b1.out.trans (hb.mono b1.out.size)); clear hb
    go_wp2_with (fail)
    go_ret3
    exact ⟨by simp [fd0, fd1, fdB, fdR, hr.out], b2.out⟩
  have hr := Lib.hid (show ok2 es fs = true by simp [ok2, hg, hf])
  have hge := Lib.hid hg
  have hgf := Lib.hid hf
  rw [hg] at HE
  rw [hf] at HF
  clear hg hf
  go_enter Try.func32, Try.ntmps32
  go_wp2_with (fail)
  refine (HE.out w b0.out).mono ?_
  rintro e w1 ⟨rfl, hb⟩
  have b1 := Lib.hid (b0.out.trans (hb.mono b0.out.size)); clear hb
  go_wp2_with (fail)
  refine (HF.out w1 b1.out).mono ?_
  rintro e w2 ⟨rfl, hb⟩
  have b2 := Lib.hid (b1.out.trans (hb.mono b1.out.size)); clear hb
  go_wp2_with (fail)
  refine (TE.out w2 b2.out hge.out).mono ?_
  rintro e w3 ⟨V1, v1, rfl, hi, hb⟩
  have b3 := Lib.hid (b2.out.trans (hb.mono b2.out.size)); clear hb
  have I1 := Lib.hid hi
  clear hi
  go_wp2_with (fail)
  refine (TF.out w3 b3.out hgf.out).mono ?_
  rintro e w4 ⟨V2, v2, rfl, hi, hb⟩
  have b4 := Lib.hid (b3.out.trans (hb.mono b3.out.size))
  have J1 := Lib.hid (I1.out.below hb (Nat.le_refl _))
  have I2 := Lib.hid hi
  have z4 := Lib.hid hb.size
  clear hi hb I1
  go_wp2_with (fail)
  refine (eqFirst_any _ _ _ _ _ _ _ _ 4096 (tab es) (tab fs) w4 (by omega) (tab_len _) (tab_len _) J1.out I2.out).mono ?_
  rintro e w5 ⟨rfl, rfl⟩
  have hq : Hid (fdR es fs = firstI (neI (tab es) (tab fs)) 4096) := by unfold Hid fdR; rw [if_pos hr.out]
  have hbd := firstI_bd (neI (tab es) (tab fs)) 4096
  rw [← hq.out] at hbd ⊢
  have hFD : Hid (fd0 es fs = if fdR es fs < 0 then 0 else fdR es fs / 64) := rfl
  have hFD1 : Hid (fd1 es fs = if fdR es fs < 0 then 0 else fdR es fs % 64) := rfl
  have hFB : Hid (fdB es fs = decide (0 ≤ fdR es fs)) := rfl
  generalize fdR es fs = r at *
  by_cases hn : r < 0
  · go_wp2_with (fail)
    go_ret3
    exact ⟨by rw [hFD.out, hFD1.out, hFB.out, if_pos hn, if_pos hn, decide_eq_false (by omega)]; rfl, b4.out⟩
  · obtain ⟨k, rfl⟩ := Int.eq_ofNat_of_zero_le (by omega : 0 ≤ r)
    go_wp2_with (fail)
    go_ret3
    refine ⟨?_, b4.out⟩
    rw [hFD.out, hFD1.out, hFB.out, if_neg (by omega), if_neg (by omega), (decide_eq_true (by omega) : decide (0 ≤ (k : Int)) = true)]
    have h1 : wrap64 ((k : Int) / 64) = (k : Int) / 64 := by unfold wrap64; omega
    rw [← h1]; rfl

set_option maxHeartbeats 4000000 in
theorem sCountDifferences_any (L B L' B' : Nat) (A A' : Option Addr) (c c' : Nat) (es fs : List Nd) (w : World) (hl : es.length ≤ 1048576) (hl' : fs.length ≤ 1048576) (hes : NS w L B A es) (hfs : NS w L' B' A' fs) (hB : B ≤ w.heap.size) (hB' : B' ≤ w.heap.size) :
    Calls Try.prog 34 #[.slice A es.length c, .slice A' fs.length c'] w fun e w' => e = .returned (.tuple #[.int .i64 (cdR es fs), .bool (ok2 es fs)]) ∧ Below w.heap.size w w' := by
  have HE := Lib.hid fun (W : World) (hW : Below w.heap.size w W) => exGood_any L B A c es W hl (hes.below hW hB) (Nat.le_trans hB hW.size)
  have HF := Lib.hid fun (W : World) (hW : Below w.heap.size w W) => exGood_any L' B' A' c' fs W hl' (hfs.below hW hB') (Nat.le_trans hB' hW.size)
  have TE := Lib.hid fun (W : World) (hW : Below w.heap.size w W) (hg : good es = true) => exTable_n L B A c es W hg (hes.below hW hB) (Nat.le_trans hB hW.size)
  have TF := Lib.hid fun (W : World) (hW : Below w.heap.size w W) (hg : good fs = true) => exTable_n L' B' A' c' fs W hg (hfs.below hW hB') (Nat.le_trans hB' hW.size)
  clear hes hfs hB hB'
  have b0 := Lib.hid (Below.refl w.heap.size w)
  cases hg : good es
  · have hr := Lib.hid (show ok2 es fs = false by simp [ok2, hg])
    rw [hg] at HE
    clear TE TF HF
    go_enter Try.func34, Try.ntmps34
    go_wp2_with (fail)
    refine (HE.out w b0.out).mono ?_
    rintro e w1 ⟨rfl, hb⟩
    have b1 := Lib.hid (b0.out.trans (hb.mono b0.out.size)); clear hb
    go_wp2_with (fail)
    go_ret2
    exact ⟨by simp [cdR, hr.out], b1.out⟩
  cases hf : good fs
  · have hr := Lib.hid (show ok2 es fs = false by simp [ok2, hg, hf])
    rw [hg] at HE
    rw [hf] at HF
    clear TE TF
    go_enter Try.func34, Try.ntmps34
    go_wp2_with (fail)
    refine (HE.out w b0.out).mono ?_
    rintro e w1 ⟨rfl, hb⟩
    have b1 := Lib.hid (b0.out.trans (hb.mono b0.out.size)); clear hb
    go_wp2_with (fail)
    refine (HF.out w1 b1.out).mono ?_
    rintro e w2 ⟨rfl, hb⟩
    have b2 := Lib.hid (b1.out.trans (hb.mono b1.out.size)); clear hb
    go_wp2_with (fail)
    go_ret2
    exact ⟨by simp [cdR, hr.out], b2.out⟩
  have hr := Lib.hid (show ok2 es fs = true by simp [ok2, hg, hf])
  have hge := Lib.hid hg
  have hgf := Lib.hid hf
  rw [hg] at HE
  rw [hf] at HF
  clear hg hf
  go_enter Try.func34, Try.ntmps34
  go_wp2_with (fail)
  refine (HE.out w b0.out).mono ?_
  rintro e w1 ⟨rfl, hb⟩
  have b1 := Lib.hid (b0.out.trans (hb.mono b0.out.size)); clear hb
  go_wp2_with (fail)
  refine (HF.out w1 b1.out).mono ?_
  rintro e w2 ⟨rfl, hb⟩
  have b2 := Lib.hid (b1.out.trans (hb.mono b1.out.size)); clear hb
  go_wp2_with (fail)
  refine (TF.out w2 b2.out hgf.out).mono ?_
  rintro e w3 ⟨V1, v1, rfl, hi, hb⟩
  have b3 := Lib.hid (b2.out.trans (hb.mono b2.out.size)); clear hb
  have I1 := Lib.hid hi
  clear hi
  go_wp2_with (fail)
  refine (TE.out w3 b3.out hge.out).mono ?_
  rintro e w4 ⟨V2, v2, rfl, hi, hb⟩
  have b4 := Lib.hid (b3.out.trans (hb.mono b3.out.size))
  have J1 := Lib.hid (I1.out.below hb (Nat.le_refl _))
  have I2 := Lib.hid hi
  have z4 := Lib.hid hb.size
  clear hi hb I1
  have hq : Hid (cdR es fs = countI (neI (tab es) (tab fs)) 4096) := by unfold Hid cdR; rw [if_pos hr.out]
  have hlx := Lib.hid (tab_len es)
  have hly := Lib.hid (tab_len fs)
  generalize tab es = xs at *
  generalize tab fs = ys at *
  obtain ⟨n, hn⟩ : ∃ n : Nat, n = 4096 := ⟨_, rfl⟩
  have hnn : n ≤ 1000000 := by omega
  rw [← hn] at hq hlx hly
  rw [← hn]
  clear hn
  go_wp2
  go_loop [7, 8, 23] (fun q _ i => ∃ k : Nat, k ≤ n ∧ i = .int .i64 k ∧ q = .int .i64 (countI (neI xs ys) k)) (fun _ _ i => n - (intOf i).toNat)
  case atStart => exact ⟨0, Nat.zero_le _, rfl, rfl⟩
  case round =>
    obtain ⟨k, hk, rfl, rfl⟩ := hrel
    by_cases hlt : k < n
    · have hkx : k < xs.length := by rw [hlx.out]; exact hlt
      have hky : k < ys.length := by rw [hly.out]; exact hlt
      obtain ⟨b, o, rfl, _, hc⟩ := I2.out (by omega)
      obtain ⟨b', o', rfl, _, hc'⟩ := J1.out (by omega)
      have c1 := hc k hkx
      have c2 := hc' k hky
      have hS : Hid (neI xs ys k = (xs[k] != ys[k])) := by unfold Hid neI; rw [getD_get hkx, getD_get hky]
      clear hc hc'
      generalize hgx : xs[k] = x at *
      generalize hgy : ys[k] = y at *
      clear hgx hgy hkx hky
      have hbd := countI_bd (neI xs ys) k
      cases hb : (x != y)
      · have hS2 := Lib.hid (countI_no (by rw [hS.out]; exact hb) : countI (neI xs ys) (k + 1) = countI (neI xs ys) k)
        generalize countI (neI xs ys) k = q at *
        go_wp2
        go_round
        case rel => exact ⟨k + 1, by omega, by go_num, by rw [hS2.out]⟩
        case measure => simp [intOf]; omega
      · have hS2 := Lib.hid (countI_yes (by rw [hS.out]; exact hb) : countI (neI xs ys) (k + 1) = countI (neI xs ys) k + 1)
        generalize countI (neI xs ys) k = q at *
        go_wp2
        go_round
        case rel => exact ⟨k + 1, by omega, by go_num, by rw [hS2.out]⟩
        case measure => simp [intOf]; omega
    · obtain rfl : k = n := by omega
      go_wp2
      go_ret2
      exact ⟨by rw [hq.out, hr.out]; rfl, b4.out⟩

end Go.Proofs.Ytieljgfocgdngaa

/- The cost of an expression. -/
namespace Go.Proofs.Ytieljgfocgdngaa
open Go.RowKit
set_option linter.unusedVariables false

theorem node4_b {w w2 : World} {a b c d : Value} {t : TypeId} {C : Nat} (hb : Below C (w.alloc (.cells #[a, b, c, d] t)) w2) (hC : w.heap.size < C) : w2.cell? ⟨w.heap.size, 0, none⟩ = some a ∧ w2.cell? ⟨w.heap.size, 1, none⟩ = some b ∧
    w2.cell? ⟨w.heap.size, 2, none⟩ = some c ∧ w2.cell? ⟨w.heap.size, 3, none⟩ = some d := by
  obtain ⟨h1, h2, h3, h4⟩ := node4 w a b c d t
  exact ⟨(hb.cell (by exact hC)).trans h1, (hb.cell (by exact hC)).trans h2, (hb.cell (by exact hC)).trans h3, (hb.cell (by exact hC)).trans h4⟩

def cst (s : ByteArray) : Int := if s.toList = [109,117,108] then 4 else if s.toList = [115,104,108] then 2 else if s.toList = [115,104,114] then 2 else 1
def cstI (s : ByteArray) : Int := if s.toList = [105,110] then 0 else if s.toList = [99,111,110,115,116] then 0 else cst s
def cstN (n : Nd) : Int := if 0 < (parts n).length then cst n.op else 0
theorem cst_bd (s : ByteArray) : 1 ≤ cst s ∧ cst s ≤ 4 := by unfold cst; split; · omega
                                                             split; · omega
                                                             split <;> omega
theorem cstI_bd (s : ByteArray) : 0 ≤ cstI s ∧ cstI s ≤ 4 := by
  have := cst_bd s
  unfold cstI; split; · omega
  split <;> omega
theorem cstN_bd (n : Nd) : 0 ≤ cstN n ∧ cstN n ≤ 4 := by
  have := cst_bd n.op
  unfold cstN; split <;> omega
theorem cstN_eq {n : Nd} (h : isOp n.op = true ∨ isIn n.op = true ∨ isConst n.op = true) : cstI n.op = cstN n := by
  unfold cstI cstN parts
  rcases op_cases n.op with h'|h'|h'|h'|h'|h'|h'|h'|h'|h'|h'|h'|h'|h'|h'
  iterate 14 (· simp [isOne, isTwo, twoOps, h'])
  · exfalso
    obtain ⟨h1, h2, h3, h4, h5, h6, h7, h8, h9, h10, h11, h12, h13, h14⟩ := h'
    have f : ∀ t : List UInt8, (n.op.toList == t) = false → (t == n.op.toList) = false := fun t h => by
      rw [beq_eq_false_iff_ne] at h ⊢; exact Ne.symm h
    simp only [isOp, isIn, isConst, isOne, isTwo, twoOps, List.any_cons, List.any_nil, h1, h2, h3, h4, f _ h5, f _ h6, f _ h7, f _ h8, f _ h9, f _ h10, f _ h11, f _ h12, f _ h13, f _ h14, Bool.or_false, Bool.false_eq_true, or_self] at h
theorem isNode_op {n : Nd} {i : Int} (h : isNode n i = true) : isOp n.op = true ∨ isIn n.op = true ∨ isConst n.op = true := by
  unfold isNode at h
  by_cases h1 : isIn n.op = true
  · exact .inr (.inl h1)
  by_cases h2 : isConst n.op = true
  · exact .inr (.inr h2)
  left
  simp only [Bool.not_eq_true] at h1 h2
  unfold isOp
  cases h3 : isOne n.op
  · cases h4 : isTwo n.op
    · simp [h1, h2, h3, h4] at h
    · rfl
  · rfl
theorem okFrom_mem : ∀ (es : List Nd) (i : Int), okFrom es i = true → ∀ n ∈ es, ∃ j, isNode n j = true := by
  intro es
  induction es with
  | nil => intro i _ n hn; simp at hn
  | cons e t ih =>
    intro i h n hn
    simp only [okFrom, Bool.and_eq_true] at h
    rcases List.mem_cons.mp hn with rfl | hn
    · exact ⟨i, h.1⟩
    · exact ih _ h.2 n hn
theorem good_cst {es : List Nd} (h : good es = true) : ∀ n ∈ es, cstI n.op = cstN n := fun n hn => by
  obtain ⟨j, hj⟩ := okFrom_mem es 0 (good_len h).2.2 n hn
  exact cstN_eq (isNode_op hj)

def sumAt (f : Nd → Int) (es : List Nd) (k : Nat) : Int := ((es.take k).map f).sum
theorem sumAt_succ (f : Nd → Int) {es : List Nd} {k : Nat} (h : k < es.length) : sumAt f es (k + 1) = sumAt f es k + f es[k] := by
  unfold sumAt; rw [List.take_succ_eq_append_getElem h, List.map_append, List.sum_append]; simp
theorem sumAt_bd {f : Nd → Int} (hf : ∀ n, 0 ≤ f n ∧ f n ≤ 4) (es : List Nd) (k : Nat) : 0 ≤ sumAt f es k ∧ sumAt f es k ≤ 4 * k := by
  have H : ∀ l : List Nd, 0 ≤ (l.map f).sum ∧ (l.map f).sum ≤ 4 * l.length := by
    intro l
    induction l with
    | nil => simp
    | cons a t ih => have := hf a; simp only [List.map_cons, List.sum_cons, List.length_cons]; push_cast; omega
  have h2 : (es.take k).length ≤ k := List.length_take_le _ _
  have := H (es.take k)
  unfold sumAt
  omega
theorem sumAt_congr {f g : Nd → Int} {es : List Nd} (h : ∀ n ∈ es, f n = g n) (k : Nat) : sumAt f es k = sumAt g es k := by
  unfold sumAt
  congr 1
  exact List.map_congr_left fun n hn => h n (List.mem_of_mem_take hn)
def cost (es : List Nd) : Int := sumAt cstN es es.length
def costR (es : List Nd) : Int := if good es = true then cost es else 0

set_option maxHeartbeats 1000000 in
theorem ruCdCost_any (s : ByteArray) (w : World) :
    Calls Try.prog 124 #[.string s] w fun e w' => e = .returned (.int .i64 (cst s)) ∧ w = w' := by
  by_cases h1 : s.toList = [109,117,108]
  · have H := Lib.hid (show cst s = 4 by simp [cst, h1])
    go_enter Try.func124, Try.ntmps124
    go_wp2
    go_ret
    exact ⟨by rw [H.out]; rfl, rfl⟩
  by_cases h2 : s.toList = [115,104,108]
  · have H := Lib.hid (show cst s = 2 by simp [cst, h2])
    go_enter Try.func124, Try.ntmps124
    go_wp2
    go_ret
    exact ⟨by rw [H.out]; rfl, rfl⟩
  by_cases h3 : s.toList = [115,104,114]
  · have H := Lib.hid (show cst s = 2 by simp [cst, h3])
    go_enter Try.func124, Try.ntmps124
    go_wp2
    go_ret
    exact ⟨by rw [H.out]; rfl, rfl⟩
  · have H := Lib.hid (show cst s = 1 by simp [cst, h1, h2, h3])
    have g1 : (s.toList == [109,117,108]) = false := by simpa using h1
    have g2 : (s.toList == [115,104,108]) = false := by simpa using h2
    have g3 : (s.toList == [115,104,114]) = false := by simpa using h3
    clear h1 h2 h3
    go_enter Try.func124, Try.ntmps124
    go_wp2
    go_ret
    exact ⟨by rw [H.out]; rfl, rfl⟩

set_option maxHeartbeats 1000000 in
theorem costOfNode_any (s : ByteArray) (a b v : Int) (w : World) :
    Calls Try.prog 88 #[.agg #[.string s, .int .i64 a, .int .i64 b, .int .i64 v]] w fun e w' => e = .returned (.int .i64 (cstI s)) ∧ Below w.heap.size w w' := by
  have hB1 := fun o => (Below.refl w.heap.size w).alloc (Nat.le_refl _) o
  by_cases h4 : s.toList = [105,110]
  · have H := Lib.hid (show cstI s = 0 by simp [cstI, h4])
    go_enter Try.func88, Try.ntmps88
    go_wp2
    go_ret
    exact ⟨by rw [H.out]; rfl, hB1 _⟩
  by_cases h5 : s.toList = [99,111,110,115,116]
  · have H := Lib.hid (show cstI s = 0 by simp [cstI, h5])
    go_enter Try.func88, Try.ntmps88
    go_wp2
    go_ret
    exact ⟨by rw [H.out]; rfl, hB1 _⟩
  by_cases h1 : s.toList = [109,117,108]
  · have H := Lib.hid (show cstI s = 4 by simp [cstI, cst, h1])
    go_enter Try.func88, Try.ntmps88
    go_wp2
    go_ret
    exact ⟨by rw [H.out]; rfl, hB1 _⟩
  by_cases h2 : s.toList = [115,104,108]
  · have H := Lib.hid (show cstI s = 2 by simp [cstI, cst, h2])
    go_enter Try.func88, Try.ntmps88
    go_wp2
    go_ret
    exact ⟨by rw [H.out]; rfl, hB1 _⟩
  by_cases h3 : s.toList = [115,104,114]
  · have H := Lib.hid (show cstI s = 2 by simp [cstI, cst, h3])
    go_enter Try.func88, Try.ntmps88
    go_wp2
    go_ret
    exact ⟨by rw [H.out]; rfl, hB1 _⟩
  · have H := Lib.hid (show cstI s = 1 by simp [cstI, cst, h1, h2, h3, h4, h5])
    have g1 : (s.toList == [109,117,108]) = false := by simpa using h1
    have g2 : (s.toList == [115,104,108]) = false := by simpa using h2
    have g3 : (s.toList == [115,104,114]) = false := by simpa using h3
    have g4 : (s.toList == [105,110]) = false := by simpa using h4
    have g5 : (s.toList == [99,111,110,115,116]) = false := by simpa using h5
    clear h1 h2 h3 h4 h5
    go_enter Try.func88, Try.ntmps88
    go_wp2
    go_ret
    exact ⟨by rw [H.out]; rfl, hB1 _⟩

set_option maxHeartbeats 1000000 in
theorem ruCost_any (L B : Nat) (A : Option Addr) (c : Nat) (es : List Nd) (w : World) (hl : es.length ≤ 1048576) (hes : NS w L B A es) (hB : B ≤ w.heap.size) :
    Calls Try.prog 87 #[.slice A es.length c] w fun e w' => e = .returned (.int .i64 (cost es)) ∧ Below w.heap.size w w' := by
  have hE := Lib.hid hes
  have hBB := Lib.hid hB
  have hBel0 := Lib.hid (Below.refl w.heap.size w)
  clear hes hB
  go_enter Try.func87, Try.ntmps87
  go_wp2
  go_loopw [3, 8] (fun x i wr => ∃ k : Nat, k ≤ es.length ∧ i = .int .i64 k ∧ x = .int .i64 (sumAt cstN es k) ∧ Below w.heap.size w wr) (fun _ i _ => es.length - (intOf i).toNat)
  case atStart => exact ⟨0, Nat.zero_le _, rfl, rfl, hBel0.out⟩
  case round =>
    obtain ⟨k, hk, rfl, rfl, hbel⟩ := hrel
    obtain ⟨hc0, hc1⟩ := sumAt_bd cstN_bd es k
    by_cases hlt : k < es.length
    · obtain ⟨b, o, rfl, ⟨_, hbB⟩, hc⟩ := (hE.out.below hbel hBB.out) (by omega)
      obtain ⟨c1, c2, c3, c4⟩ := hc k hlt
      clear hc
      have hS := Lib.hid (sumAt_succ cstN hlt)
      generalize hx : sumAt cstN es k = x at *
      have hX := Lib.hid hx; clear hx
      generalize es[k] = nd at *
      obtain ⟨s, a, bb, v⟩ := nd
      have hBelB := Lib.hid hbel
      have hP := Lib.hid (show cstN ⟨s, a, bb, v⟩ = if 0 < (parts ⟨s, a, bb, v⟩).length then cst s else 0 from rfl)
      have hcs := cst_bd s
      go_wp2_with (fail)
      refine (exParts_any _ _ _ _ _).mono ?_
      rintro e w2 ⟨A2, cc, rfl, _, hb2⟩
      have hbel2 := Lib.hid (hBelB.out.trans (((Below.refl _ _).alloc hBelB.out.size _).trans (hb2.mono (by simp; have := hBelB.out.size; omega))))
      have n4 := node4_b hb2 (by simp)
      obtain ⟨n1, n2, n3, n4⟩ := n4
      clear hb2 hbel c1 c2 c3 c4
      generalize parts ⟨s, a, bb, v⟩ = ps at *
      by_cases hp : 0 < ps.length
      · have HC := Lib.hid (ruCdCost_any s w2)
        rw [if_pos hp] at hP
        generalize cst s = cs at *
        go_wp2_with (fail)
        refine HC.out.mono ?_
        rintro e w' ⟨rfl, rfl⟩
        go_wp2
        go_roundw
        case rel => exact ⟨k + 1, by omega, by go_num, by rw [hS.out, hP.out], hbel2.out⟩
        case measure => simp [intOf]; omega
      · rw [if_neg hp] at hP
        go_wp2
        go_roundw
        case rel => exact ⟨k + 1, by omega, by go_num, by rw [hS.out, hP.out]; simp, hbel2.out⟩
        case measure => simp [intOf]; omega
    · obtain rfl : k = es.length := by omega
      go_wp2
      go_ret
      exact ⟨rfl, hbel⟩

theorem sCostOfExpr_any (L B : Nat) (A : Option Addr) (c : Nat) (es : List Nd) (w : World) (hl : es.length ≤ 1048576) (hes : NS w L B A es) (hB : B ≤ w.heap.size) :
    Calls Try.prog 43 #[.slice A es.length c] w fun e w' => e = .returned (.tuple #[.int .i64 (costR es), .bool (good es)]) ∧ Below w.heap.size w w' := by
  have H := Lib.hid (exGood_any L B A c es w hl hes hB)
  have hE := Lib.hid hes
  have hBB := Lib.hid hB
  clear hes hB
  go_enter Try.func43, Try.ntmps43
  go_wp2_with (fail)
  refine H.out.mono ?_
  rintro e w2 ⟨rfl, hb⟩
  have hbb := Lib.hid hb
  clear hb
  cases hg : good es
  · have hR2 : Hid (costR es = 0) := by simp [Hid, costR, hg]
    go_wp2_with (fail)
    go_ret2
    exact ⟨by rw [hR2.out, hg]; rfl, hbb.out⟩
  · have hR2 : Hid (costR es = cost es) := by simp [Hid, costR, hg]
    go_wp2_with (fail)
    refine (ruCost_any L B A c es _ hl (hE.out.below hbb.out hBB.out) (Nat.le_trans hBB.out hbb.out.size)).mono ?_
    rintro e w3 ⟨rfl, hb⟩
    go_wp2_with (fail)
    go_ret2
    exact ⟨by rw [hR2.out, hg]; rfl, hbb.out.trans (hb.mono hbb.out.size)⟩

set_option maxHeartbeats 1000000 in
theorem iCostOfExpr_any (L B : Nat) (A : Option Addr) (c : Nat) (es : List Nd) (w : World) (hl : es.length ≤ 1048576) (hes : NS w L B A es) (hB : B ≤ w.heap.size) :
    Calls Try.prog 44 #[.slice A es.length c] w fun e w' => e = .returned (.tuple #[.int .i64 (costR es), .bool (good es)]) ∧ Below w.heap.size w w' := by
  have H := Lib.hid (IsExpr_any L B A c es w hl hes hB)
  have hE := Lib.hid hes
  have hBB := Lib.hid hB
  clear hes hB
  go_enter Try.func44, Try.ntmps44
  go_wp2_with (fail)
  refine H.out.mono ?_
  rintro e w2 ⟨rfl, hb⟩
  have hbb := Lib.hid hb
  clear hb
  cases hg : good es
  · have hR2 : Hid (costR es = 0) := by simp [Hid, costR, hg]
    go_wp2_with (fail)
    go_ret2
    exact ⟨by rw [hR2.out, hg]; rfl, hbb.out⟩
  · have hR2 : Hid (costR es = sumAt (fun n => cstI n.op) es es.length) := by
      unfold Hid costR cost; rw [if_pos hg]; exact (sumAt_congr (good_cst hg) _).symm
    go_wp2_with (fail)
    go_loopw [4, 12] (fun x i wr => ∃ k : Nat, k ≤ es.length ∧ i = .int .i64 k ∧ x = .int .i64 (sumAt (fun n => cstI n.op) es k) ∧ Below w.heap.size w wr) (fun _ i _ => es.length - (intOf i).toNat)
    case atStart => exact ⟨0, Nat.zero_le _, rfl, rfl, hbb.out⟩
    case round =>
      obtain ⟨k, hk, rfl, rfl, hbel⟩ := hrel
      obtain ⟨hc0, hc1⟩ := sumAt_bd (f := fun n => cstI n.op) (fun n => cstI_bd n.op) es k
      by_cases hlt : k < es.length
      · obtain ⟨b, o, rfl, ⟨_, hbB⟩, hc⟩ := (hE.out.below hbel hBB.out) (by omega)
        obtain ⟨c1, c2, c3, c4⟩ := hc k hlt
        clear hc
        have hS := Lib.hid (sumAt_succ (fun n => cstI n.op) hlt)
        generalize hx : sumAt (fun n => cstI n.op) es k = x at *
        have hX := Lib.hid hx; clear hx
        generalize es[k] = nd at *
        obtain ⟨s, a, bb, v⟩ := nd
        have hBelB := Lib.hid hbel
        have hcs := cstI_bd s
        go_wp2_with (fail)
        refine (costOfNode_any _ _ _ _ _).mono ?_
        rintro e w2 ⟨rfl, hb2⟩
        have hbel2 := Lib.hid (hBelB.out.trans (((Below.refl _ _).alloc hBelB.out.size _).trans (hb2.mono (by simp; have := hBelB.out.size; omega))))
        clear hb2 hbel c1 c2 c3 c4
        generalize cstI s = cs at *
        go_wp2
        go_roundw
        case rel => exact ⟨k + 1, by omega, by go_num, by rw [hS.out], hbel2.out⟩
        case measure => simp [intOf]; omega
      · obtain rfl : k = es.length := by omega
        have hR3 := Lib.hid hR2.out.symm
        clear hR2
        go_wp2
        go_ret2
        exact ⟨by rw [← hR3.out, hg]; rfl, hbel⟩
end Go.Proofs.Ytieljgfocgdngaa

/- IsFalling: the model and the program. -/
namespace Go.Proofs.Ytieljgfocgdngaa
open Go.RowKit
set_option linter.unusedVariables false
set_option maxRecDepth 100000

set_option maxHeartbeats 1000000 in
theorem countInput_any (L B : Nat) (A : Option Addr) (c : Nat) (es : List Nd) (k : Int) (w : World) (hl : es.length ≤ 1048576) (hx : NS w L B A es) (hB : B ≤ w.heap.size) :
    Calls Try.prog 90 #[.slice A es.length c, .int .i64 k] w fun e w' => e = .returned (.int .i64 (cntIn es k)) ∧ Below w.heap.size w w' := by
  have hX := Lib.hid hx
  have hBel0 := Below.refl w.heap.size w
  have hS0 := Lib.hid fun j (hj : j < es.length) => cntIn_snoc (es := es) (j := j) hj k
  have hB0 := Lib.hid fun j => cntIn_bd es j k
  have hEnd := Lib.hid (show es.take es.length = es from List.take_length)
  clear hx
  go_enter Try.func90, Try.ntmps90
  go_wp2
  go_loopw [5, 10] (fun a i wr => ∃ j : Nat, j ≤ es.length ∧ i = .int .i64 j ∧ a = .int .i64 (cntIn (es.take j) k) ∧ Below w.heap.size w wr) (fun _ i _ => es.length - (intOf i).toNat)
  case atStart => exact ⟨0, Nat.zero_le _, rfl, rfl, hBel0⟩
  case round =>
    obtain ⟨j, hj, rfl, rfl, hbel⟩ := hrel
    have hBe := Lib.hid hbel
    by_cases hlt : j < es.length
    · obtain ⟨b, o, rfl, ⟨_, hbB⟩, hc⟩ := (hX.out.below hbel hB) (by omega)
      obtain ⟨c1, c2, c3, c4⟩ := hc j hlt
      have k0 : (0 : Int) ≤ (j : Int) := by omega
      have k1 : (j : Int) < (es.length : Int) := by omega
      have hXx := xn_new wr es[j]
      have hXb := (Below.refl wr.heap.size wr).alloc (Nat.le_refl _) (.cells #[.string es[j].op, .int .i64 es[j].a, .int .i64 es[j].b, .int .i64 es[j].v] 62)
      obtain ⟨X, hXe⟩ : ∃ X, X = wr.alloc (.cells #[.string es[j].op, .int .i64 es[j].a, .int .i64 es[j].b, .int .i64 es[j].v] 62) := ⟨_, rfl⟩
      rw [← hXe] at hXx hXb
      have xB := Lib.hid (hBe.out.trans (hXb.mono hBe.out.size))
      have HX := Lib.hid hXe
      obtain ⟨m0, m1, m2, m3⟩ := hXx.cells
      rw [hXe] at m0 m1 m2 m3
      obtain ⟨a0, a1⟩ := hB0.out j
      have s0 := hS0.out j hlt
      have hII := Lib.hid fun W => isInput_any es[j].op es[j].a es[j].b es[j].v k W
      have hisp : isInp es[j] k = (isIn es[j].op && es[j].v == k) := rfl
      rw [← hisp] at hII
      clear hc hbel hXx hXb hXe hisp
      generalize hx0 : cntIn (es.take (j + 1)) k = x0 at *
      have HX0 := Lib.hid hx0
      clear hx0
      generalize cntIn (es.take j) k = y0 at *
      generalize es[j] = nd at *
      obtain ⟨op, a, bb, v⟩ := nd
      dsimp only at *
      cases hin : isInp ⟨op, a, bb, v⟩ k
      · rw [hin] at hII s0
        have t0 : Hid (x0 = y0) := by rw [Hid, s0]; simp
        clear s0 hin
        go_wp2_with (fail)
        rw [← HX.out]
        refine (hII.out X).mono ?_
        rintro e w2 ⟨rfl, hb⟩
        have b2 := Lib.hid (xB.out.trans (hb.mono xB.out.size))
        clear hb
        go_wp2
        go_roundw
        case rel => exact ⟨j + 1, by omega, by go_num, by rw [HX0.out, t0.out], b2.out⟩
        case measure => simp [intOf]; omega
      · rw [hin] at hII s0
        have t0 : Hid (x0 = y0 + 1) := by rw [Hid, s0]; simp
        clear s0 hin
        go_wp2_with (fail)
        rw [← HX.out]
        refine (hII.out X).mono ?_
        rintro e w2 ⟨rfl, hb⟩
        have b2 := Lib.hid (xB.out.trans (hb.mono xB.out.size))
        clear hb
        go_wp2
        go_roundw
        case rel => exact ⟨j + 1, by omega, by go_num, by rw [HX0.out, t0.out], b2.out⟩
        case measure => simp [intOf]; omega
    · obtain rfl : j = es.length := by omega
      rw [hEnd.out]
      go_wp2
      go_ret
      exact ⟨rfl, hBe.out⟩

def fallB (fr to : List Nd) : Bool := decide (cost to < cost fr) && decide (cntIn to 0 ≤ cntIn fr 0) && decide (cntIn to 1 ≤ cntIn fr 1)
def fallR (fr to : List Nd) (s : ByteArray) : Bool := ruleOk fr to s && fallB fr to
theorem ruleOk_good {fr to : List Nd} {s : ByteArray} (h : ruleOk fr to s = true) : good fr = true ∧ good to = true := by
  unfold ruleOk at h
  simp only [Bool.and_eq_true] at h
  exact ⟨walked_good h.1.1.1.2, walked_good h.1.1.2⟩

set_option maxHeartbeats 4000000 in
theorem ruFalling_any (L B : Nat) (A1 A2 : Option Addr) (c1 c2 : Nat) (fr to : List Nd) (s : ByteArray) (w : World) (hl1 : fr.length ≤ 1048576) (hl2 : to.length ≤ 1048576) (h1 : NS w L B A1 fr) (h2 : NS w L B A2 to) (hB : B ≤ w.heap.size) :
    Calls Try.prog 89 #[.agg #[.slice A1 fr.length c1, .slice A2 to.length c2, .string s]] w fun e w' => e = .returned (.bool (fallB fr to)) ∧ Below w.heap.size w w' := by
  obtain ⟨W1, hW1⟩ : ∃ W1, W1 = w.alloc (.cells #[.slice A1 fr.length c1, .slice A2 to.length c2, .string s] 45) := ⟨_, rfl⟩
  have b1 : Hid (Below w.heap.size w W1) := by unfold Hid; rw [hW1]; exact (Below.refl _ _).alloc (Nat.le_refl _) _
  have x1 : Hid (RX 45 W1 w.heap.size (.slice A1 fr.length c1) (.slice A2 to.length c2) s) := by unfold Hid; rw [hW1]; exact rx_new _ _ _ _ _
  have e1 := Lib.hid hW1
  obtain ⟨k0, k1, k2⟩ := x1.out.cells
  rw [hW1] at k0 k1 k2
  have HH1 := Lib.hid fun (W : World) (hW : Below w.heap.size w W) => ruHoles_any L B A1 c1 fr W hl1 (h1.below hW hB) (Nat.le_trans hB hW.size)
  have HH2 := Lib.hid fun (W : World) (hW : Below w.heap.size w W) => ruHoles_any L B A2 c2 to W hl2 (h2.below hW hB) (Nat.le_trans hB hW.size)
  have HC1 := Lib.hid fun (W : World) (hW : Below w.heap.size w W) => ruCost_any L B A1 c1 fr W hl1 (h1.below hW hB) (Nat.le_trans hB hW.size)
  have HC2 := Lib.hid fun (W : World) (hW : Below w.heap.size w W) => ruCost_any L B A2 c2 to W hl2 (h2.below hW hB) (Nat.le_trans hB hW.size)
  clear hW1 h1 h2
  go_enter Try.func89, Try.ntmps89
  go_wp2_with (fail)
  rw [← e1.out]
  refine (HH1.out W1 b1.out).mono ?_
  rintro e w2 ⟨rfl, hb⟩
  have b2 := Lib.hid (b1.out.trans (hb.mono b1.out.size))
  have x2 := Lib.hid (x1.out.next hb)
  clear hb k0 k1 k2
  obtain ⟨k0, k1, k2⟩ := x2.out.cells
  go_wp2_with (fail)
  refine (HH2.out w2 b2.out).mono ?_
  rintro e w3 ⟨rfl, hb⟩
  have b3 := Lib.hid (b2.out.trans (hb.mono b2.out.size))
  have x3 := Lib.hid (x2.out.next hb)
  clear hb k0 k1 k2
  obtain ⟨k0, k1, k2⟩ := x3.out.cells
  have hFB : Hid (fallB fr to = (decide (cost to < cost fr) && decide (cntIn to 0 ≤ cntIn fr 0) && decide (cntIn to 1 ≤ cntIn fr 1))) := rfl
  generalize cntIn fr 0 = a0 at *
  generalize cntIn fr 1 = a1 at *
  generalize cntIn to 0 = a2 at *
  generalize cntIn to 1 = a3 at *
  generalize cost fr = p at *
  generalize cost to = q at *
  by_cases hpq : q < p
  · by_cases hca : a2 ≤ a0
    · by_cases hdb : a3 ≤ a1
      · have hr : Hid (fallB fr to = true) := by rw [Hid, hFB.out, decide_eq_true hpq, decide_eq_true hca, decide_eq_true hdb]; rfl
        go_wp2_with (fail)
        go_region_held3 (fun w' => w'.cell? ⟨w.heap.size, 0, none⟩ = some (.slice A1 fr.length c1) ∧ w'.cell? ⟨w.heap.size, 1, none⟩ = some (.slice A2 to.length c2) ∧ w'.cell? ⟨w.heap.size, 2, none⟩ = some (.string s))
          (first | exact KT | exact KF | assumption | go_keep)
          (first
            | (go_at_call 87; (first | (with_reducible refine (HC2.out wF bF).mono ?_) | (with_reducible refine (HC2.out w3.drew b3.out.drew).mono ?_) | (with_reducible refine (HC2.out w3 b3.out).mono ?_)); rintro e wT ⟨rfl, hbT⟩; have bT : Below w.heap.size w wT := (by first | exact bF.trans (hbT.mono bF.size) | exact b3.out.trans (hbT.mono b3.out.size) | exact b3.out.drew.trans (hbT.mono b3.out.size)); have xT : RX 45 wT w.heap.size (.slice A1 fr.length c1) (.slice A2 to.length c2) s := (by first | exact RX.next xF hbT | exact RX.next (w := w3.drew) x3.out hbT | exact RX.next x3.out hbT); have KT := xT.cells)
            | (go_at_call 87; (first | (with_reducible refine (HC1.out wT bT).mono ?_) | (with_reducible refine (HC1.out w3.drew b3.out.drew).mono ?_) | (with_reducible refine (HC1.out w3 b3.out).mono ?_)); rintro e wF ⟨rfl, hbF⟩; have bF : Below w.heap.size w wF := (by first | exact bT.trans (hbF.mono bT.size) | exact b3.out.trans (hbF.mono b3.out.size) | exact b3.out.drew.trans (hbF.mono b3.out.size)); have xF : RX 45 wF w.heap.size (.slice A1 fr.length c1) (.slice A2 to.length c2) s := (by first | exact RX.next xT hbF | exact RX.next (w := w3.drew) x3.out hbF | exact RX.next x3.out hbF); have KF := xF.cells))
        all_goals
          have BT := Lib.hid bT
          have BF := Lib.hid bF
          clear bT bF hbT hbF xT xF KT KF
          go_wp2
          go_ret
          exact ⟨ret_bool (by first | (rw [hr.out]; done) | (rw [hr.out]; exact decide_eq_false (by omega)) | (rw [hr.out]; simp; done) | (rw [hr.out]; simp; omega)), by first | exact BT.out | exact BF.out⟩
      · have hr : Hid (fallB fr to = false) := by rw [Hid, hFB.out, decide_eq_false hdb]; simp
        go_wp2_with (fail)
        go_region_held3 (fun w' => w'.cell? ⟨w.heap.size, 0, none⟩ = some (.slice A1 fr.length c1) ∧ w'.cell? ⟨w.heap.size, 1, none⟩ = some (.slice A2 to.length c2) ∧ w'.cell? ⟨w.heap.size, 2, none⟩ = some (.string s))
          (first | exact KT | exact KF | assumption | go_keep)
          (first
            | (go_at_call 87; (first | (with_reducible refine (HC2.out wF bF).mono ?_) | (with_reducible refine (HC2.out w3.drew b3.out.drew).mono ?_) | (with_reducible refine (HC2.out w3 b3.out).mono ?_)); rintro e wT ⟨rfl, hbT⟩; have bT : Below w.heap.size w wT := (by first | exact bF.trans (hbT.mono bF.size) | exact b3.out.trans (hbT.mono b3.out.size) | exact b3.out.drew.trans (hbT.mono b3.out.size)); have xT : RX 45 wT w.heap.size (.slice A1 fr.length c1) (.slice A2 to.length c2) s := (by first | exact RX.next xF hbT | exact RX.next (w := w3.drew) x3.out hbT | exact RX.next x3.out hbT); have KT := xT.cells)
            | (go_at_call 87; (first | (with_reducible refine (HC1.out wT bT).mono ?_) | (with_reducible refine (HC1.out w3.drew b3.out.drew).mono ?_) | (with_reducible refine (HC1.out w3 b3.out).mono ?_)); rintro e wF ⟨rfl, hbF⟩; have bF : Below w.heap.size w wF := (by first | exact bT.trans (hbF.mono bT.size) | exact b3.out.trans (hbF.mono b3.out.size) | exact b3.out.drew.trans (hbF.mono b3.out.size)); have xF : RX 45 wF w.heap.size (.slice A1 fr.length c1) (.slice A2 to.length c2) s := (by first | exact RX.next xT hbF | exact RX.next (w := w3.drew) x3.out hbF | exact RX.next x3.out hbF); have KF := xF.cells))
        all_goals
          have BT := Lib.hid bT
          have BF := Lib.hid bF
          clear bT bF hbT hbF xT xF KT KF
          go_wp2
          go_ret
          exact ⟨ret_bool (by first | (rw [hr.out]; done) | (rw [hr.out]; exact decide_eq_false (by omega)) | (rw [hr.out]; simp; done) | (rw [hr.out]; simp; omega)), by first | exact BT.out | exact BF.out⟩
    · have hr : Hid (fallB fr to = false) := by rw [Hid, hFB.out, decide_eq_false hca]; simp
      have g2 : decide (a2 ≤ a0) = false := decide_eq_false hca
      go_wp2_with (fail)
      refine wp_region_any (by kernel_rfl) ?_
      try (change wpAny _ _ _ _ _ _ _ (World.drew _))
      refine wpAny_take (i := 0) (v := ?_) rfl (by kernel_rfl) (by kernel_rfl) (by kernel_rfl) (fun _ _ _ h => h) (Or.inl ⟨by rfl, ?_⟩) ?_
      rotate_left 1
      · (intro w; go_simp; try with_reducible rfl)
      try simp only [Act.put, List.setIfInBounds_toArray, List.set_cons_zero, List.set_cons_succ, List.getElem_toArray, List.getElem_cons_zero, List.getElem_cons_succ]
      refine wpAny_take (i := 3) (v := ?_) rfl (by kernel_rfl) (by kernel_rfl) (by kernel_rfl) (fun _ _ _ h => h) (Or.inl ⟨by rfl, ?_⟩) ?_
      rotate_left 1
      · (intro w; go_simp; try with_reducible rfl)
      try simp only [Act.put, List.setIfInBounds_toArray, List.set_cons_zero, List.set_cons_succ, List.getElem_toArray, List.getElem_cons_zero, List.getElem_cons_succ]
      refine wpAny_ready (rs := [1, 4]) (by kernel_rfl) (by simp) ?_
      refine AllReady.cons rfl (fun K hK => ?_) (AllReady.cons rfl (fun K hK => ?_) (AllReady.nil))
      try simp only [List.setIfInBounds_toArray, List.set_cons_zero, List.set_cons_succ, List.getElem_toArray, List.getElem_cons_zero, List.getElem_cons_succ]
      go_simp
      try (refine hK _ _ ?_; clear hK K)
      refine wpAny_ready (rs := [2, 4]) (by kernel_rfl) (by simp) ?_
      refine AllReady.cons rfl (fun K hK => ?_) (AllReady.cons rfl (fun K hK => ?_) (AllReady.nil))
      try simp only [List.setIfInBounds_toArray, List.set_cons_zero, List.set_cons_succ, List.getElem_toArray, List.getElem_cons_zero, List.getElem_cons_succ]
      (go_simp; first | (go_at_call 87; (first | (with_reducible refine (HC2.out wF bF).mono ?_) | (with_reducible refine (HC2.out w3.drew b3.out.drew).mono ?_) | (with_reducible refine (HC2.out w3 b3.out).mono ?_)); rintro e wT ⟨rfl, hbT⟩; have bT : Below w.heap.size w wT := (by first | exact bF.trans (hbT.mono bF.size) | exact b3.out.trans (hbT.mono b3.out.size) | exact b3.out.drew.trans (hbT.mono b3.out.size)); have xT : RX 45 wT w.heap.size (.slice A1 fr.length c1) (.slice A2 to.length c2) s := (by first | exact RX.next xF hbT | exact RX.next (w := w3.drew) x3.out hbT | exact RX.next x3.out hbT); obtain ⟨kt0, kt1, kt2⟩ := xT.cells) | (go_at_call 87; (first | (with_reducible refine (HC1.out wT bT).mono ?_) | (with_reducible refine (HC1.out w3.drew b3.out.drew).mono ?_) | (with_reducible refine (HC1.out w3 b3.out).mono ?_)); rintro e wF ⟨rfl, hbF⟩; have bF : Below w.heap.size w wF := (by first | exact bT.trans (hbF.mono bT.size) | exact b3.out.trans (hbF.mono b3.out.size) | exact b3.out.drew.trans (hbF.mono b3.out.size)); have xF : RX 45 wF w.heap.size (.slice A1 fr.length c1) (.slice A2 to.length c2) s := (by first | exact RX.next xT hbF | exact RX.next (w := w3.drew) x3.out hbF | exact RX.next x3.out hbF); obtain ⟨kf0, kf1, kf2⟩ := xF.cells))
      try go_simp
      try (refine hK _ _ ?_; clear hK K)
      refine wpAny_ready (rs := [4]) (by kernel_rfl) (by simp) ?_
      refine AllReady.cons rfl (fun K hK => ?_) (AllReady.nil)
      try simp only [List.setIfInBounds_toArray, List.set_cons_zero, List.set_cons_succ, List.getElem_toArray, List.getElem_cons_zero, List.getElem_cons_succ]
      go_simp
      try (refine hK _ _ ?_; clear hK K)
      refine wpAny_ready (rs := [5]) (by kernel_rfl) (by simp) ?_
      refine AllReady.cons rfl (fun K hK => ?_) (AllReady.nil)
      try simp only [List.setIfInBounds_toArray, List.set_cons_zero, List.set_cons_succ, List.getElem_toArray, List.getElem_cons_zero, List.getElem_cons_succ]
      (go_simp; first | (go_at_call 87; (first | (with_reducible refine (HC2.out wF bF).mono ?_) | (with_reducible refine (HC2.out w3.drew b3.out.drew).mono ?_) | (with_reducible refine (HC2.out w3 b3.out).mono ?_)); rintro e wT ⟨rfl, hbT⟩; have bT : Below w.heap.size w wT := (by first | exact bF.trans (hbT.mono bF.size) | exact b3.out.trans (hbT.mono b3.out.size) | exact b3.out.drew.trans (hbT.mono b3.out.size)); have xT : RX 45 wT w.heap.size (.slice A1 fr.length c1) (.slice A2 to.length c2) s := (by first | exact RX.next xF hbT | exact RX.next (w := w3.drew) x3.out hbT | exact RX.next x3.out hbT); obtain ⟨kt0, kt1, kt2⟩ := xT.cells) | (go_at_call 87; (first | (with_reducible refine (HC1.out wT bT).mono ?_) | (with_reducible refine (HC1.out w3.drew b3.out.drew).mono ?_) | (with_reducible refine (HC1.out w3 b3.out).mono ?_)); rintro e wF ⟨rfl, hbF⟩; have bF : Below w.heap.size w wF := (by first | exact bT.trans (hbF.mono bT.size) | exact b3.out.trans (hbF.mono b3.out.size) | exact b3.out.drew.trans (hbF.mono b3.out.size)); have xF : RX 45 wF w.heap.size (.slice A1 fr.length c1) (.slice A2 to.length c2) s := (by first | exact RX.next xT hbF | exact RX.next (w := w3.drew) x3.out hbF | exact RX.next x3.out hbF); obtain ⟨kf0, kf1, kf2⟩ := xF.cells))
      try go_simp
      try (refine hK _ _ ?_; clear hK K)
      refine wpAny_take (i := 6) (v := ?_) rfl (by kernel_rfl) (by kernel_rfl) (by kernel_rfl) (fun _ _ _ h => h) (Or.inl ⟨by rfl, ?_⟩) ?_
      rotate_left 1
      · (intro w; go_simp; try with_reducible rfl)
      try simp only [Act.put, List.setIfInBounds_toArray, List.set_cons_zero, List.set_cons_succ, List.getElem_toArray, List.getElem_cons_zero, List.getElem_cons_succ]
      refine wpAny_take (i := 7) (v := ?_) rfl (by kernel_rfl) (by kernel_rfl) (by kernel_rfl) (fun _ _ _ h => h) (Or.inl ⟨by rfl, ?_⟩) ?_
      rotate_left 1
      · (intro w; go_simp; try with_reducible rfl)
      try simp only [Act.put, List.setIfInBounds_toArray, List.set_cons_zero, List.set_cons_succ, List.getElem_toArray, List.getElem_cons_zero, List.getElem_cons_succ]
      refine wpAny_take (i := 8) (v := ?_) rfl (by kernel_rfl) (by kernel_rfl) (by kernel_rfl) (fun _ _ _ h => h) (Or.inl ⟨by rfl, ?_⟩) ?_
      rotate_left 1
      · (intro w; go_simp; try with_reducible rfl)
      try simp only [Act.put, List.setIfInBounds_toArray, List.set_cons_zero, List.set_cons_succ, List.getElem_toArray, List.getElem_cons_zero, List.getElem_cons_succ]
      refine wpAny_take (i := 9) (v := ?_) rfl (by kernel_rfl) (by kernel_rfl) (by kernel_rfl) (fun _ _ _ h => h) (Or.inl ⟨by rfl, ?_⟩) ?_
      rotate_left 1
      · (intro w; go_simp; try with_reducible rfl)
      try simp only [Act.put, List.setIfInBounds_toArray, List.set_cons_zero, List.set_cons_succ, List.getElem_toArray, List.getElem_cons_zero, List.getElem_cons_succ]
      refine wpAny_take (i := 10) (v := ?_) rfl (by kernel_rfl) (by kernel_rfl) (by kernel_rfl) (fun _ _ _ h => h) (Or.inl ⟨by rfl, ?_⟩) ?_
      rotate_left 1
      · (intro w; go_simp; try with_reducible rfl)
      try simp only [Act.put, List.setIfInBounds_toArray, List.set_cons_zero, List.set_cons_succ, List.getElem_toArray, List.getElem_cons_zero, List.getElem_cons_succ]
      refine wpAny_take (i := 11) (v := ?_) rfl (by kernel_rfl) (by kernel_rfl) (by kernel_rfl) (fun _ _ _ h => h) (Or.inl ⟨by rfl, ?_⟩) ?_
      rotate_left 1
      · (intro w; go_simp; try with_reducible rfl)
      try simp only [Act.put, List.setIfInBounds_toArray, List.set_cons_zero, List.set_cons_succ, List.getElem_toArray, List.getElem_cons_zero, List.getElem_cons_succ]
      refine wpAny_take (i := 12) (v := ?_) rfl (by kernel_rfl) (by kernel_rfl) (by kernel_rfl) (fun _ _ _ h => h) (Or.inl ⟨by rfl, ?_⟩) ?_
      rotate_left 1
      · (intro w; go_simp; try with_reducible rfl)
      try simp only [Act.put, List.setIfInBounds_toArray, List.set_cons_zero, List.set_cons_succ, List.getElem_toArray, List.getElem_cons_zero, List.getElem_cons_succ]
      refine wpAny_take (i := 13) (v := undef) rfl (by kernel_rfl) (by kernel_rfl) (by kernel_rfl) (fun _ _ _ h => h) (Or.inr ⟨by rfl, rfl⟩) ?_
      try simp only [Act.put, List.setIfInBounds_toArray, List.set_cons_zero, List.set_cons_succ, List.getElem_toArray, List.getElem_cons_zero, List.getElem_cons_succ]
      refine wpAny_take (i := 14) (v := undef) rfl (by kernel_rfl) (by kernel_rfl) (by kernel_rfl) (fun _ _ _ h => h) (Or.inr ⟨by rfl, rfl⟩) ?_
      try simp only [Act.put, List.setIfInBounds_toArray, List.set_cons_zero, List.set_cons_succ, List.getElem_toArray, List.getElem_cons_zero, List.getElem_cons_succ]
      refine wpAny_take (i := 15) (v := undef) rfl (by kernel_rfl) (by kernel_rfl) (by kernel_rfl) (fun _ _ _ h => h) (Or.inr ⟨by rfl, rfl⟩) ?_
      try simp only [Act.put, List.setIfInBounds_toArray, List.set_cons_zero, List.set_cons_succ, List.getElem_toArray, List.getElem_cons_zero, List.getElem_cons_succ]
      refine wpAny_take (i := 16) (v := ?_) rfl (by kernel_rfl) (by kernel_rfl) (by kernel_rfl) (fun _ _ _ h => h) (Or.inl ⟨by rfl, ?_⟩) ?_
      rotate_left 1
      · (intro w; go_simp; try with_reducible rfl)
      try simp only [Act.put, List.setIfInBounds_toArray, List.set_cons_zero, List.set_cons_succ, List.getElem_toArray, List.getElem_cons_zero, List.getElem_cons_succ]
      refine wpAny_take (i := 17) (v := ?_) rfl (by kernel_rfl) (by kernel_rfl) (by kernel_rfl) (fun _ _ _ h => h) (Or.inl ⟨by rfl, ?_⟩) ?_
      rotate_left 1
      · (intro w; go_simp; try with_reducible rfl)
      try simp only [Act.put, List.setIfInBounds_toArray, List.set_cons_zero, List.set_cons_succ, List.getElem_toArray, List.getElem_cons_zero, List.getElem_cons_succ]
      refine wpAny_done (by kernel_rfl) ?_ _
      rotate_left 1
      try simp only [List.setIfInBounds_toArray, List.set_cons_zero, List.set_cons_succ, List.getElem_toArray, List.getElem_cons_zero, List.getElem_cons_succ]
      go_simp
      try (refine hK _ _ ?_; clear hK K)
      refine wpAny_ready (rs := [2]) (by kernel_rfl) (by simp) ?_
      refine AllReady.cons rfl (fun K hK => ?_) (AllReady.nil)
      try simp only [List.setIfInBounds_toArray, List.set_cons_zero, List.set_cons_succ, List.getElem_toArray, List.getElem_cons_zero, List.getElem_cons_succ]
      (go_simp; first | (go_at_call 87; (first | (with_reducible refine (HC2.out wF bF).mono ?_) | (with_reducible refine (HC2.out w3.drew b3.out.drew).mono ?_) | (with_reducible refine (HC2.out w3 b3.out).mono ?_)); rintro e wT ⟨rfl, hbT⟩; have bT : Below w.heap.size w wT := (by first | exact bF.trans (hbT.mono bF.size) | exact b3.out.trans (hbT.mono b3.out.size) | exact b3.out.drew.trans (hbT.mono b3.out.size)); have xT : RX 45 wT w.heap.size (.slice A1 fr.length c1) (.slice A2 to.length c2) s := (by first | exact RX.next xF hbT | exact RX.next (w := w3.drew) x3.out hbT | exact RX.next x3.out hbT); obtain ⟨kt0, kt1, kt2⟩ := xT.cells) | (go_at_call 87; (first | (with_reducible refine (HC1.out wT bT).mono ?_) | (with_reducible refine (HC1.out w3.drew b3.out.drew).mono ?_) | (with_reducible refine (HC1.out w3 b3.out).mono ?_)); rintro e wF ⟨rfl, hbF⟩; have bF : Below w.heap.size w wF := (by first | exact bT.trans (hbF.mono bT.size) | exact b3.out.trans (hbF.mono b3.out.size) | exact b3.out.drew.trans (hbF.mono b3.out.size)); have xF : RX 45 wF w.heap.size (.slice A1 fr.length c1) (.slice A2 to.length c2) s := (by first | exact RX.next xT hbF | exact RX.next (w := w3.drew) x3.out hbF | exact RX.next x3.out hbF); obtain ⟨kf0, kf1, kf2⟩ := xF.cells))
      try go_simp
      try (refine hK _ _ ?_; clear hK K)
      refine wpAny_ready (rs := [5]) (by kernel_rfl) (by simp) ?_
      refine AllReady.cons rfl (fun K hK => ?_) (AllReady.nil)
      try simp only [List.setIfInBounds_toArray, List.set_cons_zero, List.set_cons_succ, List.getElem_toArray, List.getElem_cons_zero, List.getElem_cons_succ]
      (go_simp; first | (go_at_call 87; (first | (with_reducible refine (HC2.out wF bF).mono ?_) | (with_reducible refine (HC2.out w3.drew b3.out.drew).mono ?_) | (with_reducible refine (HC2.out w3 b3.out).mono ?_)); rintro e wT ⟨rfl, hbT⟩; have bT : Below w.heap.size w wT := (by first | exact bF.trans (hbT.mono bF.size) | exact b3.out.trans (hbT.mono b3.out.size) | exact b3.out.drew.trans (hbT.mono b3.out.size)); have xT : RX 45 wT w.heap.size (.slice A1 fr.length c1) (.slice A2 to.length c2) s := (by first | exact RX.next xF hbT | exact RX.next (w := w3.drew) x3.out hbT | exact RX.next x3.out hbT); obtain ⟨kt0, kt1, kt2⟩ := xT.cells) | (go_at_call 87; (first | (with_reducible refine (HC1.out wT bT).mono ?_) | (with_reducible refine (HC1.out w3.drew b3.out.drew).mono ?_) | (with_reducible refine (HC1.out w3 b3.out).mono ?_)); rintro e wF ⟨rfl, hbF⟩; have bF : Below w.heap.size w wF := (by first | exact bT.trans (hbF.mono bT.size) | exact b3.out.trans (hbF.mono b3.out.size) | exact b3.out.drew.trans (hbF.mono b3.out.size)); have xF : RX 45 wF w.heap.size (.slice A1 fr.length c1) (.slice A2 to.length c2) s := (by first | exact RX.next xT hbF | exact RX.next (w := w3.drew) x3.out hbF | exact RX.next x3.out hbF); obtain ⟨kf0, kf1, kf2⟩ := xF.cells))
      try go_simp
      try (refine hK _ _ ?_; clear hK K)
      refine wpAny_take (i := 6) (v := ?_) rfl (by kernel_rfl) (by kernel_rfl) (by kernel_rfl) (fun _ _ _ h => h) (Or.inl ⟨by rfl, ?_⟩) ?_
      rotate_left 1
      · (intro w; go_simp; try with_reducible rfl)
      try simp only [Act.put, List.setIfInBounds_toArray, List.set_cons_zero, List.set_cons_succ, List.getElem_toArray, List.getElem_cons_zero, List.getElem_cons_succ]
      refine wpAny_take (i := 7) (v := ?_) rfl (by kernel_rfl) (by kernel_rfl) (by kernel_rfl) (fun _ _ _ h => h) (Or.inl ⟨by rfl, ?_⟩) ?_
      rotate_left 1
      · (intro w; go_simp; try with_reducible rfl)
      try simp only [Act.put, List.setIfInBounds_toArray, List.set_cons_zero, List.set_cons_succ, List.getElem_toArray, List.getElem_cons_zero, List.getElem_cons_succ]
      refine wpAny_take (i := 8) (v := ?_) rfl (by kernel_rfl) (by kernel_rfl) (by kernel_rfl) (fun _ _ _ h => h) (Or.inl ⟨by rfl, ?_⟩) ?_
      rotate_left 1
      · (intro w; go_simp; try with_reducible rfl)
      try simp only [Act.put, List.setIfInBounds_toArray, List.set_cons_zero, List.set_cons_succ, List.getElem_toArray, List.getElem_cons_zero, List.getElem_cons_succ]
      refine wpAny_take (i := 9) (v := ?_) rfl (by kernel_rfl) (by kernel_rfl) (by kernel_rfl) (fun _ _ _ h => h) (Or.inl ⟨by rfl, ?_⟩) ?_
      rotate_left 1
      · (intro w; go_simp; try with_reducible rfl)
      try simp only [Act.put, List.setIfInBounds_toArray, List.set_cons_zero, List.set_cons_succ, List.getElem_toArray, List.getElem_cons_zero, List.getElem_cons_succ]
      refine wpAny_take (i := 10) (v := ?_) rfl (by kernel_rfl) (by kernel_rfl) (by kernel_rfl) (fun _ _ _ h => h) (Or.inl ⟨by rfl, ?_⟩) ?_
      rotate_left 1
      · (intro w; go_simp; try with_reducible rfl)
      try simp only [Act.put, List.setIfInBounds_toArray, List.set_cons_zero, List.set_cons_succ, List.getElem_toArray, List.getElem_cons_zero, List.getElem_cons_succ]
      refine wpAny_take (i := 11) (v := ?_) rfl (by kernel_rfl) (by kernel_rfl) (by kernel_rfl) (fun _ _ _ h => h) (Or.inl ⟨by rfl, ?_⟩) ?_
      rotate_left 1
      · (intro w; go_simp; try with_reducible rfl)
      try simp only [Act.put, List.setIfInBounds_toArray, List.set_cons_zero, List.set_cons_succ, List.getElem_toArray, List.getElem_cons_zero, List.getElem_cons_succ]
      refine wpAny_take (i := 12) (v := ?_) rfl (by kernel_rfl) (by kernel_rfl) (by kernel_rfl) (fun _ _ _ h => h) (Or.inl ⟨by rfl, ?_⟩) ?_
      rotate_left 1
      · (intro w; go_simp; try with_reducible rfl)
      try simp only [Act.put, List.setIfInBounds_toArray, List.set_cons_zero, List.set_cons_succ, List.getElem_toArray, List.getElem_cons_zero, List.getElem_cons_succ]
      refine wpAny_take (i := 13) (v := undef) rfl (by kernel_rfl) (by kernel_rfl) (by kernel_rfl) (fun _ _ _ h => h) (Or.inr ⟨by rfl, rfl⟩) ?_
      try simp only [Act.put, List.setIfInBounds_toArray, List.set_cons_zero, List.set_cons_succ, List.getElem_toArray, List.getElem_cons_zero, List.getElem_cons_succ]
      refine wpAny_take (i := 14) (v := undef) rfl (by kernel_rfl) (by kernel_rfl) (by kernel_rfl) (fun _ _ _ h => h) (Or.inr ⟨by rfl, rfl⟩) ?_
      try simp only [Act.put, List.setIfInBounds_toArray, List.set_cons_zero, List.set_cons_succ, List.getElem_toArray, List.getElem_cons_zero, List.getElem_cons_succ]
      refine wpAny_take (i := 15) (v := undef) rfl (by kernel_rfl) (by kernel_rfl) (by kernel_rfl) (fun _ _ _ h => h) (Or.inr ⟨by rfl, rfl⟩) ?_
      try simp only [Act.put, List.setIfInBounds_toArray, List.set_cons_zero, List.set_cons_succ, List.getElem_toArray, List.getElem_cons_zero, List.getElem_cons_succ]
      refine wpAny_take (i := 16) (v := ?_) rfl (by kernel_rfl) (by kernel_rfl) (by kernel_rfl) (fun _ _ _ h => h) (Or.inl ⟨by rfl, ?_⟩) ?_
      rotate_left 1
      · (intro w; go_simp; try with_reducible rfl)
      try simp only [Act.put, List.setIfInBounds_toArray, List.set_cons_zero, List.set_cons_succ, List.getElem_toArray, List.getElem_cons_zero, List.getElem_cons_succ]
      refine wpAny_take (i := 17) (v := ?_) rfl (by kernel_rfl) (by kernel_rfl) (by kernel_rfl) (fun _ _ _ h => h) (Or.inl ⟨by rfl, ?_⟩) ?_
      rotate_left 1
      · (intro w; go_simp; try with_reducible rfl)
      try simp only [Act.put, List.setIfInBounds_toArray, List.set_cons_zero, List.set_cons_succ, List.getElem_toArray, List.getElem_cons_zero, List.getElem_cons_succ]
      refine wpAny_done (by kernel_rfl) ?_ _
      rotate_left 1
      try simp only [List.setIfInBounds_toArray, List.set_cons_zero, List.set_cons_succ, List.getElem_toArray, List.getElem_cons_zero, List.getElem_cons_succ]
      go_simp
      try (refine hK _ _ ?_; clear hK K)
      refine wpAny_ready (rs := [1]) (by kernel_rfl) (by simp) ?_
      refine AllReady.cons rfl (fun K hK => ?_) (AllReady.nil)
      try simp only [List.setIfInBounds_toArray, List.set_cons_zero, List.set_cons_succ, List.getElem_toArray, List.getElem_cons_zero, List.getElem_cons_succ]
      go_simp
      try (refine hK _ _ ?_; clear hK K)
      refine wpAny_ready (rs := [2]) (by kernel_rfl) (by simp) ?_
      refine AllReady.cons rfl (fun K hK => ?_) (AllReady.nil)
      try simp only [List.setIfInBounds_toArray, List.set_cons_zero, List.set_cons_succ, List.getElem_toArray, List.getElem_cons_zero, List.getElem_cons_succ]
      (go_simp; first | (go_at_call 87; (first | (with_reducible refine (HC2.out wF bF).mono ?_) | (with_reducible refine (HC2.out w3.drew b3.out.drew).mono ?_) | (with_reducible refine (HC2.out w3 b3.out).mono ?_)); rintro e wT ⟨rfl, hbT⟩; have bT : Below w.heap.size w wT := (by first | exact bF.trans (hbT.mono bF.size) | exact b3.out.trans (hbT.mono b3.out.size) | exact b3.out.drew.trans (hbT.mono b3.out.size)); have xT : RX 45 wT w.heap.size (.slice A1 fr.length c1) (.slice A2 to.length c2) s := (by first | exact RX.next xF hbT | exact RX.next (w := w3.drew) x3.out hbT | exact RX.next x3.out hbT); obtain ⟨kt0, kt1, kt2⟩ := xT.cells) | (go_at_call 87; (first | (with_reducible refine (HC1.out wT bT).mono ?_) | (with_reducible refine (HC1.out w3.drew b3.out.drew).mono ?_) | (with_reducible refine (HC1.out w3 b3.out).mono ?_)); rintro e wF ⟨rfl, hbF⟩; have bF : Below w.heap.size w wF := (by first | exact bT.trans (hbF.mono bT.size) | exact b3.out.trans (hbF.mono b3.out.size) | exact b3.out.drew.trans (hbF.mono b3.out.size)); have xF : RX 45 wF w.heap.size (.slice A1 fr.length c1) (.slice A2 to.length c2) s := (by first | exact RX.next xT hbF | exact RX.next (w := w3.drew) x3.out hbF | exact RX.next x3.out hbF); obtain ⟨kf0, kf1, kf2⟩ := xF.cells))
      try go_simp
      try (refine hK _ _ ?_; clear hK K)
      refine wpAny_ready (rs := [5]) (by kernel_rfl) (by simp) ?_
      refine AllReady.cons rfl (fun K hK => ?_) (AllReady.nil)
      try simp only [List.setIfInBounds_toArray, List.set_cons_zero, List.set_cons_succ, List.getElem_toArray, List.getElem_cons_zero, List.getElem_cons_succ]
      (go_simp; first | (go_at_call 87; (first | (with_reducible refine (HC2.out wF bF).mono ?_) | (with_reducible refine (HC2.out w3.drew b3.out.drew).mono ?_) | (with_reducible refine (HC2.out w3 b3.out).mono ?_)); rintro e wT ⟨rfl, hbT⟩; have bT : Below w.heap.size w wT := (by first | exact bF.trans (hbT.mono bF.size) | exact b3.out.trans (hbT.mono b3.out.size) | exact b3.out.drew.trans (hbT.mono b3.out.size)); have xT : RX 45 wT w.heap.size (.slice A1 fr.length c1) (.slice A2 to.length c2) s := (by first | exact RX.next xF hbT | exact RX.next (w := w3.drew) x3.out hbT | exact RX.next x3.out hbT); obtain ⟨kt0, kt1, kt2⟩ := xT.cells) | (go_at_call 87; (first | (with_reducible refine (HC1.out wT bT).mono ?_) | (with_reducible refine (HC1.out w3.drew b3.out.drew).mono ?_) | (with_reducible refine (HC1.out w3 b3.out).mono ?_)); rintro e wF ⟨rfl, hbF⟩; have bF : Below w.heap.size w wF := (by first | exact bT.trans (hbF.mono bT.size) | exact b3.out.trans (hbF.mono b3.out.size) | exact b3.out.drew.trans (hbF.mono b3.out.size)); have xF : RX 45 wF w.heap.size (.slice A1 fr.length c1) (.slice A2 to.length c2) s := (by first | exact RX.next xT hbF | exact RX.next (w := w3.drew) x3.out hbF | exact RX.next x3.out hbF); obtain ⟨kf0, kf1, kf2⟩ := xF.cells))
      try go_simp
      try (refine hK _ _ ?_; clear hK K)
      refine wpAny_take (i := 6) (v := ?_) rfl (by kernel_rfl) (by kernel_rfl) (by kernel_rfl) (fun _ _ _ h => h) (Or.inl ⟨by rfl, ?_⟩) ?_
      rotate_left 1
      · (intro w; go_simp; try with_reducible rfl)
      try simp only [Act.put, List.setIfInBounds_toArray, List.set_cons_zero, List.set_cons_succ, List.getElem_toArray, List.getElem_cons_zero, List.getElem_cons_succ]
      refine wpAny_take (i := 7) (v := ?_) rfl (by kernel_rfl) (by kernel_rfl) (by kernel_rfl) (fun _ _ _ h => h) (Or.inl ⟨by rfl, ?_⟩) ?_
      rotate_left 1
      · (intro w; go_simp; try with_reducible rfl)
      try simp only [Act.put, List.setIfInBounds_toArray, List.set_cons_zero, List.set_cons_succ, List.getElem_toArray, List.getElem_cons_zero, List.getElem_cons_succ]
      refine wpAny_take (i := 8) (v := ?_) rfl (by kernel_rfl) (by kernel_rfl) (by kernel_rfl) (fun _ _ _ h => h) (Or.inl ⟨by rfl, ?_⟩) ?_
      rotate_left 1
      · (intro w; go_simp; try with_reducible rfl)
      try simp only [Act.put, List.setIfInBounds_toArray, List.set_cons_zero, List.set_cons_succ, List.getElem_toArray, List.getElem_cons_zero, List.getElem_cons_succ]
      refine wpAny_take (i := 9) (v := ?_) rfl (by kernel_rfl) (by kernel_rfl) (by kernel_rfl) (fun _ _ _ h => h) (Or.inl ⟨by rfl, ?_⟩) ?_
      rotate_left 1
      · (intro w; go_simp; try with_reducible rfl)
      try simp only [Act.put, List.setIfInBounds_toArray, List.set_cons_zero, List.set_cons_succ, List.getElem_toArray, List.getElem_cons_zero, List.getElem_cons_succ]
      refine wpAny_take (i := 10) (v := ?_) rfl (by kernel_rfl) (by kernel_rfl) (by kernel_rfl) (fun _ _ _ h => h) (Or.inl ⟨by rfl, ?_⟩) ?_
      rotate_left 1
      · (intro w; go_simp; try with_reducible rfl)
      try simp only [Act.put, List.setIfInBounds_toArray, List.set_cons_zero, List.set_cons_succ, List.getElem_toArray, List.getElem_cons_zero, List.getElem_cons_succ]
      refine wpAny_take (i := 11) (v := ?_) rfl (by kernel_rfl) (by kernel_rfl) (by kernel_rfl) (fun _ _ _ h => h) (Or.inl ⟨by rfl, ?_⟩) ?_
      rotate_left 1
      · (intro w; go_simp; try with_reducible rfl)
      try simp only [Act.put, List.setIfInBounds_toArray, List.set_cons_zero, List.set_cons_succ, List.getElem_toArray, List.getElem_cons_zero, List.getElem_cons_succ]
      refine wpAny_take (i := 12) (v := ?_) rfl (by kernel_rfl) (by kernel_rfl) (by kernel_rfl) (fun _ _ _ h => h) (Or.inl ⟨by rfl, ?_⟩) ?_
      rotate_left 1
      · (intro w; go_simp; try with_reducible rfl)
      try simp only [Act.put, List.setIfInBounds_toArray, List.set_cons_zero, List.set_cons_succ, List.getElem_toArray, List.getElem_cons_zero, List.getElem_cons_succ]
      refine wpAny_take (i := 13) (v := undef) rfl (by kernel_rfl) (by kernel_rfl) (by kernel_rfl) (fun _ _ _ h => h) (Or.inr ⟨by rfl, rfl⟩) ?_
      try simp only [Act.put, List.setIfInBounds_toArray, List.set_cons_zero, List.set_cons_succ, List.getElem_toArray, List.getElem_cons_zero, List.getElem_cons_succ]
      refine wpAny_take (i := 14) (v := undef) rfl (by kernel_rfl) (by kernel_rfl) (by kernel_rfl) (fun _ _ _ h => h) (Or.inr ⟨by rfl, rfl⟩) ?_
      try simp only [Act.put, List.setIfInBounds_toArray, List.set_cons_zero, List.set_cons_succ, List.getElem_toArray, List.getElem_cons_zero, List.getElem_cons_succ]
      refine wpAny_take (i := 15) (v := undef) rfl (by kernel_rfl) (by kernel_rfl) (by kernel_rfl) (fun _ _ _ h => h) (Or.inr ⟨by rfl, rfl⟩) ?_
      try simp only [Act.put, List.setIfInBounds_toArray, List.set_cons_zero, List.set_cons_succ, List.getElem_toArray, List.getElem_cons_zero, List.getElem_cons_succ]
      refine wpAny_take (i := 16) (v := ?_) rfl (by kernel_rfl) (by kernel_rfl) (by kernel_rfl) (fun _ _ _ h => h) (Or.inl ⟨by rfl, ?_⟩) ?_
      rotate_left 1
      · (intro w; go_simp; try with_reducible rfl)
      try simp only [Act.put, List.setIfInBounds_toArray, List.set_cons_zero, List.set_cons_succ, List.getElem_toArray, List.getElem_cons_zero, List.getElem_cons_succ]
      refine wpAny_take (i := 17) (v := ?_) rfl (by kernel_rfl) (by kernel_rfl) (by kernel_rfl) (fun _ _ _ h => h) (Or.inl ⟨by rfl, ?_⟩) ?_
      rotate_left 1
      · (intro w; go_simp; try with_reducible rfl)
      try simp only [Act.put, List.setIfInBounds_toArray, List.set_cons_zero, List.set_cons_succ, List.getElem_toArray, List.getElem_cons_zero, List.getElem_cons_succ]
      refine wpAny_done (by kernel_rfl) ?_ _
      rotate_left 1
      all_goals
        have BT := Lib.hid bT
        have BF := Lib.hid bF
        clear bT bF hbT hbF xT xF
        go_wp2
        go_ret
        exact ⟨ret_bool (by first | (rw [hr.out]; done) | (rw [hr.out]; exact decide_eq_false (by omega)) | (rw [hr.out]; simp; done) | (rw [hr.out]; simp; omega)), by first | exact BT.out | exact BF.out⟩
  · have hr : Hid (fallB fr to = false) := by rw [Hid, hFB.out, decide_eq_false hpq]; simp
    have g2 : decide (q < p) = false := decide_eq_false hpq
    go_wp2_with (fail)
    refine wp_region_any (by kernel_rfl) ?_
    try (change wpAny _ _ _ _ _ _ _ (World.drew _))
    refine wpAny_take (i := 0) (v := ?_) rfl (by kernel_rfl) (by kernel_rfl) (by kernel_rfl) (fun _ _ _ h => h) (Or.inl ⟨by rfl, ?_⟩) ?_
    rotate_left 1
    · (intro w; go_simp; try with_reducible rfl)
    try simp only [Act.put, List.setIfInBounds_toArray, List.set_cons_zero, List.set_cons_succ, List.getElem_toArray, List.getElem_cons_zero, List.getElem_cons_succ]
    refine wpAny_take (i := 3) (v := ?_) rfl (by kernel_rfl) (by kernel_rfl) (by kernel_rfl) (fun _ _ _ h => h) (Or.inl ⟨by rfl, ?_⟩) ?_
    rotate_left 1
    · (intro w; go_simp; try with_reducible rfl)
    try simp only [Act.put, List.setIfInBounds_toArray, List.set_cons_zero, List.set_cons_succ, List.getElem_toArray, List.getElem_cons_zero, List.getElem_cons_succ]
    refine wpAny_ready (rs := [1, 4]) (by kernel_rfl) (by simp) ?_
    refine AllReady.cons rfl (fun K hK => ?_) (AllReady.cons rfl (fun K hK => ?_) (AllReady.nil))
    try simp only [List.setIfInBounds_toArray, List.set_cons_zero, List.set_cons_succ, List.getElem_toArray, List.getElem_cons_zero, List.getElem_cons_succ]
    go_simp
    try (refine hK _ _ ?_; clear hK K)
    refine wpAny_ready (rs := [2, 4]) (by kernel_rfl) (by simp) ?_
    refine AllReady.cons rfl (fun K hK => ?_) (AllReady.cons rfl (fun K hK => ?_) (AllReady.nil))
    try simp only [List.setIfInBounds_toArray, List.set_cons_zero, List.set_cons_succ, List.getElem_toArray, List.getElem_cons_zero, List.getElem_cons_succ]
    (go_simp; first | (go_at_call 87; (first | (with_reducible refine (HC2.out wF bF).mono ?_) | (with_reducible refine (HC2.out w3.drew b3.out.drew).mono ?_) | (with_reducible refine (HC2.out w3 b3.out).mono ?_)); rintro e wT ⟨rfl, hbT⟩; have bT : Below w.heap.size w wT := (by first | exact bF.trans (hbT.mono bF.size) | exact b3.out.trans (hbT.mono b3.out.size) | exact b3.out.drew.trans (hbT.mono b3.out.size)); have xT : RX 45 wT w.heap.size (.slice A1 fr.length c1) (.slice A2 to.length c2) s := (by first | exact RX.next xF hbT | exact RX.next (w := w3.drew) x3.out hbT | exact RX.next x3.out hbT); obtain ⟨kt0, kt1, kt2⟩ := xT.cells) | (go_at_call 87; (first | (with_reducible refine (HC1.out wT bT).mono ?_) | (with_reducible refine (HC1.out w3.drew b3.out.drew).mono ?_) | (with_reducible refine (HC1.out w3 b3.out).mono ?_)); rintro e wF ⟨rfl, hbF⟩; have bF : Below w.heap.size w wF := (by first | exact bT.trans (hbF.mono bT.size) | exact b3.out.trans (hbF.mono b3.out.size) | exact b3.out.drew.trans (hbF.mono b3.out.size)); have xF : RX 45 wF w.heap.size (.slice A1 fr.length c1) (.slice A2 to.length c2) s := (by first | exact RX.next xT hbF | exact RX.next (w := w3.drew) x3.out hbF | exact RX.next x3.out hbF); obtain ⟨kf0, kf1, kf2⟩ := xF.cells))
    try go_simp
    try (refine hK _ _ ?_; clear hK K)
    refine wpAny_ready (rs := [4]) (by kernel_rfl) (by simp) ?_
    refine AllReady.cons rfl (fun K hK => ?_) (AllReady.nil)
    try simp only [List.setIfInBounds_toArray, List.set_cons_zero, List.set_cons_succ, List.getElem_toArray, List.getElem_cons_zero, List.getElem_cons_succ]
    go_simp
    try (refine hK _ _ ?_; clear hK K)
    refine wpAny_ready (rs := [5]) (by kernel_rfl) (by simp) ?_
    refine AllReady.cons rfl (fun K hK => ?_) (AllReady.nil)
    try simp only [List.setIfInBounds_toArray, List.set_cons_zero, List.set_cons_succ, List.getElem_toArray, List.getElem_cons_zero, List.getElem_cons_succ]
    (go_simp; first | (go_at_call 87; (first | (with_reducible refine (HC2.out wF bF).mono ?_) | (with_reducible refine (HC2.out w3.drew b3.out.drew).mono ?_) | (with_reducible refine (HC2.out w3 b3.out).mono ?_)); rintro e wT ⟨rfl, hbT⟩; have bT : Below w.heap.size w wT := (by first | exact bF.trans (hbT.mono bF.size) | exact b3.out.trans (hbT.mono b3.out.size) | exact b3.out.drew.trans (hbT.mono b3.out.size)); have xT : RX 45 wT w.heap.size (.slice A1 fr.length c1) (.slice A2 to.length c2) s := (by first | exact RX.next xF hbT | exact RX.next (w := w3.drew) x3.out hbT | exact RX.next x3.out hbT); obtain ⟨kt0, kt1, kt2⟩ := xT.cells) | (go_at_call 87; (first | (with_reducible refine (HC1.out wT bT).mono ?_) | (with_reducible refine (HC1.out w3.drew b3.out.drew).mono ?_) | (with_reducible refine (HC1.out w3 b3.out).mono ?_)); rintro e wF ⟨rfl, hbF⟩; have bF : Below w.heap.size w wF := (by first | exact bT.trans (hbF.mono bT.size) | exact b3.out.trans (hbF.mono b3.out.size) | exact b3.out.drew.trans (hbF.mono b3.out.size)); have xF : RX 45 wF w.heap.size (.slice A1 fr.length c1) (.slice A2 to.length c2) s := (by first | exact RX.next xT hbF | exact RX.next (w := w3.drew) x3.out hbF | exact RX.next x3.out hbF); obtain ⟨kf0, kf1, kf2⟩ := xF.cells))
    try go_simp
    try (refine hK _ _ ?_; clear hK K)
    refine wpAny_take (i := 6) (v := ?_) rfl (by kernel_rfl) (by kernel_rfl) (by kernel_rfl) (fun _ _ _ h => h) (Or.inl ⟨by rfl, ?_⟩) ?_
    rotate_left 1
    · (intro w; go_simp; try with_reducible rfl)
    try simp only [Act.put, List.setIfInBounds_toArray, List.set_cons_zero, List.set_cons_succ, List.getElem_toArray, List.getElem_cons_zero, List.getElem_cons_succ]
    refine wpAny_take (i := 7) (v := ?_) rfl (by kernel_rfl) (by kernel_rfl) (by kernel_rfl) (fun _ _ _ h => h) (Or.inl ⟨by rfl, ?_⟩) ?_
    rotate_left 1
    · (intro w; go_simp; try with_reducible rfl)
    try simp only [Act.put, List.setIfInBounds_toArray, List.set_cons_zero, List.set_cons_succ, List.getElem_toArray, List.getElem_cons_zero, List.getElem_cons_succ]
    refine wpAny_take (i := 8) (v := undef) rfl (by kernel_rfl) (by kernel_rfl) (by kernel_rfl) (fun _ _ _ h => h) (Or.inr ⟨by rfl, rfl⟩) ?_
    try simp only [Act.put, List.setIfInBounds_toArray, List.set_cons_zero, List.set_cons_succ, List.getElem_toArray, List.getElem_cons_zero, List.getElem_cons_succ]
    refine wpAny_take (i := 9) (v := undef) rfl (by kernel_rfl) (by kernel_rfl) (by kernel_rfl) (fun _ _ _ h => h) (Or.inr ⟨by rfl, rfl⟩) ?_
    try simp only [Act.put, List.setIfInBounds_toArray, List.set_cons_zero, List.set_cons_succ, List.getElem_toArray, List.getElem_cons_zero, List.getElem_cons_succ]
    refine wpAny_take (i := 10) (v := undef) rfl (by kernel_rfl) (by kernel_rfl) (by kernel_rfl) (fun _ _ _ h => h) (Or.inr ⟨by rfl, rfl⟩) ?_
    try simp only [Act.put, List.setIfInBounds_toArray, List.set_cons_zero, List.set_cons_succ, List.getElem_toArray, List.getElem_cons_zero, List.getElem_cons_succ]
    refine wpAny_take (i := 11) (v := ?_) rfl (by kernel_rfl) (by kernel_rfl) (by kernel_rfl) (fun _ _ _ h => h) (Or.inl ⟨by rfl, ?_⟩) ?_
    rotate_left 1
    · (intro w; go_simp; try with_reducible rfl)
    try simp only [Act.put, List.setIfInBounds_toArray, List.set_cons_zero, List.set_cons_succ, List.getElem_toArray, List.getElem_cons_zero, List.getElem_cons_succ]
    refine wpAny_take (i := 12) (v := ?_) rfl (by kernel_rfl) (by kernel_rfl) (by kernel_rfl) (fun _ _ _ h => h) (Or.inl ⟨by rfl, ?_⟩) ?_
    rotate_left 1
    · (intro w; go_simp; try with_reducible rfl)
    try simp only [Act.put, List.setIfInBounds_toArray, List.set_cons_zero, List.set_cons_succ, List.getElem_toArray, List.getElem_cons_zero, List.getElem_cons_succ]
    refine wpAny_take (i := 13) (v := undef) rfl (by kernel_rfl) (by kernel_rfl) (by kernel_rfl) (fun _ _ _ h => h) (Or.inr ⟨by rfl, rfl⟩) ?_
    try simp only [Act.put, List.setIfInBounds_toArray, List.set_cons_zero, List.set_cons_succ, List.getElem_toArray, List.getElem_cons_zero, List.getElem_cons_succ]
    refine wpAny_take (i := 14) (v := undef) rfl (by kernel_rfl) (by kernel_rfl) (by kernel_rfl) (fun _ _ _ h => h) (Or.inr ⟨by rfl, rfl⟩) ?_
    try simp only [Act.put, List.setIfInBounds_toArray, List.set_cons_zero, List.set_cons_succ, List.getElem_toArray, List.getElem_cons_zero, List.getElem_cons_succ]
    refine wpAny_take (i := 15) (v := undef) rfl (by kernel_rfl) (by kernel_rfl) (by kernel_rfl) (fun _ _ _ h => h) (Or.inr ⟨by rfl, rfl⟩) ?_
    try simp only [Act.put, List.setIfInBounds_toArray, List.set_cons_zero, List.set_cons_succ, List.getElem_toArray, List.getElem_cons_zero, List.getElem_cons_succ]
    refine wpAny_take (i := 16) (v := ?_) rfl (by kernel_rfl) (by kernel_rfl) (by kernel_rfl) (fun _ _ _ h => h) (Or.inl ⟨by rfl, ?_⟩) ?_
    rotate_left 1
    · (intro w; go_simp; try with_reducible rfl)
    try simp only [Act.put, List.setIfInBounds_toArray, List.set_cons_zero, List.set_cons_succ, List.getElem_toArray, List.getElem_cons_zero, List.getElem_cons_succ]
    refine wpAny_take (i := 17) (v := ?_) rfl (by kernel_rfl) (by kernel_rfl) (by kernel_rfl) (fun _ _ _ h => h) (Or.inl ⟨by rfl, ?_⟩) ?_
    rotate_left 1
    · (intro w; go_simp; try with_reducible rfl)
    try simp only [Act.put, List.setIfInBounds_toArray, List.set_cons_zero, List.set_cons_succ, List.getElem_toArray, List.getElem_cons_zero, List.getElem_cons_succ]
    refine wpAny_done (by kernel_rfl) ?_ _
    rotate_left 1
    try simp only [List.setIfInBounds_toArray, List.set_cons_zero, List.set_cons_succ, List.getElem_toArray, List.getElem_cons_zero, List.getElem_cons_succ]
    go_simp
    try (refine hK _ _ ?_; clear hK K)
    refine wpAny_ready (rs := [2]) (by kernel_rfl) (by simp) ?_
    refine AllReady.cons rfl (fun K hK => ?_) (AllReady.nil)
    try simp only [List.setIfInBounds_toArray, List.set_cons_zero, List.set_cons_succ, List.getElem_toArray, List.getElem_cons_zero, List.getElem_cons_succ]
    (go_simp; first | (go_at_call 87; (first | (with_reducible refine (HC2.out wF bF).mono ?_) | (with_reducible refine (HC2.out w3.drew b3.out.drew).mono ?_) | (with_reducible refine (HC2.out w3 b3.out).mono ?_)); rintro e wT ⟨rfl, hbT⟩; have bT : Below w.heap.size w wT := (by first | exact bF.trans (hbT.mono bF.size) | exact b3.out.trans (hbT.mono b3.out.size) | exact b3.out.drew.trans (hbT.mono b3.out.size)); have xT : RX 45 wT w.heap.size (.slice A1 fr.length c1) (.slice A2 to.length c2) s := (by first | exact RX.next xF hbT | exact RX.next (w := w3.drew) x3.out hbT | exact RX.next x3.out hbT); obtain ⟨kt0, kt1, kt2⟩ := xT.cells) | (go_at_call 87; (first | (with_reducible refine (HC1.out wT bT).mono ?_) | (with_reducible refine (HC1.out w3.drew b3.out.drew).mono ?_) | (with_reducible refine (HC1.out w3 b3.out).mono ?_)); rintro e wF ⟨rfl, hbF⟩; have bF : Below w.heap.size w wF := (by first | exact bT.trans (hbF.mono bT.size) | exact b3.out.trans (hbF.mono b3.out.size) | exact b3.out.drew.trans (hbF.mono b3.out.size)); have xF : RX 45 wF w.heap.size (.slice A1 fr.length c1) (.slice A2 to.length c2) s := (by first | exact RX.next xT hbF | exact RX.next (w := w3.drew) x3.out hbF | exact RX.next x3.out hbF); obtain ⟨kf0, kf1, kf2⟩ := xF.cells))
    try go_simp
    try (refine hK _ _ ?_; clear hK K)
    refine wpAny_ready (rs := [5]) (by kernel_rfl) (by simp) ?_
    refine AllReady.cons rfl (fun K hK => ?_) (AllReady.nil)
    try simp only [List.setIfInBounds_toArray, List.set_cons_zero, List.set_cons_succ, List.getElem_toArray, List.getElem_cons_zero, List.getElem_cons_succ]
    (go_simp; first | (go_at_call 87; (first | (with_reducible refine (HC2.out wF bF).mono ?_) | (with_reducible refine (HC2.out w3.drew b3.out.drew).mono ?_) | (with_reducible refine (HC2.out w3 b3.out).mono ?_)); rintro e wT ⟨rfl, hbT⟩; have bT : Below w.heap.size w wT := (by first | exact bF.trans (hbT.mono bF.size) | exact b3.out.trans (hbT.mono b3.out.size) | exact b3.out.drew.trans (hbT.mono b3.out.size)); have xT : RX 45 wT w.heap.size (.slice A1 fr.length c1) (.slice A2 to.length c2) s := (by first | exact RX.next xF hbT | exact RX.next (w := w3.drew) x3.out hbT | exact RX.next x3.out hbT); obtain ⟨kt0, kt1, kt2⟩ := xT.cells) | (go_at_call 87; (first | (with_reducible refine (HC1.out wT bT).mono ?_) | (with_reducible refine (HC1.out w3.drew b3.out.drew).mono ?_) | (with_reducible refine (HC1.out w3 b3.out).mono ?_)); rintro e wF ⟨rfl, hbF⟩; have bF : Below w.heap.size w wF := (by first | exact bT.trans (hbF.mono bT.size) | exact b3.out.trans (hbF.mono b3.out.size) | exact b3.out.drew.trans (hbF.mono b3.out.size)); have xF : RX 45 wF w.heap.size (.slice A1 fr.length c1) (.slice A2 to.length c2) s := (by first | exact RX.next xT hbF | exact RX.next (w := w3.drew) x3.out hbF | exact RX.next x3.out hbF); obtain ⟨kf0, kf1, kf2⟩ := xF.cells))
    try go_simp
    try (refine hK _ _ ?_; clear hK K)
    refine wpAny_take (i := 6) (v := ?_) rfl (by kernel_rfl) (by kernel_rfl) (by kernel_rfl) (fun _ _ _ h => h) (Or.inl ⟨by rfl, ?_⟩) ?_
    rotate_left 1
    · (intro w; go_simp; try with_reducible rfl)
    try simp only [Act.put, List.setIfInBounds_toArray, List.set_cons_zero, List.set_cons_succ, List.getElem_toArray, List.getElem_cons_zero, List.getElem_cons_succ]
    refine wpAny_take (i := 7) (v := ?_) rfl (by kernel_rfl) (by kernel_rfl) (by kernel_rfl) (fun _ _ _ h => h) (Or.inl ⟨by rfl, ?_⟩) ?_
    rotate_left 1
    · (intro w; go_simp; try with_reducible rfl)
    try simp only [Act.put, List.setIfInBounds_toArray, List.set_cons_zero, List.set_cons_succ, List.getElem_toArray, List.getElem_cons_zero, List.getElem_cons_succ]
    refine wpAny_take (i := 8) (v := undef) rfl (by kernel_rfl) (by kernel_rfl) (by kernel_rfl) (fun _ _ _ h => h) (Or.inr ⟨by rfl, rfl⟩) ?_
    try simp only [Act.put, List.setIfInBounds_toArray, List.set_cons_zero, List.set_cons_succ, List.getElem_toArray, List.getElem_cons_zero, List.getElem_cons_succ]
    refine wpAny_take (i := 9) (v := undef) rfl (by kernel_rfl) (by kernel_rfl) (by kernel_rfl) (fun _ _ _ h => h) (Or.inr ⟨by rfl, rfl⟩) ?_
    try simp only [Act.put, List.setIfInBounds_toArray, List.set_cons_zero, List.set_cons_succ, List.getElem_toArray, List.getElem_cons_zero, List.getElem_cons_succ]
    refine wpAny_take (i := 10) (v := undef) rfl (by kernel_rfl) (by kernel_rfl) (by kernel_rfl) (fun _ _ _ h => h) (Or.inr ⟨by rfl, rfl⟩) ?_
    try simp only [Act.put, List.setIfInBounds_toArray, List.set_cons_zero, List.set_cons_succ, List.getElem_toArray, List.getElem_cons_zero, List.getElem_cons_succ]
    refine wpAny_take (i := 11) (v := ?_) rfl (by kernel_rfl) (by kernel_rfl) (by kernel_rfl) (fun _ _ _ h => h) (Or.inl ⟨by rfl, ?_⟩) ?_
    rotate_left 1
    · (intro w; go_simp; try with_reducible rfl)
    try simp only [Act.put, List.setIfInBounds_toArray, List.set_cons_zero, List.set_cons_succ, List.getElem_toArray, List.getElem_cons_zero, List.getElem_cons_succ]
    refine wpAny_take (i := 12) (v := ?_) rfl (by kernel_rfl) (by kernel_rfl) (by kernel_rfl) (fun _ _ _ h => h) (Or.inl ⟨by rfl, ?_⟩) ?_
    rotate_left 1
    · (intro w; go_simp; try with_reducible rfl)
    try simp only [Act.put, List.setIfInBounds_toArray, List.set_cons_zero, List.set_cons_succ, List.getElem_toArray, List.getElem_cons_zero, List.getElem_cons_succ]
    refine wpAny_take (i := 13) (v := undef) rfl (by kernel_rfl) (by kernel_rfl) (by kernel_rfl) (fun _ _ _ h => h) (Or.inr ⟨by rfl, rfl⟩) ?_
    try simp only [Act.put, List.setIfInBounds_toArray, List.set_cons_zero, List.set_cons_succ, List.getElem_toArray, List.getElem_cons_zero, List.getElem_cons_succ]
    refine wpAny_take (i := 14) (v := undef) rfl (by kernel_rfl) (by kernel_rfl) (by kernel_rfl) (fun _ _ _ h => h) (Or.inr ⟨by rfl, rfl⟩) ?_
    try simp only [Act.put, List.setIfInBounds_toArray, List.set_cons_zero, List.set_cons_succ, List.getElem_toArray, List.getElem_cons_zero, List.getElem_cons_succ]
    refine wpAny_take (i := 15) (v := undef) rfl (by kernel_rfl) (by kernel_rfl) (by kernel_rfl) (fun _ _ _ h => h) (Or.inr ⟨by rfl, rfl⟩) ?_
    try simp only [Act.put, List.setIfInBounds_toArray, List.set_cons_zero, List.set_cons_succ, List.getElem_toArray, List.getElem_cons_zero, List.getElem_cons_succ]
    refine wpAny_take (i := 16) (v := ?_) rfl (by kernel_rfl) (by kernel_rfl) (by kernel_rfl) (fun _ _ _ h => h) (Or.inl ⟨by rfl, ?_⟩) ?_
    rotate_left 1
    · (intro w; go_simp; try with_reducible rfl)
    try simp only [Act.put, List.setIfInBounds_toArray, List.set_cons_zero, List.set_cons_succ, List.getElem_toArray, List.getElem_cons_zero, List.getElem_cons_succ]
    refine wpAny_take (i := 17) (v := ?_) rfl (by kernel_rfl) (by kernel_rfl) (by kernel_rfl) (fun _ _ _ h => h) (Or.inl ⟨by rfl, ?_⟩) ?_
    rotate_left 1
    · (intro w; go_simp; try with_reducible rfl)
    try simp only [Act.put, List.setIfInBounds_toArray, List.set_cons_zero, List.set_cons_succ, List.getElem_toArray, List.getElem_cons_zero, List.getElem_cons_succ]
    refine wpAny_done (by kernel_rfl) ?_ _
    rotate_left 1
    try simp only [List.setIfInBounds_toArray, List.set_cons_zero, List.set_cons_succ, List.getElem_toArray, List.getElem_cons_zero, List.getElem_cons_succ]
    go_simp
    try (refine hK _ _ ?_; clear hK K)
    refine wpAny_ready (rs := [1]) (by kernel_rfl) (by simp) ?_
    refine AllReady.cons rfl (fun K hK => ?_) (AllReady.nil)
    try simp only [List.setIfInBounds_toArray, List.set_cons_zero, List.set_cons_succ, List.getElem_toArray, List.getElem_cons_zero, List.getElem_cons_succ]
    go_simp
    try (refine hK _ _ ?_; clear hK K)
    refine wpAny_ready (rs := [2]) (by kernel_rfl) (by simp) ?_
    refine AllReady.cons rfl (fun K hK => ?_) (AllReady.nil)
    try simp only [List.setIfInBounds_toArray, List.set_cons_zero, List.set_cons_succ, List.getElem_toArray, List.getElem_cons_zero, List.getElem_cons_succ]
    (go_simp; first | (go_at_call 87; (first | (with_reducible refine (HC2.out wF bF).mono ?_) | (with_reducible refine (HC2.out w3.drew b3.out.drew).mono ?_) | (with_reducible refine (HC2.out w3 b3.out).mono ?_)); rintro e wT ⟨rfl, hbT⟩; have bT : Below w.heap.size w wT := (by first | exact bF.trans (hbT.mono bF.size) | exact b3.out.trans (hbT.mono b3.out.size) | exact b3.out.drew.trans (hbT.mono b3.out.size)); have xT : RX 45 wT w.heap.size (.slice A1 fr.length c1) (.slice A2 to.length c2) s := (by first | exact RX.next xF hbT | exact RX.next (w := w3.drew) x3.out hbT | exact RX.next x3.out hbT); obtain ⟨kt0, kt1, kt2⟩ := xT.cells) | (go_at_call 87; (first | (with_reducible refine (HC1.out wT bT).mono ?_) | (with_reducible refine (HC1.out w3.drew b3.out.drew).mono ?_) | (with_reducible refine (HC1.out w3 b3.out).mono ?_)); rintro e wF ⟨rfl, hbF⟩; have bF : Below w.heap.size w wF := (by first | exact bT.trans (hbF.mono bT.size) | exact b3.out.trans (hbF.mono b3.out.size) | exact b3.out.drew.trans (hbF.mono b3.out.size)); have xF : RX 45 wF w.heap.size (.slice A1 fr.length c1) (.slice A2 to.length c2) s := (by first | exact RX.next xT hbF | exact RX.next (w := w3.drew) x3.out hbF | exact RX.next x3.out hbF); obtain ⟨kf0, kf1, kf2⟩ := xF.cells))
    try go_simp
    try (refine hK _ _ ?_; clear hK K)
    refine wpAny_ready (rs := [5]) (by kernel_rfl) (by simp) ?_
    refine AllReady.cons rfl (fun K hK => ?_) (AllReady.nil)
    try simp only [List.setIfInBounds_toArray, List.set_cons_zero, List.set_cons_succ, List.getElem_toArray, List.getElem_cons_zero, List.getElem_cons_succ]
    (go_simp; first | (go_at_call 87; (first | (with_reducible refine (HC2.out wF bF).mono ?_) | (with_reducible refine (HC2.out w3.drew b3.out.drew).mono ?_) | (with_reducible refine (HC2.out w3 b3.out).mono ?_)); rintro e wT ⟨rfl, hbT⟩; have bT : Below w.heap.size w wT := (by first | exact bF.trans (hbT.mono bF.size) | exact b3.out.trans (hbT.mono b3.out.size) | exact b3.out.drew.trans (hbT.mono b3.out.size)); have xT : RX 45 wT w.heap.size (.slice A1 fr.length c1) (.slice A2 to.length c2) s := (by first | exact RX.next xF hbT | exact RX.next (w := w3.drew) x3.out hbT | exact RX.next x3.out hbT); obtain ⟨kt0, kt1, kt2⟩ := xT.cells) | (go_at_call 87; (first | (with_reducible refine (HC1.out wT bT).mono ?_) | (with_reducible refine (HC1.out w3.drew b3.out.drew).mono ?_) | (with_reducible refine (HC1.out w3 b3.out).mono ?_)); rintro e wF ⟨rfl, hbF⟩; have bF : Below w.heap.size w wF := (by first | exact bT.trans (hbF.mono bT.size) | exact b3.out.trans (hbF.mono b3.out.size) | exact b3.out.drew.trans (hbF.mono b3.out.size)); have xF : RX 45 wF w.heap.size (.slice A1 fr.length c1) (.slice A2 to.length c2) s := (by first | exact RX.next xT hbF | exact RX.next (w := w3.drew) x3.out hbF | exact RX.next x3.out hbF); obtain ⟨kf0, kf1, kf2⟩ := xF.cells))
    try go_simp
    try (refine hK _ _ ?_; clear hK K)
    refine wpAny_take (i := 6) (v := ?_) rfl (by kernel_rfl) (by kernel_rfl) (by kernel_rfl) (fun _ _ _ h => h) (Or.inl ⟨by rfl, ?_⟩) ?_
    rotate_left 1
    · (intro w; go_simp; try with_reducible rfl)
    try simp only [Act.put, List.setIfInBounds_toArray, List.set_cons_zero, List.set_cons_succ, List.getElem_toArray, List.getElem_cons_zero, List.getElem_cons_succ]
    refine wpAny_take (i := 7) (v := ?_) rfl (by kernel_rfl) (by kernel_rfl) (by kernel_rfl) (fun _ _ _ h => h) (Or.inl ⟨by rfl, ?_⟩) ?_
    rotate_left 1
    · (intro w; go_simp; try with_reducible rfl)
    try simp only [Act.put, List.setIfInBounds_toArray, List.set_cons_zero, List.set_cons_succ, List.getElem_toArray, List.getElem_cons_zero, List.getElem_cons_succ]
    refine wpAny_take (i := 8) (v := undef) rfl (by kernel_rfl) (by kernel_rfl) (by kernel_rfl) (fun _ _ _ h => h) (Or.inr ⟨by rfl, rfl⟩) ?_
    try simp only [Act.put, List.setIfInBounds_toArray, List.set_cons_zero, List.set_cons_succ, List.getElem_toArray, List.getElem_cons_zero, List.getElem_cons_succ]
    refine wpAny_take (i := 9) (v := undef) rfl (by kernel_rfl) (by kernel_rfl) (by kernel_rfl) (fun _ _ _ h => h) (Or.inr ⟨by rfl, rfl⟩) ?_
    try simp only [Act.put, List.setIfInBounds_toArray, List.set_cons_zero, List.set_cons_succ, List.getElem_toArray, List.getElem_cons_zero, List.getElem_cons_succ]
    refine wpAny_take (i := 10) (v := undef) rfl (by kernel_rfl) (by kernel_rfl) (by kernel_rfl) (fun _ _ _ h => h) (Or.inr ⟨by rfl, rfl⟩) ?_
    try simp only [Act.put, List.setIfInBounds_toArray, List.set_cons_zero, List.set_cons_succ, List.getElem_toArray, List.getElem_cons_zero, List.getElem_cons_succ]
    refine wpAny_take (i := 11) (v := ?_) rfl (by kernel_rfl) (by kernel_rfl) (by kernel_rfl) (fun _ _ _ h => h) (Or.inl ⟨by rfl, ?_⟩) ?_
    rotate_left 1
    · (intro w; go_simp; try with_reducible rfl)
    try simp only [Act.put, List.setIfInBounds_toArray, List.set_cons_zero, List.set_cons_succ, List.getElem_toArray, List.getElem_cons_zero, List.getElem_cons_succ]
    refine wpAny_take (i := 12) (v := ?_) rfl (by kernel_rfl) (by kernel_rfl) (by kernel_rfl) (fun _ _ _ h => h) (Or.inl ⟨by rfl, ?_⟩) ?_
    rotate_left 1
    · (intro w; go_simp; try with_reducible rfl)
    try simp only [Act.put, List.setIfInBounds_toArray, List.set_cons_zero, List.set_cons_succ, List.getElem_toArray, List.getElem_cons_zero, List.getElem_cons_succ]
    refine wpAny_take (i := 13) (v := undef) rfl (by kernel_rfl) (by kernel_rfl) (by kernel_rfl) (fun _ _ _ h => h) (Or.inr ⟨by rfl, rfl⟩) ?_
    try simp only [Act.put, List.setIfInBounds_toArray, List.set_cons_zero, List.set_cons_succ, List.getElem_toArray, List.getElem_cons_zero, List.getElem_cons_succ]
    refine wpAny_take (i := 14) (v := undef) rfl (by kernel_rfl) (by kernel_rfl) (by kernel_rfl) (fun _ _ _ h => h) (Or.inr ⟨by rfl, rfl⟩) ?_
    try simp only [Act.put, List.setIfInBounds_toArray, List.set_cons_zero, List.set_cons_succ, List.getElem_toArray, List.getElem_cons_zero, List.getElem_cons_succ]
    refine wpAny_take (i := 15) (v := undef) rfl (by kernel_rfl) (by kernel_rfl) (by kernel_rfl) (fun _ _ _ h => h) (Or.inr ⟨by rfl, rfl⟩) ?_
    try simp only [Act.put, List.setIfInBounds_toArray, List.set_cons_zero, List.set_cons_succ, List.getElem_toArray, List.getElem_cons_zero, List.getElem_cons_succ]
    refine wpAny_take (i := 16) (v := ?_) rfl (by kernel_rfl) (by kernel_rfl) (by kernel_rfl) (fun _ _ _ h => h) (Or.inl ⟨by rfl, ?_⟩) ?_
    rotate_left 1
    · (intro w; go_simp; try with_reducible rfl)
    try simp only [Act.put, List.setIfInBounds_toArray, List.set_cons_zero, List.set_cons_succ, List.getElem_toArray, List.getElem_cons_zero, List.getElem_cons_succ]
    refine wpAny_take (i := 17) (v := ?_) rfl (by kernel_rfl) (by kernel_rfl) (by kernel_rfl) (fun _ _ _ h => h) (Or.inl ⟨by rfl, ?_⟩) ?_
    rotate_left 1
    · (intro w; go_simp; try with_reducible rfl)
    try simp only [Act.put, List.setIfInBounds_toArray, List.set_cons_zero, List.set_cons_succ, List.getElem_toArray, List.getElem_cons_zero, List.getElem_cons_succ]
    refine wpAny_done (by kernel_rfl) ?_ _
    rotate_left 1
    all_goals
      have BT := Lib.hid bT
      have BF := Lib.hid bF
      clear bT bF hbT hbF xT xF
      go_wp2
      go_ret
      exact ⟨ret_bool (by first | (rw [hr.out]; done) | (rw [hr.out]; exact decide_eq_false (by omega)) | (rw [hr.out]; simp; done) | (rw [hr.out]; simp; omega)), by first | exact BT.out | exact BF.out⟩
end Go.Proofs.Ytieljgfocgdngaa

/- CountRefuting, ProveRule, RefuteRule: the model. -/
namespace Go.Proofs.Ytieljgfocgdngaa
open Go.RowKit
set_option linter.unusedVariables false
set_option maxRecDepth 100000

def rA (P : Nat → Bool) (k : Nat) : Int := if firstI P k < 0 then -1 else firstI P k / 64
def rB (P : Nat → Bool) (k : Nat) : Int := if firstI P k < 0 then -1 else firstI P k % 64
theorem rA_no {P : Nat → Bool} {k : Nat} (h : P k = false) : rA P (k + 1) = rA P k ∧ rB P (k + 1) = rB P k := by unfold rA rB; rw [firstI_step_no h]; exact ⟨rfl, rfl⟩
theorem rA_new {P : Nat → Bool} {k : Nat} (h : P k = true) (h0 : countI P k = 0) : rA P (k + 1) = (k : Int) / 64 ∧ rB P (k + 1) = (k : Int) % 64 := by
  unfold rA rB; rw [firstI_step_new h ((count_first P k).1 h0), if_neg (by omega), if_neg (by omega)]; exact ⟨rfl, rfl⟩
theorem rA_old {P : Nat → Bool} {k : Nat} (h : P k = true) (h0 : countI P k ≠ 0) : rA P (k + 1) = rA P k ∧ rB P (k + 1) = rB P k := by
  have : 0 ≤ firstI P k := by
    rcases Int.lt_or_le (firstI P k) 0 with h9 | h9
    · exact absurd ((count_first P k).2 h9) h0
    · exact h9
  unfold rA rB; rw [firstI_step_old this]; exact ⟨rfl, rfl⟩

set_option maxHeartbeats 4000000 in
theorem ruRefuting_any (L B : Nat) (A1 A2 : Option Addr) (c1 c2 : Nat) (fr to : List Nd) (s : ByteArray) (w : World) (hg1 : good fr = true) (hg2 : good to = true) (h1 : NS w L B A1 fr) (h2 : NS w L B A2 to) (hB : B ≤ w.heap.size) :
    Calls Try.prog 91 #[.agg #[.slice A1 fr.length c1, .slice A2 to.length c2, .string s]] w fun e w' => e = .returned (.tuple #[.int .i64 (rA (rneI s (tab fr) (tab to)) 4096), .int .i64 (rB (rneI s (tab fr) (tab to)) 4096), .int .i64 (countI (rneI s (tab fr) (tab to)) 4096)]) ∧ Below w.heap.size w w' := by
  obtain ⟨W1, hW1⟩ : ∃ W1, W1 = w.alloc (.cells #[.slice A1 fr.length c1, .slice A2 to.length c2, .string s] 45) := ⟨_, rfl⟩
  have b1 : Hid (Below w.heap.size w W1) := by unfold Hid; rw [hW1]; exact (Below.refl _ _).alloc (Nat.le_refl _) _
  have x1 : Hid (RX 45 W1 w.heap.size (.slice A1 fr.length c1) (.slice A2 to.length c2) s) := by unfold Hid; rw [hW1]; exact rx_new _ _ _ _ _
  have HC1 := Lib.hid fun (W : World) (hW : Below w.heap.size w W) => exTable_n L B A1 c1 fr W hg1 (h1.below hW hB) (Nat.le_trans hB hW.size)
  have HC2 := Lib.hid fun (W : World) (hW : Below w.heap.size w W) => exTable_n L B A2 c2 to W hg2 (h2.below hW hB) (Nat.le_trans hB hW.size)
  have hW1' := tab_len fr
  have hW2' := tab_len to
  have e1 := Lib.hid hW1
  obtain ⟨k0, k1, k2⟩ := x1.out.cells
  rw [hW1] at k0 k1 k2
  clear hW1 h1 h2 hg1 hg2
  generalize tab fr = xs at *
  generalize tab to = ys at *
  have hPd : ∀ i, rneI s xs ys i = (neI xs ys i && fitS s ((i % 64 : Nat) : Int)) := fun i => rfl
  have HPd := Lib.hid hPd
  clear hPd
  generalize rneI s xs ys = P at *
  go_enter Try.func91, Try.ntmps91
  go_wp2_with (fail)
  rw [← e1.out]
  clear k0 k1 k2
  obtain ⟨k0, k1, k2⟩ := x1.out.cells
  go_region_held3 (fun w' => w'.cell? ⟨w.heap.size, 0, none⟩ = some (.slice A1 fr.length c1) ∧ w'.cell? ⟨w.heap.size, 1, none⟩ = some (.slice A2 to.length c2) ∧ w'.cell? ⟨w.heap.size, 2, none⟩ = some (.string s))
    (first | exact KT | exact KF | assumption | go_keep)
    (first
      | (go_at_call 75; (first | (with_reducible refine (HC2.out wF bF).mono ?_) | (with_reducible refine (HC2.out W1.drew b1.out.drew).mono ?_) | (with_reducible refine (HC2.out W1 b1.out).mono ?_)); rintro e wT ⟨AT, cT, rfl, iT, hbT⟩; have bT : Below w.heap.size w wT := (by first | exact bF.trans (hbT.mono bF.size) | exact b1.out.trans (hbT.mono b1.out.size) | exact b1.out.drew.trans (hbT.mono b1.out.size)); have xT : RX 45 wT w.heap.size (.slice A1 fr.length c1) (.slice A2 to.length c2) s := (by first | exact RX.next xF hbT | exact RX.next (w := W1.drew) x1.out hbT | exact RX.next x1.out hbT); have KT := xT.cells)
      | (go_at_call 75; (first | (with_reducible refine (HC1.out wT bT).mono ?_) | (with_reducible refine (HC1.out W1.drew b1.out.drew).mono ?_) | (with_reducible refine (HC1.out W1 b1.out).mono ?_)); rintro e wF ⟨AF, cF, rfl, iF, hbF⟩; have bF : Below w.heap.size w wF := (by first | exact bT.trans (hbF.mono bT.size) | exact b1.out.trans (hbF.mono b1.out.size) | exact b1.out.drew.trans (hbF.mono b1.out.size)); have xF : RX 45 wF w.heap.size (.slice A1 fr.length c1) (.slice A2 to.length c2) s := (by first | exact RX.next xT hbF | exact RX.next (w := W1.drew) x1.out hbF | exact RX.next x1.out hbF); have KF := xF.cells))
  all_goals
    first
    | (have hI1 := iF.below hbT (Nat.le_refl _)
       have hI2 := iT
       have hb9 := Lib.hid bT
       have hx9 := xT
       clear iF iT bT bF xT xF KT KF hbT hbF
       generalize wT = wE at *)
    | (have hI2 := iT.below hbF (Nat.le_refl _)
       have hI1 := iF
       have hb9 := Lib.hid bF
       have hx9 := xF
       clear iF iT bT bF xT xF KT KF hbT hbF
       generalize wF = wE at *)
    clear k0 k1 k2
    obtain ⟨k0, k1, k2⟩ := hx9.cells
    have HI1 := Lib.hid hI1
    have HI2 := Lib.hid hI2
    clear hI1 hI2 hx9
    go_wp2
    go_loop [7, 8, 9, 20] (fun a b n i => ∃ k : Nat, k ≤ 4096 ∧ i = .int .i64 k ∧ a = .int .i64 (rA P k) ∧ b = .int .i64 (rB P k) ∧ n = .int .i64 (countI P k)) (fun _ _ _ i => 4096 - (intOf i).toNat)
    case atStart => exact ⟨0, Nat.zero_le _, rfl, rfl, rfl, rfl⟩
    case round =>
      obtain ⟨k, hk, rfl, rfl, rfl, rfl⟩ := hrel
      by_cases hlt : k < 4096
      · obtain ⟨b', o', rfl, _, hc⟩ := HI1.out (by omega)
        obtain ⟨b9, o9, rfl, _, hc'⟩ := HI2.out (by omega)
        have q1 := hc k (by omega)
        have q2 := hc' k (by omega)
        have i0 : (0 : Int) ≤ (k : Int) := by omega
        have i1 : (k : Int) < 4096 := by omega
        have hPk := HPd.out k
        have hne : neI xs ys k = (xs[k] != ys[k]) := by unfold neI; rw [getD_get (by omega), getD_get (by omega)]
        rw [hne] at hPk
        have hmod : ((k % 64 : Nat) : Int) = (k : Int) % 64 := by omega
        have HFt := Lib.hid fun W => ruFits_any s ((k % 64 : Nat) : Int) W (isW_mod k)
        rw [hmod] at HFt hPk
        have hN := Lib.hid (fun h => rA_no (P := P) (k := k) h)
        have hW := Lib.hid (fun h h0 => rA_new (P := P) (k := k) h h0)
        have hO := Lib.hid (fun h h0 => rA_old (P := P) (k := k) h h0)
        have hCn := Lib.hid (fun h => countI_no (p := P) (n := k) h)
        have hCy := Lib.hid (fun h => countI_yes (p := P) (n := k) h)
        have hbd := countI_bd P k
        obtain ⟨d0, d1⟩ := hbd
        clear hc hc' hne hmod
        have HPk := Lib.hid hPk
        clear hPk
        generalize xs[k] = x at *
        generalize ys[k] = y at *
        generalize hga : rA P (k + 1) = ra' at *
        have HGA := Lib.hid hga
        clear hga
        generalize hgb : rB P (k + 1) = rb' at *
        have HGB := Lib.hid hgb
        clear hgb
        generalize hgc : countI P (k + 1) = rc' at *
        have HGC := Lib.hid hgc
        clear hgc
        generalize rA P k = ra at *
        generalize rB P k = rb at *
        generalize countI P k = rc at *
        generalize P k = pk at *
        generalize fitS s ((k : Int) % 64) = ft at *
        by_cases hxy : x = y
        · subst hxy
          have hp : pk = false := by rw [HPk.out]; simp
          have e1' := Lib.hid (hN.out hp)
          have e2' := Lib.hid (hCn.out hp)
          clear hp
          go_wp2
          go_round
          case rel => exact ⟨k + 1, by omega, by go_num, by rw [HGA.out, e1'.out.1], by rw [HGB.out, e1'.out.2], by rw [HGC.out, e2'.out]⟩
          case measure => simp [intOf]; omega
        · cases ft
          · have hp : pk = false := by rw [HPk.out]; simp
            have e1' := Lib.hid (hN.out hp)
            have e2' := Lib.hid (hCn.out hp)
            clear hp
            go_wp2_with (fail)
            refine (HFt.out _).mono ?_
            rintro e w8 ⟨rfl, rfl⟩
            go_wp2
            go_round
            case rel => exact ⟨k + 1, by omega, by go_num, by rw [HGA.out, e1'.out.1], by rw [HGB.out, e1'.out.2], by rw [HGC.out, e2'.out]⟩
            case measure => simp [intOf]; omega
          · have hp : pk = true := by rw [HPk.out]; simp [hxy]
            have e2' := Lib.hid (hCy.out hp)
            by_cases hz : rc = 0
            · have e1' := Lib.hid (hW.out hp hz)
              subst hz
              clear hp
              go_wp2_with (fail)
              refine (HFt.out _).mono ?_
              rintro e w8 ⟨rfl, rfl⟩
              go_wp2
              go_round
              case rel => exact ⟨k + 1, by omega, by go_num, by rw [HGA.out, e1'.out.1], by rw [HGB.out, e1'.out.2], by rw [HGC.out, e2'.out]; rfl⟩
              case measure => simp [intOf]; omega
            · have e1' := Lib.hid (hO.out hp hz)
              clear hp
              go_wp2_with (fail)
              refine (HFt.out _).mono ?_
              rintro e w8 ⟨rfl, rfl⟩
              go_wp2
              go_round
              case rel => exact ⟨k + 1, by omega, by go_num, by rw [HGA.out, e1'.out.1], by rw [HGB.out, e1'.out.2], by rw [HGC.out, e2'.out]⟩
              case measure => simp [intOf]; omega
      · obtain rfl : k = 4096 := by omega
        go_wp2
        go_ret3
        exact ⟨rfl, hb9.out⟩
end Go.Proofs.Ytieljgfocgdngaa

/- CountRefuting, ProveRule, RefuteRule: the model's contracts as the laws take them. -/
namespace Go.Proofs.Ytieljgfocgdngaa
open Go.RowKit
set_option linter.unusedVariables false
set_option maxRecDepth 100000

set_option maxHeartbeats 1000000 in
theorem sCountRefuting_k (L B : Nat) (A1 A2 : Option Addr) (c1 c2 : Nat) (fr to : List Nd) (s : ByteArray) (w : World) (hl1 : fr.length ≤ 1048576) (hl2 : to.length ≤ 1048576) (hl3 : s.size ≤ 1048576) (h1 : RS Nd.enc 4 w L B A1 fr) (h2 : RS Nd.enc 4 w L B A2 to) (hB : B ≤ w.heap.size) :
    Calls Try.prog 51 #[.agg #[.slice A1 fr.length c1, .slice A2 to.length c2, .string s]] w (ResCountRefuting (rcR fr to s) (ruleOk fr to s) w) := by
  obtain ⟨W1, hW1⟩ : ∃ W1, W1 = w.alloc (.cells #[.slice A1 fr.length c1, .slice A2 to.length c2, .string s] 45) := ⟨_, rfl⟩
  have b1 : Hid (Below w.heap.size w W1) := by unfold Hid; rw [hW1]; exact (Below.refl _ _).alloc (Nat.le_refl _) _
  have x1 : Hid (RX 45 W1 w.heap.size (.slice A1 fr.length c1) (.slice A2 to.length c2) s) := by unfold Hid; rw [hW1]; exact rx_new _ _ _ _ _
  have HG := Lib.hid (ruGood_any L B A1 A2 c1 c2 fr to s W1 hl1 hl2 (h1.below b1.out hB).ns (h2.below b1.out hB).ns (Nat.le_trans hB b1.out.size))
  have HF := Lib.hid fun (W : World) (hW : Below w.heap.size w W) (g1 : good fr = true) (g2 : good to = true) => ruRefuting_any L B A1 A2 c1 c2 fr to s W g1 g2 (h1.below hW hB).ns (h2.below hW hB).ns (Nat.le_trans hB hW.size)
  obtain ⟨k0, k1, k2⟩ := x1.out.cells
  rw [hW1] at k0 k1 k2
  have e1 := Lib.hid hW1
  clear hW1 h1 h2
  cases hg : ruleOk fr to s
  · rw [hg] at HG
    have HR : Hid (rcR fr to s = 0) := by unfold Hid rcR; rw [if_neg (by rw [hg]; decide)]
    clear hg
    go_enter Try.func51, Try.ntmps51
    go_wp2_with (fail)
    rw [← e1.out]
    refine HG.out.mono ?_
    rintro e w2 ⟨rfl, hb⟩
    have b2 := Lib.hid (b1.out.trans (hb.mono b1.out.size))
    clear hb
    go_wp2
    go_ret2
    unfold ResCountRefuting
    exact ⟨by first | (rw [HR.out]; done) | (rw [HR.out]; rfl), b2.out⟩
  · have hgg := ruleOk_goods hg
    have HF2 := Lib.hid fun W hW => HF.out W hW hgg.1 hgg.2
    rw [hg] at HG
    have HR : Hid (rcR fr to s = countI (rneI s (tab fr) (tab to)) 4096) := by unfold Hid rcR; rw [if_pos hg]
    clear hg hgg HF
    generalize countI (rneI s (tab fr) (tab to)) 4096 = n at *
    generalize rA (rneI s (tab fr) (tab to)) 4096 = a at *
    generalize rB (rneI s (tab fr) (tab to)) 4096 = b at *
    go_enter Try.func51, Try.ntmps51
    go_wp2_with (fail)
    rw [← e1.out]
    refine HG.out.mono ?_
    rintro e w2 ⟨rfl, hb⟩
    have b2 := Lib.hid (b1.out.trans (hb.mono b1.out.size))
    have x2 := x1.out.next hb
    clear hb k0 k1 k2
    obtain ⟨k0, k1, k2⟩ := x2.cells
    go_wp2_with (fail)
    refine (HF2.out w2 b2.out).mono ?_
    rintro e w3 ⟨rfl, hb⟩
    have b3 := Lib.hid (b2.out.trans (hb.mono b2.out.size))
    clear hb
    go_wp2
    go_ret2
    unfold ResCountRefuting
    exact ⟨by first | (rw [HR.out]; done) | (rw [HR.out]; rfl), b3.out⟩

set_option maxHeartbeats 1000000 in
theorem sProveRule_k (L B : Nat) (A1 A2 : Option Addr) (c1 c2 : Nat) (fr to : List Nd) (s : ByteArray) (w : World) (hl1 : fr.length ≤ 1048576) (hl2 : to.length ≤ 1048576) (hl3 : s.size ≤ 1048576) (h1 : RS Nd.enc 4 w L B A1 fr) (h2 : RS Nd.enc 4 w L B A2 to) (hB : B ≤ w.heap.size) :
    Calls Try.prog 47 #[.agg #[.slice A1 fr.length c1, .slice A2 to.length c2, .string s]] w (ResProveRule (prR fr to s) (ruleOk fr to s) w) := by
  obtain ⟨W1, hW1⟩ : ∃ W1, W1 = w.alloc (.cells #[.slice A1 fr.length c1, .slice A2 to.length c2, .string s] 45) := ⟨_, rfl⟩
  have b1 : Hid (Below w.heap.size w W1) := by unfold Hid; rw [hW1]; exact (Below.refl _ _).alloc (Nat.le_refl _) _
  have x1 : Hid (RX 45 W1 w.heap.size (.slice A1 fr.length c1) (.slice A2 to.length c2) s) := by unfold Hid; rw [hW1]; exact rx_new _ _ _ _ _
  have HG := Lib.hid (ruGood_any L B A1 A2 c1 c2 fr to s W1 hl1 hl2 (h1.below b1.out hB).ns (h2.below b1.out hB).ns (Nat.le_trans hB b1.out.size))
  have HF := Lib.hid fun (W : World) (hW : Below w.heap.size w W) (g1 : good fr = true) (g2 : good to = true) => ruRefuting_any L B A1 A2 c1 c2 fr to s W g1 g2 (h1.below hW hB).ns (h2.below hW hB).ns (Nat.le_trans hB hW.size)
  obtain ⟨k0, k1, k2⟩ := x1.out.cells
  rw [hW1] at k0 k1 k2
  have e1 := Lib.hid hW1
  clear hW1 h1 h2
  cases hg : ruleOk fr to s
  · rw [hg] at HG
    have HR : Hid (prR fr to s = false) := by unfold Hid prR; rw [hg]; rfl
    clear hg
    go_enter Try.func47, Try.ntmps47
    go_wp2_with (fail)
    rw [← e1.out]
    refine HG.out.mono ?_
    rintro e w2 ⟨rfl, hb⟩
    have b2 := Lib.hid (b1.out.trans (hb.mono b1.out.size))
    clear hb
    go_wp2
    go_ret2
    unfold ResProveRule
    exact ⟨by first | (rw [HR.out]; done) | (rw [HR.out]; rfl), b2.out⟩
  · have hgg := ruleOk_goods hg
    have HF2 := Lib.hid fun W hW => HF.out W hW hgg.1 hgg.2
    rw [hg] at HG
    have HR0 : Hid (prR fr to s = decide (countI (rneI s (tab fr) (tab to)) 4096 = 0)) := by unfold Hid prR rcR; rw [hg, if_pos rfl]; rfl
    clear hg hgg HF
    generalize countI (rneI s (tab fr) (tab to)) 4096 = n at *
    generalize rA (rneI s (tab fr) (tab to)) 4096 = a at *
    generalize rB (rneI s (tab fr) (tab to)) 4096 = b at *
    go_enter Try.func47, Try.ntmps47
    go_wp2_with (fail)
    rw [← e1.out]
    refine HG.out.mono ?_
    rintro e w2 ⟨rfl, hb⟩
    have b2 := Lib.hid (b1.out.trans (hb.mono b1.out.size))
    have x2 := x1.out.next hb
    clear hb k0 k1 k2
    obtain ⟨k0, k1, k2⟩ := x2.cells
    go_wp2_with (fail)
    refine (HF2.out w2 b2.out).mono ?_
    rintro e w3 ⟨rfl, hb⟩
    have b3 := Lib.hid (b2.out.trans (hb.mono b2.out.size))
    clear hb
    by_cases hn : n = 0
    · have HR : Hid (prR fr to s = true) := by rw [Hid, HR0.out]; exact decide_eq_true hn
      subst hn
      go_wp2
      go_ret2
      unfold ResProveRule
      exact ⟨by first | (rw [HR.out]; done) | (rw [HR.out]; rfl), b3.out⟩
    · have HR : Hid (prR fr to s = false) := by rw [Hid, HR0.out]; exact decide_eq_false hn
      go_wp2
      go_ret2
      unfold ResProveRule
      exact ⟨by first | (rw [HR.out]; done) | (rw [HR.out]; rfl) | (rw [HR.out]; simp [hn]; done), b3.out⟩

set_option maxHeartbeats 1000000 in
theorem sRefuteRule_k (L B : Nat) (A1 A2 : Option Addr) (c1 c2 : Nat) (fr to : List Nd) (s : ByteArray) (w : World) (hl1 : fr.length ≤ 1048576) (hl2 : to.length ≤ 1048576) (hl3 : s.size ≤ 1048576) (h1 : RS Nd.enc 4 w L B A1 fr) (h2 : RS Nd.enc 4 w L B A2 to) (hB : B ≤ w.heap.size) :
    Calls Try.prog 49 #[.agg #[.slice A1 fr.length c1, .slice A2 to.length c2, .string s]] w (ResRefuteRule (rf0 fr to s) (rf1 fr to s) (rfB fr to s) w) := by
  obtain ⟨W1, hW1⟩ : ∃ W1, W1 = w.alloc (.cells #[.slice A1 fr.length c1, .slice A2 to.length c2, .string s] 45) := ⟨_, rfl⟩
  have b1 : Hid (Below w.heap.size w W1) := by unfold Hid; rw [hW1]; exact (Below.refl _ _).alloc (Nat.le_refl _) _
  have x1 : Hid (RX 45 W1 w.heap.size (.slice A1 fr.length c1) (.slice A2 to.length c2) s) := by unfold Hid; rw [hW1]; exact rx_new _ _ _ _ _
  have HG := Lib.hid (ruGood_any L B A1 A2 c1 c2 fr to s W1 hl1 hl2 (h1.below b1.out hB).ns (h2.below b1.out hB).ns (Nat.le_trans hB b1.out.size))
  have HF := Lib.hid fun (W : World) (hW : Below w.heap.size w W) (g1 : good fr = true) (g2 : good to = true) => ruRefuting_any L B A1 A2 c1 c2 fr to s W g1 g2 (h1.below hW hB).ns (h2.below hW hB).ns (Nat.le_trans hB hW.size)
  obtain ⟨k0, k1, k2⟩ := x1.out.cells
  rw [hW1] at k0 k1 k2
  have e1 := Lib.hid hW1
  clear hW1 h1 h2
  cases hg : ruleOk fr to s
  · rw [hg] at HG
    have HR : Hid (rf0 fr to s = 0 ∧ rf1 fr to s = 0 ∧ rfB fr to s = false) := by
      have h9 : rfI fr to s = -1 := by unfold rfI; rw [if_neg (by rw [hg]; decide)]
      unfold Hid rf0 rf1 rfB; rw [h9]; exact ⟨rfl, rfl, rfl⟩
    clear hg
    go_enter Try.func49, Try.ntmps49
    go_wp2_with (fail)
    rw [← e1.out]
    refine HG.out.mono ?_
    rintro e w2 ⟨rfl, hb⟩
    have b2 := Lib.hid (b1.out.trans (hb.mono b1.out.size))
    clear hb
    go_wp2
    go_ret3
    unfold ResRefuteRule
    rw [HR.out.1, HR.out.2.1, HR.out.2.2]
    exact ⟨rfl, b2.out⟩
  · have hgg := ruleOk_goods hg
    have HF2 := Lib.hid fun W hW => HF.out W hW hgg.1 hgg.2
    rw [hg] at HG
    have HRn : Hid (countI (rneI s (tab fr) (tab to)) 4096 = 0 → rf0 fr to s = 0 ∧ rf1 fr to s = 0 ∧ rfB fr to s = false) := by
      intro h
      have h9 := (count_first _ _).1 h
      unfold rf0 rf1 rfB rfI; rw [if_pos hg, if_pos h9, if_pos h9]; exact ⟨rfl, rfl, decide_eq_false (by omega)⟩
    have HRy : Hid (countI (rneI s (tab fr) (tab to)) 4096 ≠ 0 → rf0 fr to s = rA (rneI s (tab fr) (tab to)) 4096 ∧ rf1 fr to s = rB (rneI s (tab fr) (tab to)) 4096 ∧ rfB fr to s = true) := by
      intro h
      have h9 : ¬ firstI (rneI s (tab fr) (tab to)) 4096 < 0 := fun h8 => h ((count_first _ _).2 h8)
      unfold rf0 rf1 rfB rfI rA rB; rw [if_pos hg, if_neg h9, if_neg h9, if_neg h9, if_neg h9]; exact ⟨rfl, rfl, decide_eq_true (by omega)⟩
    clear hg hgg HF
    generalize countI (rneI s (tab fr) (tab to)) 4096 = n at *
    generalize rA (rneI s (tab fr) (tab to)) 4096 = a at *
    generalize rB (rneI s (tab fr) (tab to)) 4096 = b at *
    go_enter Try.func49, Try.ntmps49
    go_wp2_with (fail)
    rw [← e1.out]
    refine HG.out.mono ?_
    rintro e w2 ⟨rfl, hb⟩
    have b2 := Lib.hid (b1.out.trans (hb.mono b1.out.size))
    have x2 := x1.out.next hb
    clear hb k0 k1 k2
    obtain ⟨k0, k1, k2⟩ := x2.cells
    go_wp2_with (fail)
    refine (HF2.out w2 b2.out).mono ?_
    rintro e w3 ⟨rfl, hb⟩
    have b3 := Lib.hid (b2.out.trans (hb.mono b2.out.size))
    clear hb
    by_cases hn : n = 0
    · have HQ := Lib.hid (HRn.out hn)
      subst hn
      go_wp2
      go_ret3
      unfold ResRefuteRule
      rw [HQ.out.1, HQ.out.2.1, HQ.out.2.2]
      exact ⟨rfl, b3.out⟩
    · have HQ := Lib.hid (HRy.out hn)
      go_wp2
      go_ret3
      unfold ResRefuteRule
      rw [HQ.out.1, HQ.out.2.1, HQ.out.2.2]
      exact ⟨rfl, b3.out⟩
end Go.Proofs.Ytieljgfocgdngaa
