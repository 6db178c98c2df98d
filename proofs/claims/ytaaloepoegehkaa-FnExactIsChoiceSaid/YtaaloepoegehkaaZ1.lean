/- Texts of this proof, one behind the other: CHE, CH, CHF, OC, ON, OCH. -/
import Derived.Test.YtaaloepoegehkaaCHD
import Derived.WalkKit
import Derived.WalkSpells
import Derived.WalkLawsBesides
import Derived.Deep.QuietTactic
import Derived.BigQuiet
import Derived.Deep.RegionLaw
import Derived.Lib.Hide
import Derived.Test.YtaaloepoegehkaaCG
import Derived.Test.YtaaloepoegehkaaKMInstr
import Derived.ProofKit
import Derived.OpenShut
import Derived.ShutString
import Derived.ChangeOld
import Derived.Below
import Derived.Deep.Slices
import Derived.Deep.Fields
import Derived.Test.YtaaloepoegehkaaKMNode
import Derived.Test.YtaaloepoegehkaaCHC
/- Choices: whether one is a choice, the model. -/
namespace Go.Proofs.Ytaaloepoegehkaa
open Go.RowKit
set_option linter.unusedVariables false
set_option maxRecDepth 100000

theorem IS.takeC {w : World} {L B : Nat} {A : Option Addr} {xs : List Int} (h : IS w L B A xs) (k : Nat) : IS w L B A (xs.take k) := by
  intro h0
  rw [List.length_take] at h0
  obtain ⟨b, o, e, hb, hc⟩ := h (by omega)
  refine ⟨b, o, e, hb, fun i hi => ?_⟩
  rw [List.getElem_take]
  exact hc i (by rw [List.length_take] at hi; omega)
theorem SS.takeC {w : World} {L B : Nat} {A : Option Addr} {ss : List ByteArray} (h : SS w L B A ss) (k : Nat) : SS w L B A (ss.take k) := by
  intro h0
  rw [List.length_take] at h0
  obtain ⟨b, o, e, hb, hc⟩ := h (by omega)
  refine ⟨b, o, e, hb, fun i hi j v hv => hc i (by rw [List.length_take] at hi; omega) j v (by rw [List.getElem_take] at hv; exact hv)⟩
def opAt (ss : List ByteArray) (q : Nat) : ByteArray := ss.getD q ByteArray.empty
theorem opAt_eq {ss : List ByteArray} {q : Nat} (h : q < ss.length) : opAt ss q = ss[q] := by
  unfold opAt; rw [List.getD_eq_getElem?_getD, List.getElem?_eq_getElem h]; rfl
def dupS (ss : List ByteArray) (k : Nat) : Bool := (List.range k).any fun q => hasS (ss.take q) (opAt ss q)
theorem dupS_succ (ss : List ByteArray) (k : Nat) : dupS ss (k + 1) = (dupS ss k || hasS (ss.take k) (opAt ss k)) := by
  unfold dupS; rw [List.range_succ, List.any_append]; simp
theorem dupS_on {ss : List ByteArray} {k : Nat} (h : dupS ss k = true) : ∀ {n}, k ≤ n → dupS ss n = true
  | 0, hn => by obtain rfl : k = 0 := by omega
                exact h
  | n + 1, hn => by
    rcases Nat.lt_or_ge n k with h1 | h1
    · obtain rfl : k = n + 1 := by omega
      exact h
    · rw [dupS_succ, dupS_on h h1]; rfl
def dupI (xs : List Int) (k : Nat) : Bool := (List.range k).any fun q => hasI (xs.take q) (xs.getD q 0)
theorem dupI_succ (xs : List Int) (k : Nat) : dupI xs (k + 1) = (dupI xs k || hasI (xs.take k) (xs.getD k 0)) := by
  unfold dupI; rw [List.range_succ, List.any_append]; simp
theorem dupI_on {xs : List Int} {k : Nat} (h : dupI xs k = true) : ∀ {n}, k ≤ n → dupI xs n = true
  | 0, hn => by obtain rfl : k = 0 := by omega
                exact h
  | n + 1, hn => by
    rcases Nat.lt_or_ge n k with h1 | h1
    · obtain rfl : k = n + 1 := by omega
      exact h
    · rw [dupI_succ, dupI_on h h1]; rfl
def opOk (ss : List ByteArray) (imms : List Int) (q : Nat) : Bool := (fm (opAt ss q)).ok && !hasS (ss.take q) (opAt ss q) && immOk imms (fm (opAt ss q))
def opsP (ss : List ByteArray) (imms : List Int) (k : Nat) : Bool := (List.range k).all (opOk ss imms)
theorem opsP_succ (ss : List ByteArray) (imms : List Int) (k : Nat) : opsP ss imms (k + 1) = (opsP ss imms k && opOk ss imms k) := by
  unfold opsP; rw [List.range_succ, List.all_append]; simp
theorem opsP_off {ss : List ByteArray} {imms : List Int} {k : Nat} (h : opsP ss imms k = false) : ∀ {n}, k ≤ n → opsP ss imms n = false
  | 0, hn => by obtain rfl : k = 0 := by omega
                exact h
  | n + 1, hn => by
    rcases Nat.lt_or_ge n k with h1 | h1
    · obtain rfl : k = n + 1 := by omega
      exact h
    · rw [opsP_succ, opsP_off h h1]; rfl
def choB (ss : List ByteArray) (imms : List Int) : Bool := inR (ss.length : Int) 1 4 && decide (imms.length ≤ 2) && allIn imms 0 63 && opsP ss imms ss.length && !dupI imms imms.length
set_option maxHeartbeats 4000000 in
theorem suGood_any (L B : Nat) (A1 A2 : Option Addr) (c1 c2 : Nat) (ss : List ByteArray) (imms : List Int) (w : World) (hl1 : ss.length ≤ 1048576) (hl2 : imms.length ≤ 1048576) (h1 : SS w L B A1 ss) (h2 : IS w L B A2 imms) (hB : B ≤ w.heap.size) (hc1 : ss.length ≤ c1) (hc2 : imms.length ≤ c2) :
    Calls Try.prog 107 #[.agg #[.slice A1 ss.length c1, .slice A2 imms.length c2]] w fun e w' => e = .returned (.bool (choB ss imms)) ∧ Below w.heap.size w w' := by
  have hSS := Lib.hid fun (W : World) (hW : Below w.heap.size w W) => (RS.below h1 hW hB : SS W L B A1 ss)
  have hIS := Lib.hid fun (W : World) (hW : Below w.heap.size w W) => h2.below hW hB
  have hIn := Lib.hid fun (W : World) => l1In_r (ss.length : Int) 1 4 W
  have hAl := Lib.hid fun (W : World) (lo hi : Int) (hW : Below w.heap.size w W) => l1All_any L B A2 c2 imms lo hi W hl2 (h2.below hW hB)
  have hHS := Lib.hid fun (b o k : Nat) (s : ByteArray) (W : World) (h : SS W L B (some ⟨b, o, none⟩) ss) (hk : k ≤ ss.length) (hk2 : ss.length ≤ 4) => (l1HasS_any b o c1 (ss.take k) s W (by rw [List.length_take]; omega) (fun q hq => by obtain ⟨b', o', e, _, hc⟩ := SS.at_ (h.takeC k) hq; injection e with e; injection e with e1 e2; subst e1; subst e2; exact hc))
  have hHI := Lib.hid fun (b o k : Nat) (n : Int) (W : World) (h : IS W L B (some ⟨b, o, none⟩) imms) (hk : k ≤ imms.length) (hk2 : imms.length ≤ 2) => l1Has_eq L B (some ⟨b, o, none⟩) k c2 (imms.take k) n W (by rw [List.length_take]; omega) (by rw [List.length_take]; omega) (h.takeC k)
  have hD : Hid (choB ss imms = (inR (ss.length : Int) 1 4 && decide (imms.length ≤ 2) && allIn imms 0 63 && opsP ss imms ss.length && !dupI imms imms.length)) := rfl
  have hPs := Lib.hid (opsP_succ ss imms)
  have hPo := Lib.hid fun (k : Nat) (hk : k ≤ ss.length) (h : opsP ss imms k = false) => opsP_off h hk
  have hP0 : Hid (opsP ss imms 0 = true) := rfl
  have hOk : Hid (∀ q (h : q < ss.length), opOk ss imms q = ((fm ss[q]).ok && !hasS (ss.take q) ss[q] && immOk imms (fm ss[q]))) := fun q h => by unfold opOk; rw [opAt_eq h]
  have hIm := Lib.hid fun (f : Fm) => immOk_no (imms := imms) (f := f)
  have hIy := Lib.hid fun (f : Fm) => immOk_yes (imms := imms) (f := f)
  have hDs := Lib.hid (dupI_succ imms)
  have hDo := Lib.hid fun (k : Nat) (hk : k ≤ imms.length) (h : dupI imms k = true) => dupI_on h hk
  have hD0 : Hid (dupI imms 0 = false) := rfl
  have hbx := Lib.hid ((Below.refl w.heap.size w).alloc (Nat.le_refl _) (.cells #[.slice A1 ss.length c1, .slice A2 imms.length c2] 65))
  have hX := Lib.hid (dx_new 65 w (.slice A1 ss.length c1) (.slice A2 imms.length c2))
  clear h1 h2 hB
  generalize choB ss imms = R at *
  generalize opsP ss imms = P at *
  generalize opOk ss imms = O at *
  generalize dupI imms = DI at *
  obtain ⟨k0, k1⟩ := hX.out.cells
  obtain ⟨W1, hW1⟩ : ∃ W1, W1 = w.alloc (.cells #[.slice A1 ss.length c1, .slice A2 imms.length c2] 65) := ⟨_, rfl⟩
  rw [← hW1] at hbx hX
  have e1 := Lib.hid hW1
  clear hW1
  cases hin : inR (ss.length : Int) 1 4
  · have hF : Hid (R = false) := by rw [Hid, hD.out, hin]; rfl
    rw [hin] at hIn
    go_enter Try.func107, Try.ntmps107
    go_wp2_with (fail)
    refine (hIn.out _).mono ?_
    rintro e w2 ⟨rfl, rfl⟩
    go_wp2
    go_ret
    rw [← e1.out]
    exact ⟨by rw [hF.out]; rfl, hbx.out⟩
  rw [hin] at hIn
  have hn4 : 1 ≤ ss.length ∧ ss.length ≤ 4 := by rw [inR_iff] at hin; omega
  by_cases hi2 : imms.length ≤ 2
  rotate_left
  · have hF : Hid (R = false) := by rw [Hid, hD.out, decide_eq_false hi2]; simp
    go_enter Try.func107, Try.ntmps107
    go_wp2_with (fail)
    refine (hIn.out _).mono ?_
    rintro e w2 ⟨rfl, rfl⟩
    go_wp2
    go_ret
    rw [← e1.out]
    exact ⟨by rw [hF.out]; rfl, hbx.out⟩
  have hA1 := Lib.hid (hAl.out W1 0 63 hbx.out)
  cases hal : allIn imms 0 63
  · have hF : Hid (R = false) := by rw [Hid, hD.out, hal]; simp
    rw [hal] at hA1
    rw [e1.out] at hA1
    go_enter Try.func107, Try.ntmps107
    go_wp2_with (fail)
    refine (hIn.out _).mono ?_
    rintro e w2 ⟨rfl, rfl⟩
    go_wp2_with (fail)
    refine hA1.out.mono ?_
    rintro e w2 ⟨rfl, rfl⟩
    go_wp2
    go_ret
    rw [← e1.out]
    exact ⟨by rw [hF.out]; rfl, hbx.out⟩
  rw [hal] at hA1
  rw [e1.out] at hA1
  have hR : Hid (R = (P ss.length && !DI imms.length)) := by rw [Hid, hD.out, hin, hal, decide_eq_true hi2]; simp
  clear hin hal hD
  go_enter Try.func107, Try.ntmps107
  go_wp2_with (fail)
  refine (hIn.out _).mono ?_
  rintro e w2 ⟨rfl, rfl⟩
  go_wp2_with (fail)
  refine hA1.out.mono ?_
  rintro e w2 ⟨rfl, rfl⟩
  go_wp2_with (fail)
  rw [← e1.out]
  clear k0 k1 hA1 hIn
  go_loopw [32] (fun q wr => ∃ k : Nat, k ≤ ss.length ∧ q = .int .i64 k ∧ P k = true ∧ Below W1.heap.size W1 wr) (fun q _ => ss.length - (intOf q).toNat)
  case atStart => exact ⟨0, Nat.zero_le _, rfl, hP0.out, Below.refl _ _⟩
  case round =>
    obtain ⟨k, hk, rfl, hp, hbel⟩ := hrel
    have hBL := Lib.hid hbel
    have hPk := Lib.hid hp
    clear hbel hp
    have hbw := Lib.hid (hbx.out.trans (hBL.out.mono hbx.out.size))
    have hxr := hX.out.next hBL.out
    obtain ⟨k0, k1⟩ := hxr.cells
    clear hxr
    by_cases hlt : k < ss.length
    · have hki : (k : Int) < (ss.length : Int) := by omega
      have hk0 : (0 : Int) ≤ (k : Int) := by omega
      have hkc : (k : Int) ≤ (c1 : Int) := by omega
      obtain ⟨b9, o9, rfl, ⟨_, hbB⟩, x0⟩ := SS.at_ (hSS.out wr hbw.out) hlt
      have hHk := Lib.hid (hHS.out b9 o9 k ss[k] wr (hSS.out wr hbw.out) hk hn4.2)
      rw [show (ss.take k).length = k from by rw [List.length_take]; omega] at hHk
      have hSh := Lib.hid fun (W : World) => cdShape_any ss[k] W
      have hCi := Lib.hid (cdImm_any ss[k] wr)
      have hPn := Lib.hid (hPs.out k)
      rw [hPk.out, Bool.true_and, hOk.out k hlt] at hPn
      have hPf := Lib.hid (hPo.out (k + 1) hlt)
      have hIm1 := Lib.hid (hIm.out (fm ss[k]))
      have hIy1 := Lib.hid (hIy.out (fm ss[k]))
      have hAf := Lib.hid fun (W : World) (hW : Below w.heap.size w W) => hAl.out W (fm ss[k]).lo (fm ss[k]).hi hW
      have hPq : Hid (∀ h : P (k + 1) = false, R = false) := fun h => by rw [hR.out, hPf.out h]; rfl
      generalize hP1 : P (k + 1) = p1 at *
      have hP1h := Lib.hid hP1
      clear hP1
      generalize hasS (ss.take k) ss[k] = hs at *
      generalize immOk imms (fm ss[k]) = io at *
      generalize allIn imms (fm ss[k]).lo (fm ss[k]).hi = ai at *
      generalize decide (0 < (fm ss[k]).hi) = hu at *
      generalize ss[k] = s at *
      generalize fm s = f at *
      obtain ⟨ok, fa, fb, flo, fhi, fc⟩ := f
      dsimp only at hSh hPn hAf
      go_wp2_with (fail)
      refine (hSh.out _).mono ?_
      rintro e w3 ⟨rfl, rfl⟩
      cases ok
      · have hF : Hid (R = false) := hPq.out (by rw [hPn.out]; rfl)
        go_wp2
        go_ret
        exact ⟨by rw [hF.out]; rfl, hbw.out⟩
      · cases hs
        · go_wp2_with (fail)
          refine hHk.out.mono ?_
          rintro e w3 ⟨rfl, rfl⟩
          go_wp2_with (fail)
          refine hCi.out.mono ?_
          rintro e w4 ⟨rfl, hb4⟩
          have hb4w := Lib.hid (hbw.out.trans (hb4.mono hbw.out.size))
          have hb41 := Lib.hid (hBL.out.trans (hb4.mono hBL.out.size))
          have hx4 := (hX.out.next hBL.out).next hb4
          clear hb4 k0 k1
          obtain ⟨k0, k1⟩ := hx4.cells
          clear hx4
          cases hu
          · have hio := hIm1.out rfl
            have hT : Hid (p1 = true) := by rw [Hid, hPn.out, hio]; rfl
            clear hio
            go_wp2
            go_roundw
            case rel => exact ⟨k + 1, hlt, by go_num, by rw [hP1h.out]; exact hT.out, hb41.out⟩
            case measure => simp [intOf]; omega
          · have hio := Lib.hid (hIy1.out rfl)
            have hA4 := Lib.hid (hAf.out w4 hb4w.out)
            cases ai
            · have hF : Hid (R = false) := hPq.out (by rw [hPn.out, hio.out]; rfl)
              go_wp2_with (fail)
              refine hA4.out.mono ?_
              rintro e w5 ⟨rfl, rfl⟩
              go_wp2
              go_ret
              exact ⟨by rw [hF.out]; rfl, hb4w.out⟩
            · have hT : Hid (p1 = true) := by rw [Hid, hPn.out, hio.out]; rfl
              go_wp2_with (fail)
              refine hA4.out.mono ?_
              rintro e w5 ⟨rfl, rfl⟩
              go_wp2
              go_roundw
              case rel => exact ⟨k + 1, hlt, by go_num, by rw [hP1h.out]; exact hT.out, hb41.out⟩
              case measure => simp [intOf]; omega
        · have hF : Hid (R = false) := hPq.out (by rw [hPn.out]; rfl)
          go_wp2_with (fail)
          refine hHk.out.mono ?_
          rintro e w3 ⟨rfl, rfl⟩
          go_wp2
          go_ret
          exact ⟨by rw [hF.out]; rfl, hbw.out⟩
    · obtain rfl : k = ss.length := by omega
      go_wp2
      go_loopw [71] (fun q wq => ∃ j : Nat, j ≤ imms.length ∧ q = .int .i64 j ∧ DI j = false ∧ wq = wr) (fun q _ => imms.length - (intOf q).toNat)
      case atStart => exact ⟨0, Nat.zero_le _, rfl, hD0.out, rfl⟩
      case round =>
        obtain ⟨j, hj, rfl, hdj, rfl⟩ := hrel
        have hDj := Lib.hid hdj
        clear hdj
        by_cases hjn : j < imms.length
        · have hji : (j : Int) < (imms.length : Int) := by omega
          have hj0 : (0 : Int) ≤ (j : Int) := by omega
          have hjc : (j : Int) ≤ (c2 : Int) := by omega
          obtain ⟨b9, o9, rfl, _, hxc⟩ := (hIS.out wr hbw.out) (by omega)
          have x0 := hxc j hjn
          have hgd : imms.getD j 0 = imms[j] := by rw [List.getD_eq_getElem?_getD, List.getElem?_eq_getElem hjn]; rfl
          have hHj := Lib.hid (hHI.out b9 o9 j imms[j] wr (hIS.out wr hbw.out) hj hi2)
          have hDn := Lib.hid (hDs.out j)
          rw [hDj.out, Bool.false_or, hgd] at hDn
          have hDf := Lib.hid (hDo.out (j + 1) hjn)
          have hDq : Hid (∀ h : DI (j + 1) = true, R = false) := fun h => by rw [hR.out, hDf.out h]; simp
          generalize hD1 : DI (j + 1) = d1 at *
          have hD1h := Lib.hid hD1
          clear hD1 hxc hgd
          generalize hasI (imms.take j) imms[j] = hh at *
          generalize imms[j] = x at *
          cases hh
          · go_wp2_with (fail)
            refine hHj.out.mono ?_
            rintro e w3 ⟨rfl, rfl⟩
            go_wp2
            go_roundw
            case rel => exact ⟨j + 1, hjn, by go_num, by rw [hD1h.out, hDn.out], by first | rfl | trivial⟩
            case measure => simp [intOf]; omega
          · have hF : Hid (R = false) := hDq.out hDn.out
            go_wp2_with (fail)
            refine hHj.out.mono ?_
            rintro e w3 ⟨rfl, rfl⟩
            go_wp2
            go_ret
            exact ⟨by rw [hF.out]; rfl, hbw.out⟩
        · obtain rfl : j = imms.length := by omega
          go_wp2
          go_ret
          exact ⟨by rw [hR.out, hPk.out, hDj.out]; rfl, hbw.out⟩
end Go.Proofs.Ytaaloepoegehkaa

namespace Go.Proofs.Ytaaloepoegehkaa
open Go.RowKit
set_option linter.unusedVariables false
set_option maxRecDepth 100000

theorem isNoWord_any (n : Int) (w : World) :
    Calls Try.prog 114 #[.int .i64 n] w fun e w' => e = .returned (.bool (!isW n)) ∧ w = w' := by
  go_enter Try.func114, Try.ntmps114
  go_wp2_with (go_at_call 137; refine (isWord_any _ _).mono ?_; rintro e w' ⟨rfl, rfl⟩)
  go_ret
  exact ⟨rfl, rfl⟩
def SomeIdxN (xs : List Int) (w : World) (e : Ending) (w' : World) : Prop := ∃ k : Int, e = .returned (.int .i64 k) ∧ decide (0 ≤ k) = !allIn xs 0 63 ∧ w = w'
theorem IndexFuncN_any (L B : Nat) (A : Option Addr) (c : Nat) (xs : List Int) (w : World) (hl : xs.length ≤ 1048576) (hx : IS w L B A xs) :
    Calls Try.prog 181 #[.slice A xs.length c, .func (.func 114) #[] #[]] w (SomeIdxN xs w) := by
  have hX := Lib.hid hx; clear hx
  go_enter Try.func181, Try.ntmps181
  go_wp2
  go_loop [5, 8] (fun _ i => ∃ k : Nat, k ≤ xs.length ∧ i = .int .i64 k ∧ allIn (xs.take k) 0 63 = true) (fun _ i => xs.length - (intOf i).toNat)
  case atStart => exact ⟨0, Nat.zero_le _, rfl, rfl⟩
  case round =>
    obtain ⟨k, hk, rfl, hh⟩ := hrel
    have hH := Lib.hid hh; clear hh
    by_cases hlt : k < xs.length
    · obtain ⟨b, o, rfl, _, hc⟩ := hX.out (by omega)
      have hcell := hc k hlt
      clear hc
      have hS := Lib.hid (allIn_snoc (lo := 0) (hi := 63) hlt)
      generalize xs[k] = x at *
      have hW : Hid (isW x = inR x 0 63) := rfl
      cases hb : isW x
      · have hF : Hid (allIn xs 0 63 = false) := allIn_of (k := k + 1) (by rw [hS.out, ← hW.out, hb]; simp)
        go_wp2_with (go_at_call 114; refine (isNoWord_any _ _).mono ?_; rintro e w' ⟨rfl, rfl⟩)
        go_ret
        exact ⟨k, rfl, by rw [hF.out]; simp, rfl⟩
      · have hb' := Lib.hid hb
        go_wp2_with (go_at_call 114; refine (isNoWord_any _ _).mono ?_; rintro e w' ⟨rfl, rfl⟩)
        go_round
        case rel => exact ⟨k + 1, by omega, by go_num, by rw [hS.out, hH.out, ← hW.out, hb'.out]; rfl⟩
        case measure => simp [intOf]; omega
    · obtain rfl : k = xs.length := by omega
      go_wp2
      go_ret
      exact ⟨-1, rfl, by have := hH.out; rw [List.take_length] at this; rw [this]; rfl, rfl⟩
theorem ContainsFuncN_any (L B : Nat) (A : Option Addr) (c : Nat) (xs : List Int) (w : World) (hl : xs.length ≤ 1048576) (hx : IS w L B A xs) :
    Calls Try.prog 113 #[.slice A xs.length c, .func (.func 114) #[] #[]] w fun e w' => e = .returned (.bool (!allIn xs 0 63)) ∧ w = w' := by
  have H := Lib.hid (IndexFuncN_any L B A c xs w hl hx); clear hx
  go_enter Try.func113, Try.ntmps113
  go_wp2_with (fail)
  refine H.out.mono ?_
  rintro e w' ⟨k, rfl, hk, rfl⟩
  have hK := Lib.hid hk; clear hk
  go_wp2
  go_ret
  exact ⟨ret_bool hK.out, rfl⟩
end Go.Proofs.Ytaaloepoegehkaa

/- Choices: whether one is a choice, the program. -/
namespace Go.Proofs.Ytaaloepoegehkaa
open Go.RowKit
set_option linter.unusedVariables false
set_option maxRecDepth 100000

set_option maxHeartbeats 2000000 in
theorem hasEqualS_any (L B : Nat) (A : Option Addr) (c : Nat) (ss : List ByteArray) (w : World) (hl : ss.length ≤ 1000000) (hx : SS w L B A ss) (hc : ss.length ≤ c) :
    Calls Try.prog 111 #[.slice A ss.length c] w fun e w' => e = .returned (.bool (dupS ss ss.length)) ∧ w = w' := by
  have hX := Lib.hid hx
  have hHS := Lib.hid fun (b o k : Nat) (s : ByteArray) (W : World) (h : SS W L B (some ⟨b, o, none⟩) ss) (hk : k ≤ ss.length) => ContainsS_any L B (some ⟨b, o, none⟩) k c (ss.take k) s W (by rw [List.length_take]; omega) (by rw [List.length_take]; omega) (h.takeC k)
  have hDs := Lib.hid (dupS_succ ss)
  have hDo := Lib.hid fun (k : Nat) (hk : k ≤ ss.length) (h : dupS ss k = true) => dupS_on h hk
  have hD0 : Hid (dupS ss 0 = false) := rfl
  clear hx
  generalize dupS ss = DI at *
  go_enter Try.func111, Try.ntmps111
  go_wp2
  go_loop [7] (fun q => ∃ j : Nat, j ≤ ss.length ∧ q = .int .i64 j ∧ DI j = false) (fun q => ss.length - (intOf q).toNat)
  case atStart => exact ⟨0, Nat.zero_le _, rfl, hD0.out⟩
  case round =>
    obtain ⟨j, hj, rfl, hdj⟩ := hrel
    have hDj := Lib.hid hdj
    clear hdj
    by_cases hjn : j < ss.length
    · have hji : (j : Int) < (ss.length : Int) := by omega
      have hj0 : (0 : Int) ≤ (j : Int) := by omega
      have hjc : (j : Int) ≤ (c : Int) := by omega
      obtain ⟨b9, o9, rfl, _, x0⟩ := SS.at_ hX.out hjn
      have hHj := Lib.hid (hHS.out b9 o9 j ss[j] w hX.out hj)
      have hDn := Lib.hid (hDs.out j)
      rw [hDj.out, Bool.false_or, opAt_eq hjn] at hDn
      have hDf := Lib.hid (hDo.out (j + 1) hjn)
      generalize hD1 : DI (j + 1) = d1 at *
      have hD1h := Lib.hid hD1
      clear hD1
      generalize hasS (ss.take j) ss[j] = hh at *
      generalize ss[j] = x at *
      cases hh
      · go_wp2_with (fail)
        refine hHj.out.mono ?_
        rintro e w3 ⟨rfl, rfl⟩
        go_wp2
        go_round
        case rel => exact ⟨j + 1, hjn, by go_num, by rw [hD1h.out, hDn.out]⟩
        case measure => simp [intOf]; omega
      · have hF := Lib.hid (hDf.out hDn.out)
        go_wp2_with (fail)
        refine hHj.out.mono ?_
        rintro e w3 ⟨rfl, rfl⟩
        go_wp2
        go_ret
        exact ⟨by rw [hF.out]; rfl, rfl⟩
    · obtain rfl : j = ss.length := by omega
      go_wp2
      go_ret
      exact ⟨by rw [hDj.out]; rfl, rfl⟩
set_option maxHeartbeats 2000000 in
theorem hasEqualI_any (L B : Nat) (A : Option Addr) (c : Nat) (xs : List Int) (w : World) (hl : xs.length ≤ 1000000) (hx : IS w L B A xs) (hc : xs.length ≤ c) :
    Calls Try.prog 112 #[.slice A xs.length c] w fun e w' => e = .returned (.bool (dupI xs xs.length)) ∧ w = w' := by
  have hX := Lib.hid hx
  have hHS := Lib.hid fun (b o k : Nat) (n : Int) (W : World) (h : IS W L B (some ⟨b, o, none⟩) xs) (hk : k ≤ xs.length) => Contains_eq L B (some ⟨b, o, none⟩) k c (xs.take k) n W (by rw [List.length_take]; omega) (by rw [List.length_take]; omega) (h.takeC k)
  have hDs := Lib.hid (dupI_succ xs)
  have hDo := Lib.hid fun (k : Nat) (hk : k ≤ xs.length) (h : dupI xs k = true) => dupI_on h hk
  have hD0 : Hid (dupI xs 0 = false) := rfl
  clear hx
  generalize dupI xs = DI at *
  go_enter Try.func112, Try.ntmps112
  go_wp2
  go_loop [7] (fun q => ∃ j : Nat, j ≤ xs.length ∧ q = .int .i64 j ∧ DI j = false) (fun q => xs.length - (intOf q).toNat)
  case atStart => exact ⟨0, Nat.zero_le _, rfl, hD0.out⟩
  case round =>
    obtain ⟨j, hj, rfl, hdj⟩ := hrel
    have hDj := Lib.hid hdj
    clear hdj
    by_cases hjn : j < xs.length
    · have hji : (j : Int) < (xs.length : Int) := by omega
      have hj0 : (0 : Int) ≤ (j : Int) := by omega
      have hjc : (j : Int) ≤ (c : Int) := by omega
      obtain ⟨b9, o9, rfl, _, hxc⟩ := hX.out (by omega)
      have x0 := hxc j hjn
      have hgd : xs.getD j 0 = xs[j] := by rw [List.getD_eq_getElem?_getD, List.getElem?_eq_getElem hjn]; rfl
      have hHj := Lib.hid (hHS.out b9 o9 j xs[j] w hX.out hj)
      have hDn := Lib.hid (hDs.out j)
      rw [hDj.out, Bool.false_or, hgd] at hDn
      have hDf := Lib.hid (hDo.out (j + 1) hjn)
      generalize hD1 : DI (j + 1) = d1 at *
      have hD1h := Lib.hid hD1
      clear hD1 hxc hgd
      generalize hasI (xs.take j) xs[j] = hh at *
      generalize xs[j] = x at *
      cases hh
      · go_wp2_with (fail)
        refine hHj.out.mono ?_
        rintro e w3 ⟨rfl, rfl⟩
        go_wp2
        go_round
        case rel => exact ⟨j + 1, hjn, by go_num, by rw [hD1h.out, hDn.out]⟩
        case measure => simp [intOf]; omega
      · have hF := Lib.hid (hDf.out hDn.out)
        go_wp2_with (fail)
        refine hHj.out.mono ?_
        rintro e w3 ⟨rfl, rfl⟩
        go_wp2
        go_ret
        exact ⟨by rw [hF.out]; rfl, rfl⟩
    · obtain rfl : j = xs.length := by omega
      go_wp2
      go_ret
      exact ⟨by rw [hDj.out]; rfl, rfl⟩
def opQ (ss : List ByteArray) (imms : List Int) (q : Nat) : Bool := (fm (opAt ss q)).ok && immOk imms (fm (opAt ss q))
def opsQ (ss : List ByteArray) (imms : List Int) (k : Nat) : Bool := (List.range k).all (opQ ss imms)
theorem opsQ_succ (ss : List ByteArray) (imms : List Int) (k : Nat) : opsQ ss imms (k + 1) = (opsQ ss imms k && opQ ss imms k) := by
  unfold opsQ; rw [List.range_succ, List.all_append]; simp
theorem opsQ_off {ss : List ByteArray} {imms : List Int} {k : Nat} (h : opsQ ss imms k = false) : ∀ {n}, k ≤ n → opsQ ss imms n = false
  | 0, hn => by obtain rfl : k = 0 := by omega
                exact h
  | n + 1, hn => by
    rcases Nat.lt_or_ge n k with h1 | h1
    · obtain rfl : k = n + 1 := by omega
      exact h
    · rw [opsQ_succ, opsQ_off h h1]; rfl
theorem opsP_eq (ss : List ByteArray) (imms : List Int) : ∀ k, opsP ss imms k = (opsQ ss imms k && !dupS ss k)
  | 0 => rfl
  | k + 1 => by
    rw [opsP_succ, opsQ_succ, dupS_succ, opsP_eq ss imms k]
    unfold opOk opQ
    generalize (fm (opAt ss k)).ok = a
    generalize immOk imms (fm (opAt ss k)) = b
    generalize hasS (ss.take k) (opAt ss k) = d
    generalize opsQ ss imms k = q
    generalize dupS ss k = r
    cases a <;> cases b <;> cases d <;> cases q <;> cases r <;> rfl
set_option maxHeartbeats 8000000 in
theorem iIsChoice_any (L B : Nat) (A1 A2 : Option Addr) (c1 c2 : Nat) (ss : List ByteArray) (imms : List Int) (w : World) (hl1 : ss.length ≤ 1048576) (hl2 : imms.length ≤ 1048576) (h1 : SS w L B A1 ss) (h2 : IS w L B A2 imms) (hB : B ≤ w.heap.size) (hc1 : ss.length ≤ c1) (hc2 : imms.length ≤ c2) :
    Calls Try.prog 50 #[.agg #[.slice A1 ss.length c1, .slice A2 imms.length c2]] w fun e w' => e = .returned (.bool (choB ss imms)) ∧ Below w.heap.size w w' := by
  have hSS := Lib.hid fun (W : World) (hW : Below w.heap.size w W) => (RS.below h1 hW hB : SS W L B A1 ss)
  have hAI := Lib.hid fun (f : Fm) (W : World) (hW : Below w.heap.size w W) => areImmsOf_any f L B A2 c2 imms W hl2 (h2.below hW hB) (Nat.le_trans hB hW.size)
  have hES := Lib.hid fun (W : World) (hW : Below w.heap.size w W) (h4 : ss.length ≤ 4) => hasEqualS_any L B A1 c1 ss W (by omega) (RS.below h1 hW hB) hc1
  have hEI := Lib.hid fun (W : World) (hW : Below w.heap.size w W) (h4 : imms.length ≤ 2) => hasEqualI_any L B A2 c2 imms W (by omega) (h2.below hW hB) hc2
  have hCF := Lib.hid fun (W : World) (hW : Below w.heap.size w W) (h4 : imms.length ≤ 2) => ContainsFuncN_any L B A2 c2 imms W (by omega) (h2.below hW hB)
  have hFo := Lib.hid fun (s : ByteArray) (W : World) => formOf_any s W
  have hD : Hid (choB ss imms = (inR (ss.length : Int) 1 4 && decide (imms.length ≤ 2) && allIn imms 0 63 && (opsQ ss imms ss.length && !dupS ss ss.length) && !dupI imms imms.length)) := by rw [Hid, ← opsP_eq]; rfl
  have hPs := Lib.hid (opsQ_succ ss imms)
  have hPo := Lib.hid fun (k : Nat) (hk : k ≤ ss.length) (h : opsQ ss imms k = false) => opsQ_off h hk
  have hP0 : Hid (opsQ ss imms 0 = true) := rfl
  have hOk : Hid (∀ q (h : q < ss.length), opQ ss imms q = ((fm ss[q]).ok && immOk imms (fm ss[q]))) := fun q h => by unfold opQ; rw [opAt_eq h]
  have hbx := Lib.hid ((Below.refl w.heap.size w).alloc (Nat.le_refl _) (.cells #[.slice A1 ss.length c1, .slice A2 imms.length c2] 65))
  have hX := Lib.hid (dx_new 65 w (.slice A1 ss.length c1) (.slice A2 imms.length c2))
  clear h1 h2 hB
  generalize choB ss imms = R at *
  generalize opsQ ss imms = P at *
  generalize opQ ss imms = O at *
  generalize dupI imms imms.length = DI at *
  generalize dupS ss ss.length = DS at *
  obtain ⟨k0, k1⟩ := hX.out.cells
  obtain ⟨W1, hW1⟩ : ∃ W1, W1 = w.alloc (.cells #[.slice A1 ss.length c1, .slice A2 imms.length c2] 65) := ⟨_, rfl⟩
  rw [← hW1] at hbx hX
  have e1 := Lib.hid hW1
  clear hW1
  by_cases hn1 : 1 ≤ ss.length
  rotate_left
  · have hF : Hid (R = false) := by rw [Hid, hD.out, show inR (ss.length : Int) 1 4 = false from by unfold inR; rw [decide_eq_false (by omega)]; rfl]; rfl
    have hd : decide ((ss.length : Int) < 1) = true := decide_eq_true (by omega)
    go_enter Try.func50, Try.ntmps50
    go_wp2
    all_goals
      go_ret
      exact ⟨by rw [hF.out]; rfl, by first | exact hbx.out | (rw [e1.out] at hbx; exact hbx.out) | (rw [← e1.out]; exact hbx.out)⟩
  have hd1 : decide ((ss.length : Int) < 1) = false := decide_eq_false (by omega)
  by_cases hn2 : ss.length ≤ 4
  rotate_left
  · have hF : Hid (R = false) := by rw [Hid, hD.out, show inR (ss.length : Int) 1 4 = false from by unfold inR; rw [decide_eq_false (by omega : ¬ (ss.length : Int) ≤ 4)]; simp]; rfl
    have hd : decide ((4 : Int) < (ss.length : Int)) = true := decide_eq_true (by omega)
    go_enter Try.func50, Try.ntmps50
    go_wp2
    all_goals
      go_ret
      exact ⟨by rw [hF.out]; rfl, by first | exact hbx.out | (rw [e1.out] at hbx; exact hbx.out) | (rw [← e1.out]; exact hbx.out)⟩
  have hd2 : decide ((4 : Int) < (ss.length : Int)) = false := decide_eq_false (by omega)
  by_cases hi2 : imms.length ≤ 2
  rotate_left
  · have hF : Hid (R = false) := by rw [Hid, hD.out, decide_eq_false hi2]; simp
    have hd : decide ((2 : Int) < (imms.length : Int)) = true := decide_eq_true (by omega)
    go_enter Try.func50, Try.ntmps50
    go_wp2
    all_goals
      go_ret
      exact ⟨by rw [hF.out]; rfl, by first | exact hbx.out | (rw [← e1.out]; exact hbx.out)⟩
  have hd3 : decide ((2 : Int) < (imms.length : Int)) = false := decide_eq_false (by omega)
  have hR : Hid (R = (P ss.length && !DS && !DI && allIn imms 0 63)) := by
    rw [Hid, hD.out, decide_eq_true hi2, show inR (ss.length : Int) 1 4 = true from (inR_iff _ _ _).2 (by omega)]
    generalize P ss.length = p
    generalize allIn imms 0 63 = a
    cases p <;> cases a <;> cases DS <;> cases DI <;> rfl
  clear hD
  go_enter Try.func50, Try.ntmps50
  go_wp2_with (fail)
  rw [← e1.out]
  clear k0 k1 hd1 hd2 hd3
  go_loopw [26] (fun q wr => ∃ k : Nat, k ≤ ss.length ∧ q = .int .i64 k ∧ P k = true ∧ Below W1.heap.size W1 wr) (fun q _ => ss.length - (intOf q).toNat)
  case atStart => exact ⟨0, Nat.zero_le _, rfl, hP0.out, Below.refl _ _⟩
  case round =>
    obtain ⟨k, hk, rfl, hp, hbel⟩ := hrel
    have hBL := Lib.hid hbel
    have hPk := Lib.hid hp
    clear hbel hp
    have hbw := Lib.hid (hbx.out.trans (hBL.out.mono hbx.out.size))
    have hxr := Lib.hid (hX.out.next hBL.out)
    by_cases hlt : k < ss.length
    · have hki : (k : Int) < (ss.length : Int) := by omega
      have hk0 : (0 : Int) ≤ (k : Int) := by omega
      obtain ⟨b9, o9, rfl, _, x0⟩ := SS.at_ (hSS.out wr hbw.out) hlt
      have hPn := Lib.hid (hPs.out k)
      rw [hPk.out, Bool.true_and, hOk.out k hlt] at hPn
      have hPf := Lib.hid (hPo.out (k + 1) hlt)
      have hPq : Hid (∀ h : P (k + 1) = false, R = false) := fun h => by rw [hR.out, hPf.out h]; rfl
      have hFs := Lib.hid (hFo.out ss[k] wr)
      generalize hP1 : P (k + 1) = p1 at *
      have hP1h := Lib.hid hP1
      clear hP1
      generalize ss[k] = s at *
      generalize fm s = f at *
      have hAf := Lib.hid (hAI.out f)
      generalize immOk imms f = io at *
      obtain ⟨ok, fa, fb, flo, fhi, fc⟩ := f
      unfold fmV at hFs hAf
      dsimp only at hFs hPn hAf
      go_wp2_with (fail)
      refine hFs.out.mono ?_
      rintro e w3 ⟨rfl, hb3⟩
      have ha := (Below.refl w3.heap.size w3).alloc (Nat.le_refl _) (.cells #[.bool fa, .bool fb, .int .i64 flo, .int .i64 fhi, .int .i64 fc] 117)
      have hb4 := hb3.trans (ha.mono hb3.size)
      have hb4w := Lib.hid (hbw.out.trans (hb4.mono hbw.out.size))
      have hb41 := Lib.hid (hBL.out.trans (hb4.mono hBL.out.size))
      have hx4 := hxr.out.next hb4
      obtain ⟨k0, k1⟩ := hx4.cells
      clear hb3 ha hb4 hx4 x0
      cases ok
      · have hF : Hid (R = false) := hPq.out (by rw [hPn.out]; rfl)
        go_wp2
        go_ret
        exact ⟨by rw [hF.out]; rfl, hb4w.out⟩
      · have hAf4 := Lib.hid (hAf.out _ hb4w.out)
        go_wp2_with (fail)
        refine hAf4.out.mono ?_
        rintro e w5 ⟨rfl, hb5⟩
        have hb5w := Lib.hid (hb4w.out.trans (hb5.mono hb4w.out.size))
        have hb51 := Lib.hid (hb41.out.trans (hb5.mono hb41.out.size))
        clear hb5 k0 k1
        cases io
        · have hF : Hid (R = false) := hPq.out (by rw [hPn.out]; rfl)
          go_wp2
          go_ret
          exact ⟨by rw [hF.out]; rfl, hb5w.out⟩
        · have hT : Hid (p1 = true) := by rw [Hid, hPn.out]; rfl
          go_wp2
          go_roundw
          case rel => exact ⟨k + 1, hlt, by go_num, by rw [hP1h.out]; exact hT.out, hb51.out⟩
          case measure => simp [intOf]; omega
    · obtain rfl : k = ss.length := by omega
      rw [hPk.out] at hR
      have hES1 := Lib.hid (hES.out wr hbw.out hn2)
      have hEI1 := Lib.hid (hEI.out wr hbw.out hi2)
      have hCF1 := Lib.hid (hCF.out wr hbw.out hi2)
      generalize allIn imms 0 63 = ai at *
      obtain ⟨k0, k1⟩ := hxr.out.cells
      cases DS
      · cases DI
        · go_wp2_with (fail)
          refine hES1.out.mono ?_
          rintro e w3 ⟨rfl, rfl⟩
          go_wp2_with (fail)
          refine hEI1.out.mono ?_
          rintro e w3 ⟨rfl, rfl⟩
          go_wp2_with (fail)
          refine hCF1.out.mono ?_
          rintro e w3 ⟨rfl, rfl⟩
          go_wp2
          go_ret
          exact ⟨by rw [hR.out]; cases ai <;> rfl, hbw.out⟩
        · go_wp2_with (fail)
          refine hES1.out.mono ?_
          rintro e w3 ⟨rfl, rfl⟩
          go_wp2_with (fail)
          refine hEI1.out.mono ?_
          rintro e w3 ⟨rfl, rfl⟩
          go_wp2
          go_ret
          exact ⟨by rw [hR.out]; rfl, hbw.out⟩
      · go_wp2_with (fail)
        refine hES1.out.mono ?_
        rintro e w3 ⟨rfl, rfl⟩
        go_wp2
        go_ret
        exact ⟨by rw [hR.out]; rfl, hbw.out⟩
theorem sIsChoice_k (L B : Nat) (A1 A2 : Option Addr) (c1 c2 : Nat) (ss : List ByteArray) (imms : List Int) (w : World) (hl1 : ss.length ≤ 1048576) (hl2 : imms.length ≤ 1048576) (h1 : SS w L B A1 ss) (h2 : IS w L B A2 imms) (hB : B ≤ w.heap.size) (hc1 : ss.length ≤ c1) (hc2 : imms.length ≤ c2) :
    Calls Try.prog 48 #[.agg #[.slice A1 ss.length c1, .slice A2 imms.length c2]] w (ResIsChoice (choB ss imms) w) := by
  have hbx := Lib.hid ((Below.refl w.heap.size w).alloc (Nat.le_refl _) (.cells #[.slice A1 ss.length c1, .slice A2 imms.length c2] 65))
  have H := Lib.hid (suGood_any L B A1 A2 c1 c2 ss imms (w.alloc (.cells #[.slice A1 ss.length c1, .slice A2 imms.length c2] 65)) hl1 hl2 (RS.below h1 hbx.out hB) (h2.below hbx.out hB) (Nat.le_trans hB hbx.out.size) hc1 hc2)
  have x1 := Lib.hid (dx_new 65 w (.slice A1 ss.length c1) (.slice A2 imms.length c2))
  clear h1 h2 hB
  generalize choB ss imms = R at *
  obtain ⟨k0, k1⟩ := x1.out.cells
  go_enter Try.func48, Try.ntmps48
  go_wp2_with (fail)
  refine H.out.mono ?_
  rintro e w2 ⟨rfl, hbel⟩
  have b2 := Lib.hid (hbx.out.trans (hbel.mono hbx.out.size))
  clear hbel k0 k1
  go_wp2
  go_ret
  exact ⟨rfl, b2.out⟩
end Go.Proofs.Ytaaloepoegehkaa

/- Arguments of the types []laws.Instr, laws.Instr and []int opened. -/
namespace Go.Proofs.Ytaaloepoegehkaa
open Go.ChangeShapes Go.WideShapes Go.ChangeAt Go.RowKit Go.Deep
open Go.ChangeMaps (open_string shut_string)
set_option linter.unusedVariables false

theorem cellsIn : Try.prog.cellsOf 82 = 5 := by kernel_rfl
theorem cellsStr : Try.prog.cellsOf 9 = 1 := by kernel_rfl
theorem cellsInt : Try.prog.cellsOf 3 = 1 := by kernel_rfl

set_option maxRecDepth 100000 in
theorem in_of_trod {H : Type} {enc : TypeId × Value → H} {w : World} {base : Nat} {spare : Nat → Bool} {held : Bool} {n : Nat} {cs : List Value} {x : DataW H × List MemPlace}
    (h : DataW.trod enc Try.prog w base spare held n 82 cs = some x) : ∃ nd : In, cs = nd.enc ∧ nd.op.size ≤ maxLen := by
  obtain ⟨xs, m, _, _, hlen, hxl, hf⟩ := DataW.trod_struct Try.underlying82 h
  rw [cellsIn] at hlen
  match cs, hlen with
  | [c0, c1, c2, c3, c4], _ =>
    match xs, hxl with
    | [y0, y1, y2, y3, y4], _ =>
      have h0 := hf 0 _ rfl
      change DataW.trod enc Try.prog w base spare held m 9 (([c0, c1, c2, c3, c4].drop 0).take (Try.prog.cellsOf 9)) = _ at h0
      rw [cellsStr] at h0
      have h1 := hf 1 _ rfl
      change DataW.trod enc Try.prog w base spare held m 3 (([c0, c1, c2, c3, c4].drop 1).take (Try.prog.cellsOf 3)) = _ at h1
      rw [cellsInt] at h1
      have h2 := hf 2 _ rfl
      change DataW.trod enc Try.prog w base spare held m 3 (([c0, c1, c2, c3, c4].drop 2).take (Try.prog.cellsOf 3)) = _ at h2
      rw [cellsInt] at h2
      have h3 := hf 3 _ rfl
      change DataW.trod enc Try.prog w base spare held m 3 (([c0, c1, c2, c3, c4].drop 3).take (Try.prog.cellsOf 3)) = _ at h3
      rw [cellsInt] at h3
      have h4 := hf 4 _ rfl
      change DataW.trod enc Try.prog w base spare held m 3 (([c0, c1, c2, c3, c4].drop 4).take (Try.prog.cellsOf 3)) = _ at h4
      rw [cellsInt] at h4
      obtain ⟨s, e0, _, hs⟩ := DataW.trod_string Try.underlying9 h0
      obtain ⟨d, e1, _, _⟩ := DataW.trod_int Try.underlying3 h1
      obtain ⟨a, e2, _, _⟩ := DataW.trod_int Try.underlying3 h2
      obtain ⟨b, e3, _, _⟩ := DataW.trod_int Try.underlying3 h3
      obtain ⟨m, e4, _, _⟩ := DataW.trod_int Try.underlying3 h4
      have e0 : c0 = .string s := by simpa using e0
      have e1 : c1 = .int .i64 d := by simpa using e1
      have e2 : c2 = .int .i64 a := by simpa using e2
      have e3 : c3 = .int .i64 b := by simpa using e3
      have e4 : c4 = .int .i64 m := by simpa using e4
      exact ⟨⟨s, d, a, b, m⟩, by rw [e0, e1, e2, e3, e4]; rfl, hs⟩

theorem cell_lt_heap {w : World} {a : Addr} {v : Value} (h : w.cell? a = some v) : a.block < w.heap.size := by
  rcases Nat.lt_or_ge a.block w.heap.size with hlt | hge
  · exact hlt
  · unfold World.cell? at h; rw [Array.getElem?_eq_none hge] at h; simp at h

set_option maxRecDepth 100000 in
theorem x_of_trod {H : Type} {enc : TypeId × Value → H} {w : World} {r : Reach} {b0 : Nat} {spare : Nat → Bool} {held : Bool} {v : Value} {d : DataW H} {p : List MemPlace}
    (hv : Value.okWide Try.prog w r b0 82 v) (h : DataW.Trod enc Try.prog w 0 spare held 82 v d p) :
    ∃ x : In, v = .agg #[.string x.op, .int .i64 x.d, .int .i64 x.a, .int .i64 x.b, .int .i64 x.m] ∧ x.op.size ≤ 9223372036854775807 := by
  obtain ⟨cs, rfl, hsz⟩ := okWide_struct Try.underlying82 hv
  obtain ⟨fuel, hf⟩ := h
  obtain ⟨x, hx, hs⟩ := in_of_trod hf
  refine ⟨x, ?_, by unfold maxLen at hs; omega⟩
  obtain ⟨l⟩ := cs
  have hx' : l = x.enc := by simpa [Value.cells] using hx
  subst hx'; rfl

set_option maxRecDepth 100000 in
theorem ins_of_trod {H : Type} {enc : TypeId × Value → H} {w : World} {spare : Nat → Bool} {held : Bool} {A : Option Addr} {len cap : Nat} {d : DataW H} {p : List MemPlace}
    (h : DataW.Trod enc Try.prog w 0 spare held 22 (.slice A len cap) d p) :
    ∃ es : List In, es.length = len ∧ RS In.enc 5 w 0 w.heap.size A es ∧ (∀ n ∈ es, n.op.size ≤ 9223372036854775807) ∧ len ≤ 9223372036854775807 := by
  obtain ⟨fuel, hf⟩ := h
  rcases open_slice Try.underlying22 hf with ⟨hcs, _⟩ | ⟨a, l, c, m, n, D, Pl, hcs, _, hl, hm, hmm, _, hi⟩
  · simp [Value.cells] at hcs
    obtain ⟨rfl, rfl, rfl⟩ := hcs
    exact ⟨[], rfl, fun h => absurd h (by simp), (fun n hn => by cases hn), by omega⟩
  · simp [Value.cells] at hcs
    obtain ⟨rfl, rfl, rfl⟩ := hcs
    have hlm : len ≤ m := by rw [hmm]; split <;> omega
    have hex : ∀ i, i < len → ∃ nd : In, (∀ j v, nd.enc[j]? = some v → w.cell? (a.add (i * 5 + j)) = some v) ∧ nd.op.size ≤ maxLen := by
      intro i hil
      obtain ⟨cs', hc, ht⟩ := hi i (by omega)
      rw [cellsIn] at hc
      obtain ⟨nd, rfl, hs⟩ := in_of_trod ht
      obtain ⟨_, _, hat⟩ := World.cells?_some hc
      refine ⟨nd, fun j v hv => ?_, hs⟩
      have hj : j < 5 := kflat_lt In.hk hv
      have := hat j hj
      rw [add_add, hv] at this; exact this
    obtain ⟨f, hf2⟩ := Classical.axiomOfChoice (fun i : {i // i < len} => hex i.1 i.2)
    have hget : ∀ i (h : i < (List.ofFn fun i : Fin len => f ⟨i.1, i.2⟩).length), (List.ofFn fun i : Fin len => f ⟨i.1, i.2⟩)[i] = f ⟨i, by simpa using h⟩ := fun i h => by simp
    refine ⟨List.ofFn fun i : Fin len => f ⟨i.1, i.2⟩, by simp, ?_, ?_, by unfold maxLen at hm; omega⟩
    · intro hpos
      have hpos' : 0 < len := by simpa using hpos
      have h0 := (hf2 ⟨0, hpos'⟩).1 0 _ rfl
      obtain ⟨b, o, spot⟩ := a
      have hspot : spot = none := by have := World.cell?_spot h0; simpa [Addr.add] using this
      subst hspot
      have hadd : ∀ k, (⟨b, o, none⟩ : Addr).add k = ⟨b, o + k, none⟩ := fun k => by simp [Addr.add]
      refine ⟨b, o, rfl, ⟨Nat.zero_le _, ?_⟩, fun i hi j v hv => ?_⟩
      · rw [hadd] at h0
        exact cell_lt_heap h0
      · have hi' : i < len := by simpa using hi
        rw [hget i hi] at hv
        have := (hf2 ⟨i, hi'⟩).1 j v hv
        simp only [hadd, ← Nat.add_assoc] at this
        exact this
    · intro n hn
      obtain ⟨i, rfl⟩ := List.mem_ofFn.1 hn
      have := (hf2 ⟨i.1, i.2⟩).2
      unfold maxLen at this; omega

set_option maxRecDepth 100000 in
theorem ints_of_trod {H : Type} {enc : TypeId × Value → H} {w : World} {spare : Nat → Bool} {held : Bool} {A : Option Addr} {len cap : Nat} {d : DataW H} {p : List MemPlace}
    (h : DataW.Trod enc Try.prog w 0 spare held 34 (.slice A len cap) d p) :
    ∃ xs : List Int, xs.length = len ∧ IS w 0 w.heap.size A xs ∧ len ≤ 9223372036854775807 := by
  obtain ⟨fuel, hf⟩ := h
  rcases open_slice Try.underlying34 hf with ⟨hcs, _⟩ | ⟨a, l, c, m, n, D, Pl, hcs, _, hl, hm, hmm, _, hi⟩
  · simp [Value.cells] at hcs
    obtain ⟨rfl, rfl, rfl⟩ := hcs
    exact ⟨[], rfl, fun h => absurd h (by simp), by omega⟩
  · simp [Value.cells] at hcs
    obtain ⟨rfl, rfl, rfl⟩ := hcs
    have hlm : len ≤ m := by rw [hmm]; split <;> omega
    have hex : ∀ i, i < len → ∃ x : Int, w.cell? (a.add i) = some (.int .i64 x) := by
      intro i hil
      obtain ⟨cs', hc, ht⟩ := hi i (by omega)
      rw [cellsInt, Nat.mul_one] at hc
      obtain ⟨x, hx, _, _⟩ := DataW.trod_int Try.underlying3 ht
      obtain ⟨_, _, hat⟩ := World.cells?_some hc
      have := hat 0 (by omega)
      rw [add_add, hx] at this
      exact ⟨x, by simpa using this⟩
    obtain ⟨f, hf2⟩ := Classical.axiomOfChoice (fun i : {i // i < len} => hex i.1 i.2)
    have hget : ∀ i (h : i < (List.ofFn fun i : Fin len => f ⟨i.1, i.2⟩).length), (List.ofFn fun i : Fin len => f ⟨i.1, i.2⟩)[i] = f ⟨i, by simpa using h⟩ := fun i h => by simp
    refine ⟨List.ofFn fun i : Fin len => f ⟨i.1, i.2⟩, by simp, ?_, by unfold maxLen at hm; omega⟩
    intro hpos
    have hpos' : 0 < len := by simpa using hpos
    have h0 := hf2 ⟨0, hpos'⟩
    obtain ⟨b, o, spot⟩ := a
    have hspot : spot = none := by have := World.cell?_spot h0; simpa [Addr.add] using this
    subst hspot
    have hadd : ∀ k, (⟨b, o, none⟩ : Addr).add k = ⟨b, o + k, none⟩ := fun k => by simp [Addr.add]
    refine ⟨b, o, rfl, ⟨Nat.zero_le _, ?_⟩, fun i hi => ?_⟩
    · rw [hadd] at h0
      exact cell_lt_heap h0
    · have hi' : i < len := by simpa using hi
      rw [hget i hi]
      have := hf2 ⟨i, hi'⟩
      simp only [hadd] at this
      exact this
end Go.Proofs.Ytaaloepoegehkaa

/- An argument of type []laws.Node opened as a list of nodes. -/
namespace Go.Proofs.Ytaaloepoegehkaa
open Go.ChangeShapes Go.WideShapes Go.ChangeAt Go.RowKit Go.Deep
open Go.ChangeMaps (open_string shut_string)
set_option linter.unusedVariables false
set_option maxRecDepth 100000

theorem cellsNode : Try.prog.cellsOf 171 = 4 := by kernel_rfl

theorem node_of_trod {H : Type} {enc : TypeId × Value → H} {w : World} {base : Nat} {spare : Nat → Bool} {held : Bool} {n : Nat} {cs : List Value} {x : DataW H × List MemPlace}
    (h : DataW.trod enc Try.prog w base spare held n 171 cs = some x) : ∃ nd : Nd, cs = nd.cells ∧ nd.op.size ≤ maxLen := by
  obtain ⟨xs, m, _, _, hlen, hxl, hf⟩ := DataW.trod_struct Try.underlying171 h
  rw [cellsNode] at hlen
  match cs, hlen with
  | [c0, c1, c2, c3], _ =>
    match xs, hxl with
    | [y0, y1, y2, y3], _ =>
      have h0 := hf 0 _ rfl
      change DataW.trod enc Try.prog w base spare held m 9 (([c0, c1, c2, c3].drop 0).take (Try.prog.cellsOf 9)) = _ at h0
      rw [cellsStr] at h0
      have h1 := hf 1 _ rfl
      change DataW.trod enc Try.prog w base spare held m 3 (([c0, c1, c2, c3].drop 1).take (Try.prog.cellsOf 3)) = _ at h1
      rw [cellsInt] at h1
      have h2 := hf 2 _ rfl
      change DataW.trod enc Try.prog w base spare held m 3 (([c0, c1, c2, c3].drop 2).take (Try.prog.cellsOf 3)) = _ at h2
      rw [cellsInt] at h2
      have h3 := hf 3 _ rfl
      change DataW.trod enc Try.prog w base spare held m 3 (([c0, c1, c2, c3].drop 3).take (Try.prog.cellsOf 3)) = _ at h3
      rw [cellsInt] at h3
      obtain ⟨s, e0, _, hs⟩ := DataW.trod_string Try.underlying9 h0
      obtain ⟨a, e1, _, _⟩ := DataW.trod_int Try.underlying3 h1
      obtain ⟨b, e2, _, _⟩ := DataW.trod_int Try.underlying3 h2
      obtain ⟨v, e3, _, _⟩ := DataW.trod_int Try.underlying3 h3
      have e0 : c0 = .string s := by simpa using e0
      have e1 : c1 = .int .i64 a := by simpa using e1
      have e2 : c2 = .int .i64 b := by simpa using e2
      have e3 : c3 = .int .i64 v := by simpa using e3
      exact ⟨⟨s, a, b, v⟩, by rw [e0, e1, e2, e3]; rfl, hs⟩

theorem nodes_of_trod_ns {H : Type} {enc : TypeId × Value → H} {w : World} {spare : Nat → Bool} {held : Bool} {A : Option Addr} {len cap : Nat} {d : DataW H} {p : List MemPlace}
    (h : DataW.Trod enc Try.prog w 0 spare held 53 (.slice A len cap) d p) :
    ∃ es : List Nd, es.length = len ∧ NS w 0 w.heap.size A es ∧ (∀ n ∈ es, n.op.size ≤ 9223372036854775807) ∧ len ≤ 9223372036854775807 := by
  obtain ⟨fuel, hf⟩ := h
  rcases open_slice Try.underlying53 hf with ⟨hcs, _⟩ | ⟨a, l, c, m, n, D, Pl, hcs, _, hl, hm, hmm, _, hi⟩
  · simp [Value.cells] at hcs
    obtain ⟨rfl, rfl, rfl⟩ := hcs
    exact ⟨[], rfl, fun h => absurd h (by simp), (fun n hn => by cases hn), by omega⟩
  · simp [Value.cells] at hcs
    obtain ⟨rfl, rfl, rfl⟩ := hcs
    have hlm : len ≤ m := by rw [hmm]; split <;> omega
    have hex : ∀ i, i < len → ∃ nd : Nd, (w.cell? (a.add (i * 4)) = some (.string nd.op) ∧ w.cell? (a.add (i * 4 + 1)) = some (.int .i64 nd.a) ∧ w.cell? (a.add (i * 4 + 2)) = some (.int .i64 nd.b) ∧ w.cell? (a.add (i * 4 + 3)) = some (.int .i64 nd.v)) ∧ nd.op.size ≤ maxLen := by
      intro i hil
      obtain ⟨cs', hc, ht⟩ := hi i (by omega)
      rw [cellsNode] at hc
      obtain ⟨nd, rfl, hs⟩ := node_of_trod ht
      obtain ⟨_, _, hat⟩ := World.cells?_some hc
      refine ⟨nd, ⟨?_, ?_, ?_, ?_⟩, hs⟩
      · have := hat 0 (by omega); rw [add_add] at this; exact this
      · have := hat 1 (by omega); rw [add_add] at this; exact this
      · have := hat 2 (by omega); rw [add_add] at this; exact this
      · have := hat 3 (by omega); rw [add_add] at this; exact this
    obtain ⟨f, hf2⟩ := Classical.axiomOfChoice (fun i : {i // i < len} => hex i.1 i.2)
    have hget : ∀ i (h : i < (List.ofFn fun i : Fin len => f ⟨i.1, i.2⟩).length), (List.ofFn fun i : Fin len => f ⟨i.1, i.2⟩)[i] = f ⟨i, by simpa using h⟩ := fun i h => by simp
    refine ⟨List.ofFn fun i : Fin len => f ⟨i.1, i.2⟩, by simp, ?_, ?_, by unfold maxLen at hm; omega⟩
    · intro hpos
      have hpos' : 0 < len := by simpa using hpos
      have h0 := (hf2 ⟨0, hpos'⟩).1.1
      obtain ⟨b, o, spot⟩ := a
      have hspot : spot = none := by have := World.cell?_spot h0; simpa [Addr.add] using this
      subst hspot
      have hadd : ∀ k, (⟨b, o, none⟩ : Addr).add k = ⟨b, o + k, none⟩ := fun k => by simp [Addr.add]
      refine ⟨b, o, rfl, ⟨Nat.zero_le _, ?_⟩, fun i hi => ?_⟩
      · rw [hadd] at h0
        exact cell_lt_heap h0
      · have hi' : i < len := by simpa using hi
        rw [hget i hi]
        have := (hf2 ⟨i, hi'⟩).1
        simp only [hadd, ← Nat.add_assoc] at this
        exact this
    · intro n hn
      obtain ⟨i, rfl⟩ := List.mem_ofFn.1 hn
      have := (hf2 ⟨i.1, i.2⟩).2
      unfold maxLen at this; omega
theorem nodes_of_trod {H : Type} {enc : TypeId × Value → H} {w : World} {spare : Nat → Bool} {held : Bool} {A : Option Addr} {len cap : Nat} {d : DataW H} {p : List MemPlace}
    (h : DataW.Trod enc Try.prog w 0 spare held 53 (.slice A len cap) d p) :
    ∃ es : List Nd, es.length = len ∧ RS Nd.enc 4 w 0 w.heap.size A es ∧ (∀ n ∈ es, n.op.size ≤ 9223372036854775807) ∧ len ≤ 9223372036854775807 := by
  obtain ⟨es, h1, h2, h3⟩ := nodes_of_trod_ns h
  exact ⟨es, h1, h2.rs, h3⟩
end Go.Proofs.Ytaaloepoegehkaa

/- An argument of type laws.Choice opened. -/
namespace Go.Proofs.Ytaaloepoegehkaa
open Go.ChangeShapes Go.WideShapes Go.ChangeAt Go.RowKit Go.Deep
open Go.ChangeMaps (open_string shut_string)
set_option linter.unusedVariables false
set_option maxRecDepth 100000

theorem strs_of_trod {H : Type} {enc : TypeId × Value → H} {w : World} {spare : Nat → Bool} {held : Bool} {A : Option Addr} {len cap : Nat} {d : DataW H} {p : List MemPlace}
    (h : DataW.Trod enc Try.prog w 0 spare held 60 (.slice A len cap) d p) :
    ∃ ss : List ByteArray, ss.length = len ∧ SS w 0 w.heap.size A ss ∧ (∀ s ∈ ss, s.size ≤ 9223372036854775807) ∧ len ≤ 9223372036854775807 := by
  obtain ⟨fuel, hf⟩ := h
  rcases open_slice Try.underlying60 hf with ⟨hcs, _⟩ | ⟨a, l, c, m, n, D, Pl, hcs, _, hl, hm, hmm, _, hi⟩
  · simp [Value.cells] at hcs
    obtain ⟨rfl, rfl, rfl⟩ := hcs
    exact ⟨[], rfl, fun h => absurd h (by simp), by simp, by omega⟩
  · simp [Value.cells] at hcs
    obtain ⟨rfl, rfl, rfl⟩ := hcs
    have hlm : len ≤ m := by rw [hmm]; split <;> omega
    have hex : ∀ i, i < len → ∃ x : ByteArray, w.cell? (a.add i) = some (.string x) ∧ x.size ≤ 9223372036854775807 := by
      intro i hil
      obtain ⟨cs', hc, ht⟩ := hi i (by omega)
      rw [cellsStr, Nat.mul_one] at hc
      obtain ⟨x, hx, _, hs⟩ := DataW.trod_string Try.underlying9 ht
      obtain ⟨_, _, hat⟩ := World.cells?_some hc
      have := hat 0 (by omega)
      rw [add_add, hx] at this
      exact ⟨x, by simpa using this, by unfold maxLen at hs; omega⟩
    obtain ⟨f, hf2⟩ := Classical.axiomOfChoice (fun i : {i // i < len} => hex i.1 i.2)
    have hget : ∀ i (h : i < (List.ofFn fun i : Fin len => f ⟨i.1, i.2⟩).length), (List.ofFn fun i : Fin len => f ⟨i.1, i.2⟩)[i] = f ⟨i, by simpa using h⟩ := fun i h => by simp
    refine ⟨List.ofFn fun i : Fin len => f ⟨i.1, i.2⟩, by simp, ?_, ?_, by unfold maxLen at hm; omega⟩
    · intro hpos
      have hpos' : 0 < len := by simpa using hpos
      have h0 := (hf2 ⟨0, hpos'⟩).1
      obtain ⟨b, o, spot⟩ := a
      have hspot : spot = none := by have := World.cell?_spot h0; simpa [Addr.add] using this
      subst hspot
      have hadd : ∀ k, (⟨b, o, none⟩ : Addr).add k = ⟨b, o + k, none⟩ := fun k => by simp [Addr.add]
      refine ⟨b, o, rfl, ⟨Nat.zero_le _, ?_⟩, fun i hi j v hv => ?_⟩
      · rw [hadd] at h0
        exact cell_lt_heap h0
      · have hi' : i < len := by simpa using hi
        rw [hget i hi] at hv
        cases j with
        | zero =>
          simp only [encS, List.getElem?_cons_zero, Option.some.injEq] at hv
          subst hv
          have := (hf2 ⟨i, hi'⟩).1
          simp only [hadd] at this
          simpa using this
        | succ j => simp [encS] at hv
    · intro s hs
      rw [List.mem_ofFn] at hs
      obtain ⟨i, rfl⟩ := hs
      exact (hf2 ⟨i.1, i.2⟩).2
theorem cellsChoice : Try.prog.cellsOf 62 = 2 := by kernel_rfl
theorem cellsStrsC : Try.prog.cellsOf 60 = 1 := by kernel_rfl
theorem cellsIntsC : Try.prog.cellsOf 34 = 1 := by kernel_rfl
theorem strs_of_trodC {H : Type} {enc : TypeId × Value → H} {w : World} {spare : Nat → Bool} {held : Bool} {m : Nat} {c0 : Value} {x : DataW H × List MemPlace}
    (h : DataW.trod enc Try.prog w 0 spare held m 60 [c0] = some x) : ∃ A c, ∃ es : List ByteArray, c0 = .slice A es.length c ∧ SS w 0 w.heap.size A es ∧ (∀ s ∈ es, s.size ≤ 9223372036854775807) ∧ es.length ≤ 9223372036854775807 := by
  obtain ⟨d, p⟩ := x
  have key : ∀ A l c, c0 = .slice A l c → ∃ A c, ∃ es : List ByteArray, c0 = .slice A es.length c ∧ SS w 0 w.heap.size A es ∧ (∀ s ∈ es, s.size ≤ 9223372036854775807) ∧ es.length ≤ 9223372036854775807 := by
    intro A l c e
    subst e
    obtain ⟨es, h1, h2, h3, h4⟩ := strs_of_trod (A := A) (len := l) (cap := c) (d := d) (p := p) ⟨m, h⟩
    subst h1
    exact ⟨A, c, es, rfl, h2, h3, h4⟩
  rcases open_slice Try.underlying60 h with ⟨hcs, _⟩ | ⟨a, l, c, _, _, _, _, hcs, _⟩
  · exact key _ _ _ (by simpa using hcs)
  · exact key _ _ _ (by simpa using hcs)
theorem ints_of_trodC {H : Type} {enc : TypeId × Value → H} {w : World} {spare : Nat → Bool} {held : Bool} {m : Nat} {c0 : Value} {x : DataW H × List MemPlace}
    (h : DataW.trod enc Try.prog w 0 spare held m 34 [c0] = some x) : ∃ A c, ∃ es : List Int, c0 = .slice A es.length c ∧ IS w 0 w.heap.size A es ∧ es.length ≤ 9223372036854775807 := by
  obtain ⟨d, p⟩ := x
  have key : ∀ A l c, c0 = .slice A l c → ∃ A c, ∃ es : List Int, c0 = .slice A es.length c ∧ IS w 0 w.heap.size A es ∧ es.length ≤ 9223372036854775807 := by
    intro A l c e
    subst e
    obtain ⟨es, h1, h2, h4⟩ := ints_of_trod (A := A) (len := l) (cap := c) (d := d) (p := p) ⟨m, h⟩
    subst h1
    exact ⟨A, c, es, rfl, h2, h4⟩
  rcases open_slice Try.underlying34 h with ⟨hcs, _⟩ | ⟨a, l, c, _, _, _, _, hcs, _⟩
  · exact key _ _ _ (by simpa using hcs)
  · exact key _ _ _ (by simpa using hcs)
theorem ch_of_trod {H : Type} {enc : TypeId × Value → H} {w : World} {r : Reach} {b0 : Nat} {spare : Nat → Bool} {held : Bool} {v : Value} {d : DataW H} {p : List MemPlace}
    (hv : Value.okWide Try.prog w r b0 62 v) (h : DataW.Trod enc Try.prog w 0 spare held 62 v d p) :
    ∃ A1 c1 A2 c2, ∃ fr : List ByteArray, ∃ to : List Int, v = .agg #[.slice A1 fr.length c1, .slice A2 to.length c2] ∧
      (SS w 0 w.heap.size A1 fr ∧ (∀ s ∈ fr, s.size ≤ 9223372036854775807) ∧ fr.length ≤ 9223372036854775807) ∧ (IS w 0 w.heap.size A2 to ∧ to.length ≤ 9223372036854775807) := by
  obtain ⟨cs0, rfl, hsz⟩ := okWide_struct Try.underlying62 hv
  obtain ⟨fuel, hf9⟩ := h
  obtain ⟨xs, m, _, _, hlen, hxl, hf⟩ := DataW.trod_struct Try.underlying62 hf9
  rw [cellsChoice] at hlen
  obtain ⟨l⟩ := cs0
  simp only [Value.cells] at hlen hf
  match l, hlen with
  | [c0, c1], _ =>
    match xs, hxl with
    | [y0, y1], _ =>
      have h0 := hf 0 _ rfl
      change DataW.trod enc Try.prog w 0 spare held m 60 (([c0, c1].drop 0).take (Try.prog.cellsOf 60)) = _ at h0
      rw [cellsStrsC] at h0
      have h1 := hf 1 _ rfl
      change DataW.trod enc Try.prog w 0 spare held m 34 (([c0, c1].drop 1).take (Try.prog.cellsOf 34)) = _ at h1
      rw [cellsIntsC] at h1
      obtain ⟨A1, q1, fr, e0, g1⟩ := strs_of_trodC (c0 := c0) h0
      obtain ⟨A2, q2, to, e1, g2⟩ := ints_of_trodC (c0 := c1) h1
      exact ⟨A1, q1, A2, q2, fr, to, by rw [e0, e1], g1, g2⟩
end Go.Proofs.Ytaaloepoegehkaa
