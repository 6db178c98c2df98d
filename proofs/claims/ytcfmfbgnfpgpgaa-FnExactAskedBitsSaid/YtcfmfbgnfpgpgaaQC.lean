import Derived.Test.YtcfmfbgnfpgpgaaQA
import Derived.Test.YtcfmfbgnfpgpgaaTI
import Derived.Test.YtcfmfbgnfpgpgaaTL
import Derived.Test.YtcfmfbgnfpgpgaaK3
import Derived.WalkKit
import Derived.WalkSpells
import Derived.WalkLawsBesides
import Derived.Deep.RegionHeld3
import Derived.Lib.Hide
/- The program's bits that are asked for. -/
namespace Go.Proofs.Ytcfmfbgnfpgpgaa
open Go.RowKit
set_option linter.unusedVariables false
set_option maxRecDepth 100000

theorem fillG_lo {es : List Nd} {x0 x1 : Int} {f : Nat} {xs : List Int} : ∀ {m q : Nat}, q < f → (fillG es x0 x1 f xs m).getD q 0 = xs.getD q 0
  | 0, q, _ => rfl
  | m + 1, q, h => by rw [fillG, getD_set_ne _ (by omega), fillG_lo h]
theorem three_cells (w : World) (a b c : Value) (t : TypeId) : (w.alloc (.cells #[a, b, c] t)).cell? ⟨w.heap.size, 0, none⟩ = some a ∧ (w.alloc (.cells #[a, b, c] t)).cell? ⟨w.heap.size, 1, none⟩ = some b ∧ (w.alloc (.cells #[a, b, c] t)).cell? ⟨w.heap.size, 2, none⟩ = some c := by
  have h := fun i => cell_of_row _ w.heap.size i #[a, b, c] t (0, 0) (heap_alloc_new w _)
  exact ⟨h 0, h 1, h 2⟩
theorem pw_succ (j : Nat) : pw (j + 1) = pw j * 2 := by unfold pw; rw [Nat.pow_succ]; omega
theorem pw_pos (j : Nat) : 1 ≤ pw j := by unfold pw; have := Nat.pow_pos (n := j) (show 0 < 2 by decide); omega

/-- The root behind a filling that begins with other values above i. -/
theorem askR_of {es : List Nd} {i : Nat} {x0 x1 wd : Int} {us : List Int} (hi : i < es.length) (hu : us.length = es.length) (hok : okFrom es 0 = true) (ha : ∀ q, q < i → us.getD q 0 = (vals es x0 x1).getD q 0) :
    (fillG es x0 x1 (i + 1) (us.set i wd) (es.length - (i + 1))).getD (es.length - 1) 0 = askR es i x0 x1 wd := by
  have hvl : (vals es x0 x1).length = es.length := valsAt_len _ _ _ _
  refine fillG_ext (by rw [List.length_set, hu]) (by rw [List.length_set, hvl]) hok ?_ (by omega) _ (by omega)
  intro q hq
  by_cases e : q = i
  · subst e; rw [getD_set_eq _ (by omega), getD_set_eq _ (by omega)]
  · rw [getD_set_ne _ e, getD_set_ne _ e]; exact ha q (by omega)

/-- The list that the bits' method fills. -/
def HoldsV (g n : Nat) (W : World) : Prop := ∃ us : List Int, us.length = n ∧ AllW us ∧ IB W g 3 us

set_option maxHeartbeats 16000000 in
theorem askedBits_any (L B : Nat) (A : Option Addr) (c cv n i g : Nat) (es : List Nd) (x0 x1 : Nat) (w : World) (hn : es.length = n) (hl : n ≤ 24) (hi : i < n) (hes : NS w L B A es) (hB : B ≤ g) (hg : g < w.heap.size) (hv : HoldsV g n w)
    (hok : okFrom es 0 = true) (h0 : x0 < 64) (h1 : x1 < 64) :
    Calls Try.prog 104 #[.agg #[.slice A n c, .int .i64 i, .slice (some ⟨g, 0, none⟩) n cv], .int .i64 x0, .int .i64 x1] w fun e w' => e = .returned (.int .i64 (mlI 0 (askP es i (x0 : Int) (x1 : Int)) 6)) ∧ HoldsV g n w' ∧ w.grownBy w' (some g) := by
  obtain ⟨us, hul, huW, huB⟩ := hv
  have X0 : 0 ≤ (x0 : Int) ∧ (x0 : Int) ≤ 63 := by omega
  have X1 : 0 ≤ (x1 : Int) ∧ (x1 : Int) ≤ 63 := by omega
  subst hn
  obtain ⟨W1, hW1⟩ : ∃ W1, W1 = w.alloc (.cells #[.slice A es.length c, .int .i64 i, .slice (some ⟨g, 0, none⟩) es.length cv] 103) := ⟨_, rfl⟩
  have b1 : Below w.heap.size w W1 := by rw [hW1]; exact (Below.refl _ _).alloc (Nat.le_refl _) _
  have k1 := three_cells w (.slice A es.length c) (.int .i64 i) (.slice (some ⟨g, 0, none⟩) es.length cv) 103
  rw [← hW1] at k1
  have z1 : W1.heap.size = w.heap.size + 1 := by rw [hW1]; simp
  have hF0 := Lib.hid (fillValues_eq L B A c es.length cv es g us x0 x1 W1 hul.symm hl (hes.below b1 (by omega)) hB hul (huB.below b1 hg) huW hok X0 X1)
  obtain ⟨f, hf⟩ : ∃ f, f = i + 1 := ⟨_, rfl⟩
  have hfi : (i : Int) + 1 = (f : Int) := by omega
  have hF : Hid (∀ (W : World) (vs : List Int), NS W L B A es → vs.length = es.length → AllW vs → IB W g 3 vs → Calls Try.prog 115 #[.slice (some ⟨g, 0, none⟩) es.length cv, .slice A es.length c, .int .i64 f, .int .i64 x0, .int .i64 x1] W (FilledIs W g (fillG es x0 x1 (i + 1) vs (es.length - (i + 1))))) := by
    intro W vs hW hvl hvW hvB
    have h := fillValues_any L B A c cv es g vs (i + 1) x0 x1 W hl hW hB hvl hvB hvW (by omega) hok X0 X1
    rw [hvl, ← hf] at h
    rw [← hf]; exact h
  have hE := Lib.hid hes
  have hvl : (vals es (x0 : Int) (x1 : Int)).length = es.length := valsAt_len _ _ _ _
  have hVW := Lib.hid (valsAt_W hok X0 X1 (Nat.le_refl es.length) : AllW (vals es (x0 : Int) (x1 : Int)))
  have hAR := Lib.hid fun (us : List Int) (wd : Int) (hu : us.length = es.length) ha => askR_of (x0 := (x0 : Int)) (x1 := (x1 : Int)) (wd := wd) hi hu hok ha
  have hGW := Lib.hid fun (us : List Int) (h : AllW us) => fillG_W (f := i + 1) (n := es.length - (i + 1)) h hok X0 X1 (by omega)
  have hat : Hid (at2 es (x0 : Int) (x1 : Int) = (vals es (x0 : Int) (x1 : Int)).getD (es.length - 1) 0) := rfl
  obtain ⟨n, hn⟩ : ∃ n, n = es.length := ⟨_, rfl⟩
  have k1h := Lib.hid k1
  have hW1h := Lib.hid hW1
  have b1h := Lib.hid b1
  have hpl : (0 : Int) ≤ (es.length : Int) - 1 := by omega
  have hpl2 : (es.length : Int) - 1 < (es.length : Int) := by omega
  have hpl3 : ((es.length : Int) - 1).toNat = es.length - 1 := by omega
  obtain ⟨c0, c1, c2⟩ := k1
  clear hes hul huW huB hW1
  go_enter Try.func104, Try.ntmps104
  go_wp2_with (fail)
  rw [← hW1h.out]
  refine hF0.out.mono ?_
  rintro e w2 ⟨rfl, hib, hgr⟩
  have hbx : Hid (∀ p : Addr, p.block = w.heap.size → w2.cell? p = W1.cell? p) := fun p hp => World.cell?_of_block (by rw [hp]; exact hgr.block w.heap.size (by omega) (fun e => by injection e with e; omega))
  have d0 := (hbx.out ⟨w.heap.size, 0, none⟩ rfl).trans c0
  have d1 := (hbx.out ⟨w.heap.size, 1, none⟩ rfl).trans c1
  have d2 := (hbx.out ⟨w.heap.size, 2, none⟩ rfl).trans c2
  have hgw : Hid (w.grownBy w2 (some g)) := grownBy_trans (grownBy_of_below b1 (some g)) hgr
  have hI := Lib.hid hib
  have hz2 := Lib.hid hgr.size
  have e1 := hib.cell i (by rw [hvl]; exact hi)
  have e2 := hib.cell (es.length - 1) (by rw [hvl]; omega)
  rw [← getD_get] at e1 e2
  have hp0 : Hid (askP es i (x0 : Int) (x1 : Int) = fun j => askR es i x0 x1 (bits .xor .i64 ((vals es x0 x1).getD i 0) (pw j)) != (vals es x0 x1).getD (es.length - 1) 0) := rfl
  have hvi := hVW.out i
  have hlo : Hid (∀ q, q < i → (vals es (x0 : Int) (x1 : Int)).getD q 0 = (vals es (x0 : Int) (x1 : Int)).getD q 0) := fun _ _ => rfl
  have hvlh := Lib.hid hvl
  have hb1h := Lib.hid b1
  have hz1 := Lib.hid z1
  have hih := Lib.hid hi
  have hgh := Lib.hid hg
  have hBh := Lib.hid hB
  clear hib hgr hbx c0 c1 c2 hF0 hvl b1 z1 k1h hW1h hn hf
  obtain ⟨vl, hvlv⟩ : ∃ vl, vl = vals es (x0 : Int) (x1 : Int) := ⟨_, rfl⟩
  rw [← hvlv] at hp0 hI e1 e2 hAR hvlh hlo
  change 0 ≤ (vals es (x0 : Int) (x1 : Int)).getD i 0 ∧ (vals es (x0 : Int) (x1 : Int)).getD i 0 ≤ 63 at hvi
  rw [← hvlv] at hvi
  have hvW2 : Hid (AllW vl) := by rw [hvlv]; exact hVW.out
  clear hvlv hVW hat
  generalize vl.getD i 0 = v at *
  generalize vl.getD (es.length - 1) 0 = rt at *
  generalize hgP : askP es i (x0 : Int) (x1 : Int) = P at *
  have HP := Lib.hid hgP
  clear hgP
  have i1 : (0 : Int) ≤ (i : Int) := by omega
  have i2 : (i : Int) < (es.length : Int) := by omega
  have i3 : (1 : Int) ≤ (es.length : Int) := by omega
  go_wp2_with (fail)
  have bx2 := Lib.hid (And.intro d0 (And.intro d1 d2))
  go_region_held3 (fun w' => w'.cell? ⟨w.heap.size, 1, none⟩ = some (.int .i64 i) ∧ w'.cell? ⟨w.heap.size, 2, none⟩ = some (.slice (some ⟨g, 0, none⟩) es.length cv) ∧ w'.cell? ⟨g, i, none⟩ = some (.int .i64 v) ∧ w'.cell? ⟨g, es.length - 1, none⟩ = some (.int .i64 rt))
    (first | exact ⟨d1, d2, e1, e2⟩ | go_keep)
    (fail)
  have hI3 : Hid (IB w2.drew g 3 vl) := hI.out
  have hG3 : Hid (w.grownBy w2.drew (some g)) := drew_grown hgw.out
  have bx3 : Hid (w2.drew.cell? ⟨w.heap.size, 0, none⟩ = some (.slice A es.length c) ∧ w2.drew.cell? ⟨w.heap.size, 1, none⟩ = some (.int .i64 i) ∧ w2.drew.cell? ⟨w.heap.size, 2, none⟩ = some (.slice (some ⟨g, 0, none⟩) es.length cv)) := bx2.out
  have hz3 : Hid (W1.heap.size ≤ w2.drew.heap.size) := hz2.out
  generalize w2.drew = w3 at *
  clear d0 d1 d2 e1 e2
  go_wp2
  go_loopw [10, 11] (fun a bt wr => ∃ j : Nat, j ≤ 6 ∧ bt = .int .i64 (pw j) ∧ a = .int .i64 (mlI 0 P j) ∧ (∃ us : List Int, (us.length = es.length ∧ AllW us ∧ ∀ q, q < i → us.getD q 0 = vl.getD q 0) ∧ IB wr g 3 us) ∧ w.grownBy wr (some g) ∧
    (wr.cell? ⟨w.heap.size, 0, none⟩ = some (.slice A es.length c) ∧ wr.cell? ⟨w.heap.size, 1, none⟩ = some (.int .i64 i) ∧ wr.cell? ⟨w.heap.size, 2, none⟩ = some (.slice (some ⟨g, 0, none⟩) es.length cv))) (fun _ bt _ => 64 - (intOf bt).toNat)
  case atStart => exact ⟨0, Nat.zero_le _, rfl, rfl, ⟨vl, ⟨hvlh.out, hvW2.out, fun _ _ => rfl⟩, hI3.out⟩, hG3.out, bx3.out⟩
  case round =>
    obtain ⟨j, hj, rfl, rfl, ⟨us, ⟨hu1, hu2, hu3⟩, hib⟩, hgr, d0, d1, d2⟩ := hrel
    have hp1 := pw_pos j
    have hps := Lib.hid (pw_succ j)
    by_cases hlt : j < 6
    · have hpb := (pw_bd hlt).2
      have hmb := mlI_bd (m := 0) (P := P) ⟨Int.le_refl _, by show (0 : Int) ≤ 63; omega⟩ (j := j) (by omega)
      have hwd := bxor_bd v (pw j) hvi.1 hvi.2 (by omega) hpb
      have hPj : Hid (P j = (askR es i x0 x1 (bits .xor .i64 v (pw j)) != rt)) := by unfold Hid; rw [hp0.out]
      have hyes := Lib.hid fun h => mlI_yes (m := 0) (P := P) (j := j) h
      have hno := Lib.hid fun h => mlI_no (m := 0) (P := P) (j := j) h
      generalize hmj : mlI 0 P (j + 1) = mj' at *
      have HM := Lib.hid hmj
      clear hmj
      generalize mlI 0 P j = mj at *
      have hdp : decide (pw j ≤ 63) = true := decide_eq_true hpb
      generalize hwdd : bits .xor .i64 v (pw j) = wd at *
      have HD := Lib.hid hwdd
      clear hwdd
      have f0 := hib.frozen i
      have e1 := hib.cell_ex (k := i) (by rw [hu1]; exact hih.out)
      obtain ⟨old, e1⟩ := e1
      have hS := Lib.hid (hib.set i wd)
      have hGs := Lib.hid (grownBy_trans hgr (setInt_grown wr g i (.int .i64 wd)))
      have hSW := Lib.hid (AllW.set (i := i) hu2 hwd)
      have hSl : Hid ((us.set i wd).length = es.length) := by unfold Hid; rw [List.length_set]; exact hu1
      have hne : w.heap.size ≠ g := by have := hgh.out; omega
      have x0' := (World.cell?_of_block (a := ⟨w.heap.size, 0, none⟩) (Below.heap_setCell wr ⟨g, i, none⟩ (.int .i64 wd) w.heap.size hne)).trans d0
      have x1' := (World.cell?_of_block (a := ⟨w.heap.size, 1, none⟩) (Below.heap_setCell wr ⟨g, i, none⟩ (.int .i64 wd) w.heap.size hne)).trans d1
      have x2' := (World.cell?_of_block (a := ⟨w.heap.size, 2, none⟩) (Below.heap_setCell wr ⟨g, i, none⟩ (.int .i64 wd) w.heap.size hne)).trans d2
      have hrt := Lib.hid (hAR.out us wd hu1 hu3)
      have hU3 := Lib.hid hu3
      have hUL := Lib.hid hu1
      clear hib hgr hu1 hu2 hu3
      have hNS := Lib.hid (hE.out.keep (w' := wr.setCell ⟨g, i, none⟩ (.int .i64 wd)) fun p hp1 hp2 => World.cell?_of_block (hGs.out.block p.block (by have := hBh.out; have := hgh.out; omega) (fun e => by injection e with e; have := hBh.out; omega)))
      have hbl := World.block_lt_of_cell? _ _ x0'
      have hblh := Lib.hid hbl
      clear hbl
      go_wp2_with (fail)
      rw [HD.out]
      refine (hF.out _ (us.set i wd) hNS.out hSl.out hSW.out hS.out).mono ?_
      rintro e w4 ⟨rfl, hib, hgr⟩
      have hbx : Hid (∀ p : Addr, p.block = w.heap.size → w4.cell? p = (wr.setCell ⟨g, i, none⟩ (.int .i64 wd)).cell? p) := fun p hp => World.cell?_of_block (by rw [hp]; exact hgr.block w.heap.size hblh.out (fun e => by injection e with e; have := hgh.out; omega))
      have y0' := (hbx.out ⟨w.heap.size, 0, none⟩ rfl).trans x0'
      have y1' := (hbx.out ⟨w.heap.size, 1, none⟩ rfl).trans x1'
      have y2' := (hbx.out ⟨w.heap.size, 2, none⟩ rfl).trans x2'
      have hI4 := Lib.hid hib
      have hG4 := Lib.hid (grownBy_trans hGs.out hgr)
      have hl4 : (fillG es x0 x1 (i + 1) (us.set i wd) (es.length - (i + 1))).length = es.length := by rw [fillG_len]; exact hSl.out
      have e3 := hib.cell (es.length - 1) (by rw [hl4]; have := hih.out; omega)
      rw [← getD_get, hrt.out] at e3
      have hL4 := Lib.hid hl4
      have hW4 := Lib.hid (hGW.out _ hSW.out)
      have hlo4 : Hid (∀ q, q < i → (fillG es x0 x1 (i + 1) (us.set i wd) (es.length - (i + 1))).getD q 0 = vl.getD q 0) := fun q hq => by rw [fillG_lo (by omega), getD_set_ne _ (by omega)]; exact hU3.out q hq
      clear hbx hib hgr hl4 x0' x1' x2' d0 d1 d2 e1 f0
      generalize fillG es x0 x1 (i + 1) (us.set i wd) (es.length - (i + 1)) = us' at *
      generalize askR es i x0 x1 wd = ar at *
      have hb2 : pw j * 2 ≤ 128 := by omega
      cases hc : (ar != rt)
      · have hm := Lib.hid (hno.out (by rw [hPj.out]; exact hc))
        go_wp2
        go_roundw
        case rel => exact ⟨j + 1, by omega, by rw [hps.out], by rw [HM.out, hm.out], ⟨us', ⟨hL4.out, hW4.out, hlo4.out⟩, hI4.out⟩, hG4.out, y0', y1', y2'⟩
        case measure => simp [intOf]; omega
      · have hm := Lib.hid (hyes.out (by rw [hPj.out]; exact hc))
        go_wp2
        go_roundw
        case rel => exact ⟨j + 1, by omega, by rw [hps.out], by rw [HM.out, hm.out], ⟨us', ⟨hL4.out, hW4.out, hlo4.out⟩, hI4.out⟩, hG4.out, y0', y1', y2'⟩
        case measure => simp [intOf]; omega
    · obtain rfl : j = 6 := by omega
      have hdp : decide (pw 6 ≤ 63) = false := by decide
      have hnp : ¬ pw 6 ≤ 63 := by decide
      go_wp2
      go_ret
      exact ⟨by rw [HP.out]; rfl, ⟨us, hu1, hu2, hib⟩, hgr⟩
end Go.Proofs.Ytcfmfbgnfpgpgaa
