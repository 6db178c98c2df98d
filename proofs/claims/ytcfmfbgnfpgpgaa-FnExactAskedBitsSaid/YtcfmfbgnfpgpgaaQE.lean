import Derived.Test.YtcfmfbgnfpgpgaaQB
import Derived.Test.YtcfmfbgnfpgpgaaQD
import Derived.WalkKit
import Derived.WalkSpells
import Derived.WalkLawsBesides
import Derived.Deep.RegionHeld3
import Derived.Lib.Hide
/- AskedBits: the model's side. -/
namespace Go.Proofs.Ytcfmfbgnfpgpgaa
open Go.RowKit
set_option linter.unusedVariables false
set_option maxRecDepth 100000

theorem exValues_n (L B : Nat) (A : Option Addr) (c : Nat) (es : List Nd) (x0 x1 : Int) (w : World) (hl : es.length ≤ 24) (hes : NS w L B A es) (hB : B ≤ w.heap.size) (hok : okFrom es 0 = true) (h0 : 0 ≤ x0 ∧ x0 ≤ 63) (h1 : 0 ≤ x1 ∧ x1 ≤ 63) :
    Calls Try.prog 99 #[.slice A es.length c, .int .i64 x0, .int .i64 x1] w fun e w' => ∃ V v, e = .returned (.slice V es.length v) ∧ IS w' w.heap.size w'.heap.size V (vals es x0 x1) ∧ Below w.heap.size w w' := by
  refine (exValues_any L B A c es x0 x1 w hl hes hB hok h0 h1).mono ?_
  rintro e w' ⟨V, v, rfl, how, hb⟩
  exact ⟨V, v, by rw [vals_len], how.rs, hb⟩

set_option maxHeartbeats 16000000 in
theorem sAskedBits_any (L B : Nat) (A : Option Addr) (c : Nat) (es : List Nd) (k : Int) (w : World) (hl : es.length ≤ 1048576) (hes : NS w L B A es) (hB : B ≤ w.heap.size) :
    Calls Try.prog 56 #[.slice A es.length c, .int .i64 k] w fun e w' => e = .returned (.tuple #[.int .i64 (abR es k), .bool (abB es k)]) ∧ Below w.heap.size w w' := by
  have GE := Lib.hid (exGood_any L B A c es w hl hes hB)
  have HK := Lib.hid fun W => l1In_r k 0 (es.length - 1) W
  have hE := Lib.hid hes
  have hBB := Lib.hid hB
  have hab : Hid (abB es k = (good es && inR k 0 (es.length - 1))) := rfl
  clear hes hB
  cases hg : good es
  · have h1 := Lib.hid (show abB es k = false by rw [hab.out, hg]; rfl)
    have h2 := Lib.hid (abR_bad h1.out)
    rw [hg] at GE
    clear hg HK
    go_enter Try.func56, Try.ntmps56
    go_wp2_with (fail)
    refine GE.out.mono ?_
    rintro e w1 ⟨rfl, hb⟩
    have b1 := Lib.hid hb; clear hb
    go_wp2_with (fail)
    go_ret2
    exact ⟨by rw [h1.out, h2.out]; rfl, b1.out⟩
  obtain ⟨hl1, hl24, hok⟩ := good_len hg
  have hlb : (1 : Int) ≤ (es.length : Int) := by omega
  have hlc : (es.length : Int) ≤ 24 := by omega
  cases hk : inR k 0 (es.length - 1)
  · have h1 := Lib.hid (show abB es k = false by rw [hab.out, hk, Bool.and_false])
    have h2 := Lib.hid (abR_bad h1.out)
    rw [hg] at GE
    rw [hk] at HK
    clear hg hk hok
    go_enter Try.func56, Try.ntmps56
    go_wp2_with (fail)
    refine GE.out.mono ?_
    rintro e w1 ⟨rfl, hb⟩
    have b1 := Lib.hid hb; clear hb
    go_wp2_with (go_at_call 79; refine (HK.out _).mono ?_; rintro e w' ⟨rfl, rfl⟩)
    go_ret2
    exact ⟨by rw [h1.out, h2.out]; rfl, b1.out⟩
  have h1 := Lib.hid (show abB es k = true by rw [hab.out, hg, hk]; rfl)
  have hkr := (inR_iff _ _ _).1 hk
  obtain ⟨i, rfl⟩ := Int.eq_ofNat_of_zero_le hkr.1
  have hi : i < es.length := by omega
  have h2 := Lib.hid (abR_good h1.out rfl)
  have hEV := Lib.hid fun (x0 x1 : Nat) (W : World) (hW : Below w.heap.size w W) (h0 : x0 < 64) (h1 : x1 < 64) => exValues_n L B A c es (x0 : Int) (x1 : Int) W hl24 (hE.out.below hW hBB.out) (Nat.le_trans hBB.out hW.size) hok ⟨by omega, by omega⟩ ⟨by omega, by omega⟩
  have hCH := Lib.hid fun (x0 x1 : Nat) (wd : Int) (L' B' : Nat) (V : Option Addr) (v : Nat) (W : World) (hW : Below w.heap.size w W) (h0 : x0 < 64) (h1 : x1 < 64) (hv : IS W L' B' V (vals es (x0 : Int) (x1 : Int))) (hB' : B' ≤ W.heap.size) (hwd : 0 ≤ wd ∧ wd ≤ 63) =>
    eqChanged_any L B L' B' A V c v es.length i es (x0 : Int) (x1 : Int) wd W rfl hl24 hi (hE.out.below hW hBB.out) (Nat.le_trans hBB.out hW.size) hv hB' hok ⟨by omega, by omega⟩ ⟨by omega, by omega⟩ hwd
  have hVW := Lib.hid fun (x0 x1 : Nat) (h0 : x0 < 64) (h1 : x1 < 64) => (valsAt_W hok ⟨by omega, by omega⟩ ⟨by omega, by omega⟩ (Nat.le_refl es.length) : AllW (vals es (x0 : Int) (x1 : Int)))
  have hob := Lib.hid fun n => orI_bd (n := n) fun t _ => askT_bd es i t
  have hNX := Lib.hid fun t => ask_next es i t
  rw [hg] at GE
  rw [hk] at HK
  obtain ⟨p, hp⟩ : ∃ p, es.length = p + 1 := ⟨es.length - 1, by omega⟩
  have hvlen := Lib.hid fun (x0 x1 : Int) => (show (vals es x0 x1).length = p + 1 by rw [vals_len, hp])
  have hPD := Lib.hid fun (x0 x1 : Int) (j : Nat) => (show askP es i x0 x1 j = (askR es i x0 x1 (bits .xor .i64 ((vals es x0 x1).getD i 0) (pw j)) != (vals es x0 x1).getD p 0) by rw [← show es.length - 1 = p by omega]; rfl)
  rw [show ((es.length : Int) - 1) = (p : Int) by omega] at HK
  rw [hp] at GE hEV hCH
  have hIi := Lib.hid (show i < p + 1 by omega)
  have hp24 : p + 1 ≤ 24 := by omega
  rw [hp]
  clear hg hk hkr hok hlb hlc hl hl1 hl24 hi hp
  go_enter Try.func56, Try.ntmps56
  go_wp2_with (fail)
  refine GE.out.mono ?_
  rintro e w1 ⟨rfl, hb⟩
  have b1 := Lib.hid hb
  clear hb
  go_wp2_with (go_at_call 79; refine (HK.out _).mono ?_; rintro e w' ⟨rfl, rfl⟩)
  go_loopw [6, 7] (fun m i' wr => ∃ k : Nat, k ≤ 64 ∧ i' = .int .i64 k ∧ m = .int .i64 (orI (askT es i) (64 * k + 0)) ∧ Below w.heap.size w wr) (fun _ i' _ => 64 - (intOf i').toNat)
  case atStart => exact ⟨0, Nat.zero_le _, rfl, rfl, b1.out⟩
  case round =>
    obtain ⟨x0, hx0, rfl, rfl, hbel⟩ := hrel
    have hBL := Lib.hid hbel
    clear hbel
    by_cases hlt : x0 < 64
    · obtain ⟨wo, hwo⟩ : ∃ wo : World, wo = wr := ⟨_, rfl⟩
      rw [← hwo] at hBL ⊢
      clear hwo
      have hk63 : (x0 : Int) ≤ 63 := by omega
      have hd63 : decide ((x0 : Int) ≤ 63) = true := by simpa using hk63
      go_wp2
      go_loopw [6, 8] (fun m j' wr => ∃ n : Nat, n ≤ 64 ∧ j' = .int .i64 n ∧ m = .int .i64 (orI (askT es i) (64 * x0 + n)) ∧ Below w.heap.size w wr) (fun _ j' _ => 64 - (intOf j').toNat)
      case atStart => exact ⟨0, Nat.zero_le _, rfl, rfl, hBL.out⟩
      case round =>
        obtain ⟨x1, hx1, rfl, rfl, hbel⟩ := hrel
        have hCL := Lib.hid hbel
        clear hbel
        by_cases hlt2 : x1 < 64
        · have hj63 : (x1 : Int) ≤ 63 := by omega
          have hdj63 : decide ((x1 : Int) ≤ 63) = true := by simpa using hj63
          have hm0 := hob.out (64 * x0 + x1)
          have hnx := hNX.out (64 * x0 + x1)
          rw [show (64 * x0 + x1) / 64 = x0 by omega, show (64 * x0 + x1) % 64 = x1 by omega] at hnx
          have hnxh := Lib.hid hnx
          clear hnx
          have hPd : Hid (∀ j, askP es i (x0 : Int) (x1 : Int) j = (askR es i x0 x1 (bits .xor .i64 ((vals es x0 x1).getD i 0) (pw j)) != (vals es (x0 : Int) (x1 : Int)).getD p 0)) := fun j => hPD.out _ _ j
          have hvv := hVW.out x0 x1 hlt hlt2
          have hvi : 0 ≤ (vals es (x0 : Int) (x1 : Int)).getD i 0 ∧ (vals es (x0 : Int) (x1 : Int)).getD i 0 ≤ 63 := hvv i
          have hvl : (vals es (x0 : Int) (x1 : Int)).length = p + 1 := hvlen.out _ _
          have hVL := Lib.hid hvl
          clear hvv hvl
          have hCC := Lib.hid fun (wd : Int) (L' B' : Nat) (V : Option Addr) (v : Nat) (W : World) hW hv hB' hwd => hCH.out x0 x1 wd L' B' V v W hW hlt hlt2 hv hB' hwd
          generalize orI (askT es i) (64 * x0 + x1) = m0 at *
          go_wp2_with (fail)
          refine (hEV.out x0 x1 _ hCL.out hlt hlt2).mono ?_
          rintro e w2 ⟨V, v, rfl, hi2, hb⟩
          have hDL := Lib.hid (hCL.out.trans (hb.mono hCL.out.size))
          have hI2 := Lib.hid hi2
          obtain ⟨b, o, rfl, ⟨_, hbB⟩, hc⟩ := hi2 (by rw [hVL.out]; omega)
          have e1 := hc i (by rw [hVL.out]; exact hIi.out)
          have e2 := hc p (by rw [hVL.out]; omega)
          rw [← getD_get] at e1 e2
          clear hb hi2 hc
          have hE1 := Lib.hid e1
          have hE2 := Lib.hid e2
          clear e1 e2
          generalize (vals es (x0 : Int) (x1 : Int)).getD i 0 = vi at *
          generalize (vals es (x0 : Int) (x1 : Int)).getD p 0 = rt at *
          generalize hgP : askP es i (x0 : Int) (x1 : Int) = P at *
          generalize vals es (x0 : Int) (x1 : Int) = vl at *
          clear hgP
          go_wp2
          go_loopw [6, 10] (fun m bt wr => ∃ j : Nat, j ≤ 6 ∧ bt = .int .i64 j ∧ m = .int .i64 (mlI m0 P j) ∧ Below w2.heap.size w2 wr) (fun _ bt _ => 6 - (intOf bt).toNat)
          case atStart => exact ⟨0, Nat.zero_le _, rfl, rfl, Below.refl _ _⟩
          case round =>
            obtain ⟨j, hj, rfl, rfl, hbel⟩ := hrel
            have hFL := Lib.hid hbel
            clear hbel
            by_cases hlt3 : j < 6
            · have hj5 : (j : Int) < 6 := by omega
              have hpb := pw_bd hlt3
              have hmb := mlI_bd (P := P) hm0 (j := j) (by omega)
              have hwd := bxor_bd vi (pw j) hvi.1 hvi.2 hpb.1 hpb.2
              have hmset := Lib.hid fun h => mlI_set (P := P) hm0 hlt3 h
              have hyes := Lib.hid fun h => mlI_yes (m := m0) (P := P) (j := j) h
              have hno := Lib.hid fun h => mlI_no (m := m0) (P := P) (j := j) h
              generalize hmj : mlI m0 P (j + 1) = mj' at *
              have HM := Lib.hid hmj
              clear hmj
              generalize mlI m0 P j = mj at *
              have e1 := (hFL.out.cell (p := ⟨b, o + i, none⟩) hbB).trans hE1.out
              have e2 := (hFL.out.cell (p := ⟨b, o + p, none⟩) hbB).trans hE2.out
              have hpw : (pw j) = 2 ^ j := by unfold pw; simp
              go_wp2_with (fail)
              have hi0 : (0 : Int) ≤ (i : Int) := by omega
              have hi1 : (i : Int) < (p : Int) + 1 := by have := hIi.out; omega
              have hi2 : i < p + 1 := hIi.out
              have hp0 : (0 : Int) ≤ (p : Int) := by omega
              have hp1 : (p : Int) < (p : Int) + 1 := by omega
              have hp2 : IntKind.i64.wrap (p : Int) = (p : Int) := by rw [IntKind.wrap_i64]; omega
              have hp3 : p < p + 1 := by omega
              have hj0 : ¬ ((j : Int) < 0) := by omega
              have h2a : (1 : Int) ≤ 2 ^ j := by rw [← hpw]; exact pw_pos j
              have h2b : (2 : Int) ^ j ≤ 63 := by rw [← hpw]; exact hpb.2
              have hwd2 := Lib.hid (show 0 ≤ bits .xor .i64 vi (2 ^ j) ∧ bits .xor .i64 vi (2 ^ j) ≤ 63 by rw [← hpw]; exact hwd)
              have hPj := Lib.hid (show P j = (askR es i x0 x1 (bits .xor .i64 vi (2 ^ j)) != rt) by rw [← hpw]; exact hPd.out j)
              have hbd := Lib.hid hFL.out.drew
              have hDD := Lib.hid (hDL.out.trans (hbd.out.mono hDL.out.size))
              have hzd := Lib.hid hbd.out.size
              have hbw : b < wr.drew.heap.size := Nat.lt_of_lt_of_le hbB hzd.out
              have HC := Lib.hid (hCC.out (bits .xor .i64 vi (2 ^ j)) _ _ (some ⟨b, o, none⟩) v wr.drew hDD.out (hI2.out.below hbd.out (Nat.le_refl _)) hzd.out hwd2.out)
              have hmd := Lib.hid (show (mj / pw j) % 2 = (mj / 2 ^ j).tmod 2 by
                rw [← hpw]; exact (Int.tmod_eq_emod_of_nonneg (Int.ediv_nonneg hmb.1 (by omega))).symm)
              have hpwh := Lib.hid hpw
              have hpbh := Lib.hid hpb
              clear hpw hpb hwd
              have hwr : IntKind.i64.wrap (2 ^ j) = 2 ^ j := by rw [IntKind.wrap_i64]; omega
              generalize askR es i x0 x1 (bits .xor .i64 vi (2 ^ j)) = ar at *
              cases hgd : ((mj / 2 ^ j).tmod 2 == 0)
              · have hst := Lib.hid (hmset.out (by
                  have h0 := beq_eq_false_iff_ne.1 hgd
                  rw [← hmd.out] at h0
                  omega))
                clear hbw e1 e2 h2a h2b hwr
                go_quiet (fail)
                go_wp2
                go_roundw
                case rel => exact ⟨j + 1, by omega, by go_num, by rw [HM.out, hst.out], ⟨hbd.out.os, hbd.out.tape, hbd.out.output, hbd.out.size, hbd.out.block⟩⟩
                case measure => simp [intOf]; omega
              · have hF3 := Lib.hid fun (w3 : World) (hb : Below wr.drew.heap.size wr.drew w3) => hbd.out.trans (hb.mono hbd.out.size)
                cases hc : (ar != rt)
                · have hm := Lib.hid (hno.out (by rw [hPj.out]; exact hc))
                  go_region_held3 (fun w' => w'.cell? ⟨b, o + i, none⟩ = some (.int .i64 vi) ∧ w'.cell? ⟨b, o + p, none⟩ = some (.int .i64 rt))
                    (first | exact ⟨e1, e2⟩ | exact ⟨(hb3.cell hbw).trans e1, (hb3.cell hbw).trans e2⟩ | go_keep)
                    ((go_at_call 100; (with_reducible refine HC.out.mono ?_); rintro e w3 ⟨rfl, hb3⟩))
                  have hG := Lib.hid (hF3.out w3 hb3)
                  clear hb3 e1 e2 hbw
                  go_wp2
                  go_roundw
                  case rel => exact ⟨j + 1, by omega, by go_num, by rw [HM.out, hm.out], hG.out⟩
                  case measure => simp [intOf]; omega
                · have hm := Lib.hid (show mj' = bits .or .i64 mj (2 ^ j) by rw [hyes.out (by rw [hPj.out]; exact hc), hpwh.out])
                  go_region_held3 (fun w' => w'.cell? ⟨b, o + i, none⟩ = some (.int .i64 vi) ∧ w'.cell? ⟨b, o + p, none⟩ = some (.int .i64 rt))
                    (first | exact ⟨e1, e2⟩ | exact ⟨(hb3.cell hbw).trans e1, (hb3.cell hbw).trans e2⟩ | go_keep)
                    ((go_at_call 100; (with_reducible refine HC.out.mono ?_); rintro e w3 ⟨rfl, hb3⟩))
                  have hG := Lib.hid (hF3.out w3 hb3)
                  clear hb3 e1 e2 hbw
                  go_wp2
                  go_roundw
                  case rel => exact ⟨j + 1, by omega, by go_num, by rw [HM.out, hm.out], hG.out⟩
                  case measure => simp [intOf]; omega
            · obtain rfl : j = 6 := by omega
              go_wp2
              go_roundw
              case rel => exact ⟨x1 + 1, by omega, by go_num, by rw [hnxh.out]; rfl, hDL.out.trans (hFL.out.mono hDL.out.size)⟩
              case measure => simp [intOf]; omega
        · obtain rfl : x1 = 64 := by omega
          go_wp2
          go_roundw
          case rel => exact ⟨x0 + 1, by omega, by go_num, by rw [show 64 * (x0 + 1) + 0 = 64 * x0 + 64 by omega], hCL.out⟩
          case measure => simp [intOf]; omega
    · obtain rfl : x0 = 64 := by omega
      go_wp2
      go_ret2
      exact ⟨by rw [h1.out, h2.out]; rfl, hBL.out⟩
end Go.Proofs.Ytcfmfbgnfpgpgaa
