import Derived.Test.YtcfmfbgnfpgpgaaKA
import Derived.WalkKit
import Derived.WalkSpells
import Derived.WalkLawsBesides
import Derived.Deep.RegionHeld3
import Derived.Lib.Hide
/- Known bits: joined, and whether a word fits. -/
namespace Go.Proofs.Ytcfmfbgnfpgpgaa
open Go.RowKit
set_option linter.unusedVariables false
set_option maxRecDepth 100000

theorem kbox (w : World) (z o : Int) (t : TypeId) : IB (w.alloc (.cells #[.int .i64 z, .int .i64 o] t)) w.heap.size t [z, o] := heap_alloc_new w _
theorem IB.two {w : World} {g : Nat} {t : TypeId} {z o : Int} (h : IB w g t [z, o]) : w.cell? ⟨g, 0, none⟩ = some (.int .i64 z) ∧ w.cell? ⟨g, 1, none⟩ = some (.int .i64 o) := ⟨h.cell 0 (by simp), h.cell 1 (by simp)⟩

theorem eqFits_any (z o x : Int) (w : World) :
    Calls Try.prog 95 #[.agg #[.int .i64 z, .int .i64 o], .int .i64 x] w fun e w' => e = .returned (.bool (fitB z o x)) ∧ Below w.heap.size w w' := by
  have hB1 := Lib.hid fun o => (Below.refl w.heap.size w).alloc (Nat.le_refl _) o
  have hf : Hid (fitB z o x = ((bits .and .i64 x z == 0) && (bits .and .i64 x o == o))) := rfl
  cases h : (bits .and .i64 x z == 0)
  · rw [h] at hf
    go_enter Try.func95, Try.ntmps95
    go_wp2
    go_ret
    exact ⟨ret_bool (by rw [hf.out]; rfl), hB1.out _⟩
  · rw [h] at hf
    go_enter Try.func95, Try.ntmps95
    go_wp2
    go_ret
    exact ⟨ret_bool (by rw [hf.out]; rfl), hB1.out _⟩

/-- Whether a word fits, where both are fine. -/
def dkB (z o x : Int) : Bool := knOk z o && isW x
def dkR (z o x : Int) : Bool := dkB z o x && fitB z o x
set_option maxHeartbeats 1000000 in
theorem sDoesKnow_any (z o x : Int) (w : World) :
    Calls Try.prog 52 #[.agg #[.int .i64 z, .int .i64 o], .int .i64 x] w fun e w' => e = .returned (.tuple #[.bool (dkR z o x), .bool (dkB z o x)]) ∧ Below w.heap.size w w' := by
  have b0 := Lib.hid ((Below.refl w.heap.size w).alloc (Nat.le_refl _) (.cells #[.int .i64 z, .int .i64 o] 51))
  have k0 := Lib.hid (kbox w z o 51)
  have HK := Lib.hid fun W => sKnown_any z o W
  have HW := Lib.hid fun W => exWord_w x W
  have HF := Lib.hid fun W => eqFits_any z o x W
  have hR : Hid (dkR z o x = (dkB z o x && fitB z o x)) := rfl
  have hB : Hid (dkB z o x = (knOk z o && isW x)) := rfl
  cases h1 : knOk z o
  · rw [h1] at HK hB
    have hb' := Lib.hid (show dkB z o x = false from hB.out)
    have hr' := Lib.hid (show dkR z o x = false by rw [hR.out, hb'.out]; rfl)
    go_enter Try.func52, Try.ntmps52
    go_wp2_with (fail)
    refine (HK.out _).mono ?_
    rintro e w1 ⟨rfl, hb⟩
    have b1 := Lib.hid (b0.out.trans (hb.mono b0.out.size)); clear hb
    go_wp2_with (fail)
    go_ret2
    exact ⟨by rw [hb'.out, hr'.out]; rfl, b1.out⟩
  cases h2 : isW x
  · rw [h1] at HK
    rw [h2] at HW
    have hb' := Lib.hid (show dkB z o x = false by rw [hB.out, h2, Bool.and_false])
    have hr' := Lib.hid (show dkR z o x = false by rw [hR.out, hb'.out]; rfl)
    clear h1 h2
    go_enter Try.func52, Try.ntmps52
    go_wp2_with (fail)
    refine (HK.out _).mono ?_
    rintro e w1 ⟨rfl, hb⟩
    have b1 := Lib.hid (b0.out.trans (hb.mono b0.out.size)); clear hb
    go_wp2_with (go_at_call 77; refine (HW.out _).mono ?_; rintro e w' ⟨rfl, rfl⟩)
    go_ret2
    exact ⟨by rw [hb'.out, hr'.out]; rfl, b1.out⟩
  rw [h1] at HK
  rw [h2] at HW
  have hb' := Lib.hid (show dkB z o x = true by rw [hB.out, h1, h2]; rfl)
  have hr' := Lib.hid (show dkR z o x = fitB z o x by rw [hR.out, hb'.out]; rfl)
  clear h1 h2
  go_enter Try.func52, Try.ntmps52
  go_wp2_with (fail)
  refine (HK.out _).mono ?_
  rintro e w1 ⟨rfl, hb⟩
  have b1 := Lib.hid (b0.out.trans (hb.mono b0.out.size))
  have k1 := Lib.hid (k0.out.below hb (by simp))
  obtain ⟨d0, d1⟩ := k1.out.two
  clear hb
  go_wp2_with (go_at_call 77; refine (HW.out _).mono ?_; rintro e w' ⟨rfl, rfl⟩)
  refine (HF.out _).mono ?_
  rintro e w2 ⟨rfl, hb⟩
  have b2 := Lib.hid (b1.out.trans (hb.mono b1.out.size)); clear hb d0 d1
  go_wp2_with (fail)
  go_ret2
  exact ⟨by rw [hb'.out, hr'.out]; rfl, b2.out⟩

set_option maxHeartbeats 2000000 in
theorem iDoesKnow_any (z o x : Int) (w : World) :
    Calls Try.prog 53 #[.agg #[.int .i64 z, .int .i64 o], .int .i64 x] w fun e w' => e = .returned (.tuple #[.bool (dkR z o x), .bool (dkB z o x)]) ∧ Below w.heap.size w w' := by
  have b0 := Lib.hid ((Below.refl w.heap.size w).alloc (Nat.le_refl _) (.cells #[.int .i64 z, .int .i64 o] 51))
  have k0 := Lib.hid (kbox w z o 51)
  have HK := Lib.hid fun W => iIsKnown_any z o W
  have HW := Lib.hid fun W => isWord_any x W
  have HM := Lib.hid fun W => mask_any z o W
  have HA := Lib.hid fun W => knownAt_any x (bits .or .i64 z o) W
  have hR : Hid (dkR z o x = (dkB z o x && fitB z o x)) := rfl
  have hB : Hid (dkB z o x = (knOk z o && isW x)) := rfl
  cases h1 : knOk z o
  · rw [h1] at HK hB
    have hb' := Lib.hid (show dkB z o x = false from hB.out)
    have hr' := Lib.hid (show dkR z o x = false by rw [hR.out, hb'.out]; rfl)
    go_enter Try.func53, Try.ntmps53
    go_wp2_with (fail)
    refine (HK.out _).mono ?_
    rintro e w1 ⟨rfl, hb⟩
    have b1 := Lib.hid (b0.out.trans (hb.mono b0.out.size)); clear hb
    go_wp2_with (fail)
    go_ret2
    exact ⟨by rw [hb'.out, hr'.out]; rfl, b1.out⟩
  cases h2 : isW x
  · rw [h1] at HK
    rw [h2] at HW
    have hb' := Lib.hid (show dkB z o x = false by rw [hB.out, h2, Bool.and_false])
    have hr' := Lib.hid (show dkR z o x = false by rw [hR.out, hb'.out]; rfl)
    clear h1 h2
    go_enter Try.func53, Try.ntmps53
    go_wp2_with (fail)
    refine (HK.out _).mono ?_
    rintro e w1 ⟨rfl, hb⟩
    have b1 := Lib.hid (b0.out.trans (hb.mono b0.out.size)); clear hb
    go_wp2_with (go_at_call 78; refine (HW.out _).mono ?_; rintro e w' ⟨rfl, rfl⟩)
    go_ret2
    exact ⟨by rw [hb'.out, hr'.out]; rfl, b1.out⟩
  have hfit := Lib.hid (fit_eq (x := x) h1)
  rw [h1] at HK
  rw [h2] at HW
  have hb' := Lib.hid (show dkB z o x = true by rw [hB.out, h1, h2]; rfl)
  have hr' := Lib.hid (show dkR z o x = fitB z o x by rw [hR.out, hb'.out]; rfl)
  clear h1 h2
  generalize bits .or .i64 z o = m at *
  generalize bits .andNot .i64 m x = p at *
  generalize bits .and .i64 m x = q at *
  go_enter Try.func53, Try.ntmps53
  go_wp2_with (fail)
  refine (HK.out _).mono ?_
  rintro e w1 ⟨rfl, hb⟩
  have b1 := Lib.hid (b0.out.trans (hb.mono b0.out.size))
  have k1 := Lib.hid (k0.out.below hb (by simp))
  obtain ⟨d0, d1⟩ := k1.out.two
  have hz1 := hb.size
  simp at hz1
  have hz : w.heap.size < w1.heap.size := by omega
  clear hb hz1
  have b1d := Lib.hid b1.out.drew
  go_wp2_with (go_at_call 78; refine (HW.out _).mono ?_; rintro e w' ⟨rfl, rfl⟩)
  cases hpz : (p == z) <;> cases hqo : (q == o)
  all_goals
    rw [hpz, hqo] at hfit
    go_region_held3 (fun w' => w'.cell? ⟨w.heap.size, 0, none⟩ = some (.int .i64 z) ∧ w'.cell? ⟨w.heap.size, 1, none⟩ = some (.int .i64 o))
      (first | exact ⟨d0, d1⟩ | exact ⟨(hb3.cell hz).trans d0, (hb3.cell hz).trans d1⟩ | exact ⟨(hb4.cell (Nat.lt_of_lt_of_le hz hb3.size)).trans ((hb3.cell hz).trans d0), (hb4.cell (Nat.lt_of_lt_of_le hz hb3.size)).trans ((hb3.cell hz).trans d1)⟩ | go_keep)
      ((first
        | (go_at_call 97; (with_reducible refine (HM.out _).mono ?_); rintro e w3 ⟨rfl, hb3⟩)
        | (go_at_call 96; (with_reducible refine (HA.out _).mono ?_); rintro e w4 ⟨rfl, hb4⟩)))
    all_goals
      have b4 := Lib.hid ((b1d.out.trans (hb3.mono b1d.out.size)).trans (hb4.mono (Nat.le_trans b1d.out.size hb3.size)))
      clear hb3 hb4 d0 d1
      go_wp2
      go_ret2
      exact ⟨by rw [hb'.out, hr'.out, ← hfit.out]; rfl, b4.out⟩
end Go.Proofs.Ytcfmfbgnfpgpgaa
