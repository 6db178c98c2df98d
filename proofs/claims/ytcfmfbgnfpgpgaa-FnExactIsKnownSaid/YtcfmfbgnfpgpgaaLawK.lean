import Derived.Test.YtcfmfbgnfpgpgaaKC
import Derived.WalkKit
import Derived.WalkSpells
import Derived.WalkLawsBesides
import Derived.Deep.RegionHeld3
import Derived.Lib.Hide
/- The laws over known bits by value. -/
namespace Go.Proofs.Ytcfmfbgnfpgpgaa
open Go.RowKit
set_option linter.unusedVariables false
set_option maxRecDepth 100000

set_option maxHeartbeats 2000000 in
theorem lawIsKnown (z o : Int) (w : World) :
    Calls Try.prog 13 #[.agg #[.int .i64 z, .int .i64 o]] w fun e w' => e = .returned (.bool true) ∧ Below w.heap.size w w' := by
  have b0 := Lib.hid ((Below.refl w.heap.size w).alloc (Nat.le_refl _) (.cells #[.int .i64 z, .int .i64 o] 49))
  have k0 := Lib.hid (kbox w z o 49)
  have HT := Lib.hid fun W => toKnown_any z o W
  have HS := Lib.hid fun W => sIsKnown_any z o W
  have HI := Lib.hid fun W => iIsKnown_any z o W
  generalize knOk z o = r at *
  have er : (r != r) = false := by simp
  go_enter Try.func13, Try.ntmps13
  go_wp2_with (fail)
  refine (HT.out _).mono ?_
  rintro e w1 ⟨rfl, hb⟩
  have b1 := Lib.hid (b0.out.trans (hb.mono b0.out.size))
  have k1 := Lib.hid (k0.out.below hb (by simp))
  have z1 : Hid (w.heap.size + 1 ≤ w1.heap.size) := by have := hb.size; simp at this; exact this
  clear hb
  go_wp2_with (fail)
  refine (HS.out _).mono ?_
  rintro e w2 ⟨rfl, hb⟩
  have b2 := Lib.hid (b1.out.trans (hb.mono b1.out.size))
  have k2 := Lib.hid (k1.out.below hb (by have := z1.out; omega))
  have z2 := Lib.hid (Nat.le_trans z1.out hb.size)
  clear hb
  obtain ⟨d0, d1⟩ := k2.out.two
  go_wp2_with (fail)
  refine (HT.out _).mono ?_
  rintro e w3 ⟨rfl, hb⟩
  have b3 := Lib.hid (b2.out.trans (hb.mono b2.out.size))
  clear hb d0 d1
  go_wp2_with (fail)
  refine (HI.out _).mono ?_
  rintro e w4 ⟨rfl, hb⟩
  have b4 := Lib.hid (b3.out.trans (hb.mono b3.out.size))
  clear hb
  go_wp2
  go_ret
  exact ⟨rfl, b4.out⟩

set_option maxHeartbeats 2000000 in
theorem lawDoesKnow (z o x : Int) (w : World) :
    Calls Try.prog 15 #[.agg #[.int .i64 z, .int .i64 o], .int .i64 x] w fun e w' => e = .returned (.bool true) ∧ Below w.heap.size w w' := by
  have b0 := Lib.hid ((Below.refl w.heap.size w).alloc (Nat.le_refl _) (.cells #[.int .i64 z, .int .i64 o] 49))
  have k0 := Lib.hid (kbox w z o 49)
  have HT := Lib.hid fun W => toKnown_any z o W
  have HS := Lib.hid fun W => sDoesKnow_any z o x W
  have HI := Lib.hid fun W => iDoesKnow_any z o x W
  generalize dkR z o x = r at *
  generalize dkB z o x = s at *
  have er : (r != r) = false := by simp
  have es : (s != s) = false := by simp
  go_enter Try.func15, Try.ntmps15
  go_wp2_with (fail)
  refine (HT.out _).mono ?_
  rintro e w1 ⟨rfl, hb⟩
  have b1 := Lib.hid (b0.out.trans (hb.mono b0.out.size))
  have k1 := Lib.hid (k0.out.below hb (by simp))
  have z1 : Hid (w.heap.size + 1 ≤ w1.heap.size) := by have := hb.size; simp at this; exact this
  clear hb
  go_wp2_with (fail)
  refine (HS.out _).mono ?_
  rintro e w2 ⟨rfl, hb⟩
  have b2 := Lib.hid (b1.out.trans (hb.mono b1.out.size))
  have k2 := Lib.hid (k1.out.below hb (by have := z1.out; omega))
  have z2 := Lib.hid (Nat.le_trans z1.out hb.size)
  clear hb
  obtain ⟨d0, d1⟩ := k2.out.two
  go_wp2_with (fail)
  refine (HT.out _).mono ?_
  rintro e w3 ⟨rfl, hb⟩
  have b3 := Lib.hid (b2.out.trans (hb.mono b2.out.size))
  clear hb d0 d1
  go_wp2_with (fail)
  refine (HI.out _).mono ?_
  rintro e w4 ⟨rfl, hb⟩
  have b4 := Lib.hid (b3.out.trans (hb.mono b3.out.size))
  clear hb
  go_wp2
  go_ret
  exact ⟨rfl, b4.out⟩
end Go.Proofs.Ytcfmfbgnfpgpgaa
