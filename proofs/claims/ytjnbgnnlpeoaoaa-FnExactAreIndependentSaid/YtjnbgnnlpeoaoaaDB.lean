import Derived.Test.YtjnbgnnlpeoaoaaDA
import Derived.Test.YtjnbgnnlpeoaoaaLawA
import Derived.WalkKit
import Derived.WalkSpells
import Derived.WalkLawsBesides
import Derived.Deep.RegionLaw
import Derived.Lib.Hide
namespace Go.Proofs.Ytjnbgnnlpeoaoaa
open Go.RowKit
set_option linter.unusedVariables false
set_option maxRecDepth 100000

set_option maxHeartbeats 16000000 in
theorem lawAreIndependent (a0 a1 : In) (w : World) (hs0 : a0.op.size ≤ 9223372036854775807) (hs1 : a1.op.size ≤ 9223372036854775807) (R0 R1 : Bool)
    (hS : ∀ (w : World), Calls Try.prog 60 #[.agg #[.string a0.op, .int .i64 a0.d, .int .i64 a0.a, .int .i64 a0.b, .int .i64 a0.m], .agg #[.string a1.op, .int .i64 a1.d, .int .i64 a1.a, .int .i64 a1.b, .int .i64 a1.m]] w (ResAreIndependent R0 R1 w))
    (hI : ∀ (w : World), Calls Try.prog 61 #[.agg #[.string a0.op, .int .i64 a0.d, .int .i64 a0.a, .int .i64 a0.b, .int .i64 a0.m], .agg #[.string a1.op, .int .i64 a1.d, .int .i64 a1.a, .int .i64 a1.b, .int .i64 a1.m]] w (ResAreIndependent R0 R1 w)) :
    Calls Try.prog 16 #[.agg #[.string a0.op, .int .i64 a0.d, .int .i64 a0.a, .int .i64 a0.b, .int .i64 a0.m], .agg #[.string a1.op, .int .i64 a1.d, .int .i64 a1.a, .int .i64 a1.b, .int .i64 a1.m]] w fun e w' => e = .returned (.bool true) ∧ Below w.heap.size w w' := by
  have S := Lib.hid hS
  have I := Lib.hid hI
  clear hS hI
  obtain ⟨op, d, a, b, m⟩ := a0
  obtain ⟨op', d', a', b', m'⟩ := a1
  simp only at hs0 hs1 S I ⊢
  have hP0 := Lib.hid (fun W => toInstr_any op d a b m W)
  have hP1 := Lib.hid (fun W => toInstr_any op' d' a' b' m' W)
  have hT0 := Lib.hid (two_new 23 w ⟨op, d, a, b, m⟩ ⟨op', d', a', b', m'⟩)
  have hB0 := Lib.hid (two_below w (.cells #[.string op, .int .i64 d, .int .i64 a, .int .i64 b, .int .i64 m] 23) (.cells #[.string op', .int .i64 d', .int .i64 a', .int .i64 b', .int .i64 m'] 23))
  simp only at hT0
  have e0 : (R0 != R0) = false := by simp
  have e1 : (R1 != R1) = false := by simp
  go_enter Try.func16, Try.ntmps16
  go_wp2_with (fail)
  refine (szInstr_any op d a b m 1048576 _ hs0 (by omega) (by omega)).mono ?_
  rintro e w1 ⟨r0, rfl, hr0a, hr0b, hr0c, hb⟩
  have hz1 := hb.size
  simp at hz1
  have hT1 := Lib.hid (hT0.out.below hb (by simp))
  have hB1 := Lib.hid (hB0.out.trans (hb.mono (by simp; omega)))
  clear hb hr0b
  by_cases hr0 : 0 ≤ r0
  rotate_left
  · go_wp2
    go_ret
    exact ⟨rfl, hB1.out⟩
  obtain ⟨⟨xa, xb, xc, xd, xe⟩, ⟨ya, yb, yc, yd, ye⟩⟩ := hT1.out.cells
  simp only at xa xb xc xd xe ya yb yc yd ye
  go_wp2_with (fail)
  refine (szInstr_any op' d' a' b' m' r0 _ hs1 hr0 (by omega)).mono ?_
  rintro e w2 ⟨r1, rfl, hr1a, hr1b, hr1c, hb⟩
  clear xa xb xc xd xe ya yb yc yd ye
  have hz2 := hb.size
  have hT2 := Lib.hid (hT1.out.below hb (by omega))
  have hB2 := Lib.hid (hB1.out.trans (hb.mono (by omega)))
  clear hb hr1b
  by_cases hr1 : 0 ≤ r1
  rotate_left
  · go_wp2
    go_ret
    exact ⟨rfl, hB2.out⟩
  obtain ⟨⟨xa, xb, xc, xd, xe⟩, ⟨ya, yb, yc, yd, ye⟩⟩ := hT2.out.cells
  simp only at xa xb xc xd xe ya yb yc yd ye
  have k2 : w.heap.size + 1 < w2.heap.size := by omega
  clear hr0a hr0c hr1a hr1c hz1 hz2
  go_wp2_with (fail)
  go_region_law (first
    | (go_simp; go_at_call 22; (with_reducible refine (hP0.out _).mono ?_); rintro e u31 ⟨rfl, b31⟩; have xa31 := (b31.cell (p := ⟨w.heap.size, 0, none⟩) (by exact Nat.lt_of_succ_lt k2)).trans xa; have xb31 := (b31.cell (p := ⟨w.heap.size, 1, none⟩) (by exact Nat.lt_of_succ_lt k2)).trans xb; have xc31 := (b31.cell (p := ⟨w.heap.size, 2, none⟩) (by exact Nat.lt_of_succ_lt k2)).trans xc; have xd31 := (b31.cell (p := ⟨w.heap.size, 3, none⟩) (by exact Nat.lt_of_succ_lt k2)).trans xd; have xe31 := (b31.cell (p := ⟨w.heap.size, 4, none⟩) (by exact Nat.lt_of_succ_lt k2)).trans xe; have ya31 := (b31.cell (p := ⟨w.heap.size + 1, 0, none⟩) (by exact k2)).trans ya; have yb31 := (b31.cell (p := ⟨w.heap.size + 1, 1, none⟩) (by exact k2)).trans yb; have yc31 := (b31.cell (p := ⟨w.heap.size + 1, 2, none⟩) (by exact k2)).trans yc; have yd31 := (b31.cell (p := ⟨w.heap.size + 1, 3, none⟩) (by exact k2)).trans yd; have ye31 := (b31.cell (p := ⟨w.heap.size + 1, 4, none⟩) (by exact k2)).trans ye; have k31 : w.heap.size + 1 < u31.heap.size := (by exact Nat.lt_of_lt_of_le k2 b31.size))
    | (go_simp; go_at_call 22; (with_reducible refine (hP1.out _).mono ?_); rintro e u32 ⟨rfl, b32⟩; have xa32 := (b32.cell (p := ⟨w.heap.size, 0, none⟩) (by exact Nat.lt_of_succ_lt k31)).trans xa31; have xb32 := (b32.cell (p := ⟨w.heap.size, 1, none⟩) (by exact Nat.lt_of_succ_lt k31)).trans xb31; have xc32 := (b32.cell (p := ⟨w.heap.size, 2, none⟩) (by exact Nat.lt_of_succ_lt k31)).trans xc31; have xd32 := (b32.cell (p := ⟨w.heap.size, 3, none⟩) (by exact Nat.lt_of_succ_lt k31)).trans xd31; have xe32 := (b32.cell (p := ⟨w.heap.size, 4, none⟩) (by exact Nat.lt_of_succ_lt k31)).trans xe31; have ya32 := (b32.cell (p := ⟨w.heap.size + 1, 0, none⟩) (by exact k31)).trans ya31; have yb32 := (b32.cell (p := ⟨w.heap.size + 1, 1, none⟩) (by exact k31)).trans yb31; have yc32 := (b32.cell (p := ⟨w.heap.size + 1, 2, none⟩) (by exact k31)).trans yc31; have yd32 := (b32.cell (p := ⟨w.heap.size + 1, 3, none⟩) (by exact k31)).trans yd31; have ye32 := (b32.cell (p := ⟨w.heap.size + 1, 4, none⟩) (by exact k31)).trans ye31; have k32 : w.heap.size + 1 < u32.heap.size := (by exact Nat.lt_of_lt_of_le k31 b32.size))
    | (go_simp; go_at_call 60; (with_reducible refine (S.out _).mono ?_); rintro e u33 ⟨rfl, b33⟩; have xa33 := (b33.cell (p := ⟨w.heap.size, 0, none⟩) (by exact Nat.lt_of_succ_lt k32)).trans xa32; have xb33 := (b33.cell (p := ⟨w.heap.size, 1, none⟩) (by exact Nat.lt_of_succ_lt k32)).trans xb32; have xc33 := (b33.cell (p := ⟨w.heap.size, 2, none⟩) (by exact Nat.lt_of_succ_lt k32)).trans xc32; have xd33 := (b33.cell (p := ⟨w.heap.size, 3, none⟩) (by exact Nat.lt_of_succ_lt k32)).trans xd32; have xe33 := (b33.cell (p := ⟨w.heap.size, 4, none⟩) (by exact Nat.lt_of_succ_lt k32)).trans xe32; have ya33 := (b33.cell (p := ⟨w.heap.size + 1, 0, none⟩) (by exact k32)).trans ya32; have yb33 := (b33.cell (p := ⟨w.heap.size + 1, 1, none⟩) (by exact k32)).trans yb32; have yc33 := (b33.cell (p := ⟨w.heap.size + 1, 2, none⟩) (by exact k32)).trans yc32; have yd33 := (b33.cell (p := ⟨w.heap.size + 1, 3, none⟩) (by exact k32)).trans yd32; have ye33 := (b33.cell (p := ⟨w.heap.size + 1, 4, none⟩) (by exact k32)).trans ye32; have k33 : w.heap.size + 1 < u33.heap.size := (by exact Nat.lt_of_lt_of_le k32 b33.size)))
  all_goals
    have hB3 := Lib.hid (hB2.out.trans (((((Below.refl w2.heap.size w2).drew.trans b31).trans (b32.mono (by have := b31.size; exact this))).trans (b33.mono (by have h1 := b31.size; have h2 := b32.size; exact Nat.le_trans h1 h2))).mono (by omega)))
    have k4 : w.heap.size ≤ u33.heap.size := by omega
    clear xa xb xc xd xe ya yb yc yd ye xa31 xb31 xc31 xd31 xe31 ya31 yb31 yc31 yd31 ye31 xa32 xb32 xc32 xd32 xe32 ya32 yb32 yc32 yd32 ye32 b31 b32 b33 k31 k32 k2
    go_wp2_with (fail)
    go_region_law (first
      | (go_simp; go_at_call 22; (with_reducible refine (hP0.out _).mono ?_); rintro e u41 ⟨rfl, b41⟩; have xa41 := (b41.cell (p := ⟨w.heap.size, 0, none⟩) (by exact Nat.lt_of_succ_lt k33)).trans xa33; have xb41 := (b41.cell (p := ⟨w.heap.size, 1, none⟩) (by exact Nat.lt_of_succ_lt k33)).trans xb33; have xc41 := (b41.cell (p := ⟨w.heap.size, 2, none⟩) (by exact Nat.lt_of_succ_lt k33)).trans xc33; have xd41 := (b41.cell (p := ⟨w.heap.size, 3, none⟩) (by exact Nat.lt_of_succ_lt k33)).trans xd33; have xe41 := (b41.cell (p := ⟨w.heap.size, 4, none⟩) (by exact Nat.lt_of_succ_lt k33)).trans xe33; have ya41 := (b41.cell (p := ⟨w.heap.size + 1, 0, none⟩) (by exact k33)).trans ya33; have yb41 := (b41.cell (p := ⟨w.heap.size + 1, 1, none⟩) (by exact k33)).trans yb33; have yc41 := (b41.cell (p := ⟨w.heap.size + 1, 2, none⟩) (by exact k33)).trans yc33; have yd41 := (b41.cell (p := ⟨w.heap.size + 1, 3, none⟩) (by exact k33)).trans yd33; have ye41 := (b41.cell (p := ⟨w.heap.size + 1, 4, none⟩) (by exact k33)).trans ye33; have k41 : w.heap.size + 1 < u41.heap.size := (by exact Nat.lt_of_lt_of_le k33 b41.size))
      | (go_simp; go_at_call 22; (with_reducible refine (hP1.out _).mono ?_); rintro e u42 ⟨rfl, b42⟩; have xa42 := (b42.cell (p := ⟨w.heap.size, 0, none⟩) (by exact Nat.lt_of_succ_lt k41)).trans xa41; have xb42 := (b42.cell (p := ⟨w.heap.size, 1, none⟩) (by exact Nat.lt_of_succ_lt k41)).trans xb41; have xc42 := (b42.cell (p := ⟨w.heap.size, 2, none⟩) (by exact Nat.lt_of_succ_lt k41)).trans xc41; have xd42 := (b42.cell (p := ⟨w.heap.size, 3, none⟩) (by exact Nat.lt_of_succ_lt k41)).trans xd41; have xe42 := (b42.cell (p := ⟨w.heap.size, 4, none⟩) (by exact Nat.lt_of_succ_lt k41)).trans xe41; have ya42 := (b42.cell (p := ⟨w.heap.size + 1, 0, none⟩) (by exact k41)).trans ya41; have yb42 := (b42.cell (p := ⟨w.heap.size + 1, 1, none⟩) (by exact k41)).trans yb41; have yc42 := (b42.cell (p := ⟨w.heap.size + 1, 2, none⟩) (by exact k41)).trans yc41; have yd42 := (b42.cell (p := ⟨w.heap.size + 1, 3, none⟩) (by exact k41)).trans yd41; have ye42 := (b42.cell (p := ⟨w.heap.size + 1, 4, none⟩) (by exact k41)).trans ye41; have k42 : w.heap.size + 1 < u42.heap.size := (by exact Nat.lt_of_lt_of_le k41 b42.size))
      | (go_simp; go_at_call 61; (with_reducible refine (I.out _).mono ?_); rintro e u43 ⟨rfl, b43⟩; have xa43 := (b43.cell (p := ⟨w.heap.size, 0, none⟩) (by exact Nat.lt_of_succ_lt k42)).trans xa42; have xb43 := (b43.cell (p := ⟨w.heap.size, 1, none⟩) (by exact Nat.lt_of_succ_lt k42)).trans xb42; have xc43 := (b43.cell (p := ⟨w.heap.size, 2, none⟩) (by exact Nat.lt_of_succ_lt k42)).trans xc42; have xd43 := (b43.cell (p := ⟨w.heap.size, 3, none⟩) (by exact Nat.lt_of_succ_lt k42)).trans xd42; have xe43 := (b43.cell (p := ⟨w.heap.size, 4, none⟩) (by exact Nat.lt_of_succ_lt k42)).trans xe42; have ya43 := (b43.cell (p := ⟨w.heap.size + 1, 0, none⟩) (by exact k42)).trans ya42; have yb43 := (b43.cell (p := ⟨w.heap.size + 1, 1, none⟩) (by exact k42)).trans yb42; have yc43 := (b43.cell (p := ⟨w.heap.size + 1, 2, none⟩) (by exact k42)).trans yc42; have yd43 := (b43.cell (p := ⟨w.heap.size + 1, 3, none⟩) (by exact k42)).trans yd42; have ye43 := (b43.cell (p := ⟨w.heap.size + 1, 4, none⟩) (by exact k42)).trans ye42; have k43 : w.heap.size + 1 < u43.heap.size := (by exact Nat.lt_of_lt_of_le k42 b43.size)))
    all_goals
      have hB4 := Lib.hid (hB3.out.trans (((((Below.refl u33.heap.size u33).drew.trans b41).trans (b42.mono (by have := b41.size; exact this))).trans (b43.mono (by have h1 := b41.size; have h2 := b42.size; exact Nat.le_trans h1 h2))).mono k4))
      clear xa33 xb33 xc33 xd33 xe33 ya33 yb33 yc33 yd33 ye33 xa41 xb41 xc41 xd41 xe41 ya41 yb41 yc41 yd41 ye41 xa42 xb42 xc42 xd42 xe42 ya42 yb42 yc42 yd42 ye42 xa43 xb43 xc43 xd43 xe43 ya43 yb43 yc43 yd43 ye43 b41 b42 b43 k41 k42 k43 k33
      go_wp2
      go_ret
      exact ⟨rfl, hB4.out⟩
end Go.Proofs.Ytjnbgnnlpeoaoaa
