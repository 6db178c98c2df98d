import Derived.Test.YtcfmfbgnfpgpgaaKD
import Derived.Test.YtcfmfbgnfpgpgaaKNode
import Derived.Test.YtcfmfbgnfpgpgaaKMNode
import Derived.WalkKit
import Derived.WalkSpells
import Derived.WalkLawsBesides
import Derived.Lib.Hide
/- The law of bits that are equal for all inputs. -/
namespace Go.Proofs.Ytcfmfbgnfpgpgaa
open Go.RowKit
set_option linter.unusedVariables false
set_option maxRecDepth 100000

set_option maxHeartbeats 4000000 in
theorem lawKnownBits (A0 : Option Addr) (c0 : Nat) (a0 : List Nd) (w : World) (hl0 : a0.length ≤ 9223372036854775807) (h0 : RS Nd.enc 4 w 0 w.heap.size A0 a0) (hs0 : ∀ n ∈ a0, n.op.size ≤ 9223372036854775807) :
    Calls Try.prog 16 #[.slice A0 a0.length c0] w fun e w' => e = .returned (.bool true) ∧ Below w.heap.size w w' := by
  have S := Lib.hid fun (L0 B0 : Nat) (A0 : Option Addr) (c0 : Nat) (w : World) (hl : a0.length ≤ 1048576) (h : RS Nd.enc 4 w L0 B0 A0 a0) (hB : B0 ≤ w.heap.size) => sKnownBits_any L0 B0 A0 c0 a0 w hl h.ns hB
  have I := Lib.hid fun (L0 B0 : Nat) (A0 : Option Addr) (c0 : Nat) (w : World) (hl : a0.length ≤ 1048576) (h : RS Nd.enc 4 w L0 B0 A0 a0) (hB : B0 ≤ w.heap.size) => iKnownBits_any L0 B0 A0 c0 a0 w hl h.ns hB
  have E0 := Lib.hid h0
  have Z0 := Lib.hid hs0
  clear h0 hs0
  have b0 := Lib.hid (Below.refl w.heap.size w)
  generalize kbZ a0 = R0 at *
  generalize kbO a0 = R1 at *
  generalize good a0 = R2 at *
  have e2 : (R2 != R2) = false := by simp
  go_enter Try.func16, Try.ntmps16
  go_wp2_with (fail)
  refine (szNodeS_k 0 _ A0 c0 a0 1048576 _ hl0 (E0.out.below b0.out (Nat.le_refl _)) b0.out.size Z0.out (by omega) (by omega)).mono ?_
  rintro e w1 ⟨r0, rfl, hr0a, hr0b, hr0c, hb⟩
  have b1 := Lib.hid (b0.out.trans (hb.mono b0.out.size))
  have z1 := hb.size
  clear hb
  by_cases hr0 : 0 ≤ r0
  rotate_left
  · go_wp2
    go_ret
    exact ⟨rfl, b1.out⟩
  have hlen0 : a0.length ≤ 1048576 := by have := hr0b hr0; omega
  clear hr0b
  go_wp2_with (fail)
  refine (toNodeS_k 0 _ A0 c0 a0 _ hlen0 (E0.out.below b1.out (Nat.le_refl _)) b1.out.size).mono ?_
  rintro e w2 ⟨Ap0, cp0, rfl, ho, hb⟩
  have b2 := Lib.hid (b1.out.trans (hb.mono b1.out.size))
  have z2 := hb.size
  clear hb
  have op0 := Lib.hid ho
  clear ho
  go_wp2_with (fail)
  refine (S.out _ _ _ _ _ hlen0 (Nd.rs op0.out) (by omega)).mono ?_
  rintro e w3 ⟨rfl, hb⟩
  have b3 := Lib.hid (b2.out.trans (hb.mono b2.out.size))
  have z3 := hb.size
  clear hb op0
  obtain ⟨W3, hW3⟩ : ∃ W3, W3 = w3.alloc (.cells #[.int .i64 R0, .int .i64 R1] 51) := ⟨_, rfl⟩
  have hb3 : Below w3.heap.size w3 W3 := by rw [hW3]; exact (Below.refl _ _).alloc (Nat.le_refl _) _
  have b3a := Lib.hid (b3.out.trans (hb3.mono b3.out.size))
  have k3 : Hid (IB W3 w3.heap.size 51 [R0, R1]) := by unfold Hid; rw [hW3]; exact kbox _ _ _ _
  have hW3h := Lib.hid hW3
  clear hW3 hb3
  go_wp2_with (fail)
  rw [← hW3h.out]
  refine (toNodeS_k 0 _ A0 c0 a0 _ hlen0 (E0.out.below b3a.out (Nat.le_refl _)) b3a.out.size).mono ?_
  rintro e w4 ⟨Aq0, cq0, rfl, ho, hb⟩
  have b4 := Lib.hid (b3a.out.trans (hb.mono b3a.out.size))
  have k4 := Lib.hid (k3.out.below hb k3.out.lt)
  clear hb
  have oq0 := Lib.hid ho
  clear ho
  go_wp2_with (fail)
  refine (I.out _ _ _ _ _ hlen0 (Nd.rs oq0.out) (Nat.le_refl _)).mono ?_
  rintro e w5 ⟨rfl, hb⟩
  have b5 := Lib.hid (b4.out.trans (hb.mono b4.out.size))
  have k5 := Lib.hid (k4.out.below hb k4.out.lt)
  replace oq0 := Lib.hid (oq0.out.chg (Chg.ofBelow (lo := 0) (hi := 0) hb) (.inr (Nat.zero_le _)))
  have z5 := Lib.hid hb.size
  clear hb
  obtain ⟨W5, hW5⟩ : ∃ W5, W5 = w5.alloc (.cells #[.int .i64 R0, .int .i64 R1] 51) := ⟨_, rfl⟩
  have hb5 : Below w5.heap.size w5 W5 := by rw [hW5]; exact (Below.refl _ _).alloc (Nat.le_refl _) _
  have b5a := Lib.hid (b5.out.trans (hb5.mono b5.out.size))
  have k5a := Lib.hid (k5.out.below hb5 k5.out.lt)
  have m5 : Hid (IB W5 w5.heap.size 51 [R0, R1]) := by unfold Hid; rw [hW5]; exact kbox _ _ _ _
  replace oq0 := Lib.hid (oq0.out.chg (Chg.ofBelow (lo := 0) (hi := 0) hb5) (.inr (Nat.zero_le _)))
  have z5a := Lib.hid (Nat.le_trans z5.out hb5.size)
  have hW5h := Lib.hid hW5
  clear hW5 hb5
  obtain ⟨d0, d1⟩ := k5a.out.two
  obtain ⟨d2, d3⟩ := m5.out.two
  have hd0 := d0
  have hd1 := d1
  have hd2 := d2
  have hd3 := d3
  rw [hW5h.out] at d0 d1 d2 d3
  go_wp2_with (fail)
  rw [← hW5h.out]
  refine (eqKnownL_any R0 R1 R0 R1 _).mono ?_
  rintro e w6 ⟨rfl, hb⟩
  have b6 := Lib.hid (b5a.out.trans (hb.mono b5a.out.size))
  replace oq0 := Lib.hid (oq0.out.chg (Chg.ofBelow (lo := 0) (hi := 0) hb) (.inr (Nat.zero_le _)))
  have z6 := Lib.hid (Nat.le_trans z5a.out hb.size)
  clear hb d0 d1 d2 d3 hd0 hd1 hd2 hd3
  rw [show (R0 == R0 && R1 == R1) = true by simp]
  go_wp2_with (fail)
  refine (toNodeS_k 0 _ A0 c0 a0 _ hlen0 (E0.out.below b6.out (Nat.le_refl _)) b6.out.size).mono ?_
  rintro e w7 ⟨As0, cs0, rfl, ho, hb⟩
  have b7 := Lib.hid (b6.out.trans (hb.mono b6.out.size))
  replace oq0 := Lib.hid (oq0.out.chg (Chg.ofBelow (lo := 0) (hi := 0) hb) (.inr (Nat.zero_le _)))
  have z7 := Lib.hid (Nat.le_trans z6.out hb.size)
  clear hb
  have os0 := Lib.hid ho
  clear ho
  go_wp2_with (fail)
  refine (eqNodeS_k _ _ _ _ _ _ _ _ _ _ a0 a0 _ rfl rfl hlen0 (Nd.rs oq0.out) (Nd.rs os0.out) z7.out (Nat.le_refl _) rfl).mono ?_
  rintro e w8 ⟨rfl, hb⟩
  have b8 := Lib.hid (b7.out.trans (hb.mono b7.out.size))
  clear hb
  go_wp2
  go_ret
  exact ⟨rfl, b8.out⟩
end Go.Proofs.Ytcfmfbgnfpgpgaa
