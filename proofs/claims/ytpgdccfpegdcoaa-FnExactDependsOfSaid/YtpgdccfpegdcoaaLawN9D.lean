import Derived.Test.YtpgdccfpegdcoaaVC
import Derived.Test.YtpgdccfpegdcoaaHE
import Derived.Test.YtpgdccfpegdcoaaKMInstr
import Derived.Test.YtpgdccfpegdcoaaKInstr
import Derived.Test.YtpgdccfpegdcoaaLI
import Derived.WalkKit
import Derived.WalkSpells
import Derived.WalkLawsBesides
import Derived.Lib.Hide
namespace Go.Proofs.Ytpgdccfpegdcoaa
open Go.RowKit
set_option linter.unusedVariables false

def ResDependsOf (R0 : List (List Int)) (R1 : Bool) (w : World) (e : Ending) (w' : World) : Prop := ∃ (A0 : Option Addr) (c0 : Nat), e = .returned (.tuple #[.slice A0 R0.length c0, .bool R1]) ∧ OX w' w.heap.size w'.heap.size (.slice A0 R0.length c0) R0 ∧ Below w.heap.size w w'
set_option maxHeartbeats 4000000 in
theorem lawDependsOf (A0 : Option Addr) (c0 : Nat) (a0 : List In) (w : World) (hl0 : a0.length ≤ 9223372036854775807) (h0 : RS In.enc 5 w 0 w.heap.size A0 a0) (hs0 : ∀ n ∈ a0, n.op.size ≤ 9223372036854775807) (R0 : List (List Int)) (R1 : Bool) (hR0 : SmallX R0)
    (hS : ∀ (L0 B0 : Nat) (A0 : Option Addr) (c0 : Nat) (w : World), a0.length ≤ 1048576 → RS In.enc 5 w L0 B0 A0 a0 → B0 ≤ w.heap.size → Calls Try.prog 28 #[.slice A0 a0.length c0] w (ResDependsOf R0 R1 w))
    (hI : ∀ (L0 B0 : Nat) (A0 : Option Addr) (c0 : Nat) (w : World), a0.length ≤ 1048576 → RS In.enc 5 w L0 B0 A0 a0 → B0 ≤ w.heap.size → a0.length ≤ c0 → Calls Try.prog 29 #[.slice A0 a0.length c0] w (ResDependsOf R0 R1 w)) :
    Calls Try.prog 4 #[.slice A0 a0.length c0] w fun e w' => e = .returned (.bool true) ∧ Below w.heap.size w w' := by
  have S := Lib.hid hS
  have I := Lib.hid hI
  have E0 := Lib.hid h0
  have Z0 := Lib.hid hs0
  clear hS hI h0 hs0
  have b0 := Lib.hid (Below.refl w.heap.size w)
  go_enter Try.func4, Try.ntmps4
  go_wp2_with (fail)
  refine (szInstrS_any 0 _ A0 c0 a0 1048576 _ hl0 (E0.out.below b0.out (Nat.le_refl _)) b0.out.size Z0.out (by omega) (by omega)).mono ?_
  rintro e w1 ⟨r0, rfl, hr0a, hr0b, hr0c, hb⟩
  have b1 := Lib.hid (b0.out.trans (hb.mono b0.out.size))
  have z1 := hb.size
  clear hb
  by_cases hr0 : 0 ≤ r0
  rotate_left
  · go_wp2
    go_ret
    exact ⟨rfl, b1.out⟩
  have hlen0 : a0.length ≤ 1048576 := by have := hr0b hr0; omega
  clear hr0b
  have e1 : (R1 != R1) = false := by simp
  go_wp2_with (fail)
  refine (toInstrS_any 0 _ A0 c0 a0 _ hlen0 (E0.out.below b1.out (Nat.le_refl _)) b1.out.size).mono ?_
  rintro e w2 ⟨Ap0, cp0, rfl, ho, hb⟩
  have b2 := Lib.hid (b1.out.trans (hb.mono b1.out.size))
  have z2 := hb.size
  clear hb
  have op0 := Lib.hid ho
  clear ho
  go_wp2_with (fail)
  refine (S.out _ _ _ _ _ hlen0 (In.rs op0.out) (by omega)).mono ?_
  rintro e w3 ⟨AW0, cW0, rfl, ho0, hb⟩
  have b3 := Lib.hid (b2.out.trans (hb.mono b2.out.size))
  have z3 := hb.size
  replace op0 := Lib.hid (op0.out.chg (Chg.ofBelow (lo := 0) (hi := 0) hb) (.inr (Nat.zero_le _)))
  clear hb
  have oW0 := Lib.hid ho0
  clear ho0
  go_wp2_with (fail)
  refine (toInstrS_any 0 _ A0 c0 a0 _ hlen0 (E0.out.below b3.out (Nat.le_refl _)) b3.out.size).mono ?_
  rintro e w4 ⟨Aq0, cq0, rfl, ho, hb⟩
  have b4 := Lib.hid (b3.out.trans (hb.mono b3.out.size))
  have z4 := hb.size
  replace oW0 := Lib.hid (oW0.out.chg (Chg.ofBelow (lo := 0) (hi := 0) hb) (.inr (Nat.zero_le _)))
  clear hb
  have oq0 := Lib.hid ho
  clear ho
  go_wp2_with (fail)
  refine (I.out _ _ _ _ _ hlen0 (In.rs oq0.out) (by omega) (OK.cap oq0.out)).mono ?_
  rintro e w5 ⟨AG0, cG0, rfl, ho0, hb⟩
  have b5 := Lib.hid (b4.out.trans (hb.mono b4.out.size))
  have z5 := hb.size
  replace oW0 := Lib.hid (oW0.out.chg (Chg.ofBelow (lo := 0) (hi := 0) hb) (.inr (Nat.zero_le _)))
  replace oq0 := Lib.hid (oq0.out.chg (Chg.ofBelow (lo := 0) (hi := 0) hb) (.inr (Nat.zero_le _)))
  clear hb
  have oG0 := Lib.hid ho0
  clear ho0
  go_wp2_with (fail)
  refine (eqIntSS_k _ _ _ _ _ _ _ _ _ _ R0 R0 _ rfl rfl hR0 (OX.rs oG0.out) (OX.rs oW0.out) (by omega) (by omega) rfl).mono ?_
  rintro e w6 ⟨rfl, hb⟩
  have b6 := Lib.hid (b5.out.trans (hb.mono b5.out.size))
  have z6 := hb.size
  replace oW0 := Lib.hid (oW0.out.chg (Chg.ofBelow (lo := 0) (hi := 0) hb) (.inr (Nat.zero_le _)))
  replace oq0 := Lib.hid (oq0.out.chg (Chg.ofBelow (lo := 0) (hi := 0) hb) (.inr (Nat.zero_le _)))
  replace oG0 := Lib.hid (oG0.out.chg (Chg.ofBelow (lo := 0) (hi := 0) hb) (.inr (Nat.zero_le _)))
  clear hb
  go_wp2_with (fail)
  refine (toInstrS_any 0 _ A0 c0 a0 _ hlen0 (E0.out.below b6.out (Nat.le_refl _)) b6.out.size).mono ?_
  rintro e w7 ⟨As0, cs0, rfl, ho, hb⟩
  have b7 := Lib.hid (b6.out.trans (hb.mono b6.out.size))
  have z7 := hb.size
  replace oW0 := Lib.hid (oW0.out.chg (Chg.ofBelow (lo := 0) (hi := 0) hb) (.inr (Nat.zero_le _)))
  replace oq0 := Lib.hid (oq0.out.chg (Chg.ofBelow (lo := 0) (hi := 0) hb) (.inr (Nat.zero_le _)))
  replace oG0 := Lib.hid (oG0.out.chg (Chg.ofBelow (lo := 0) (hi := 0) hb) (.inr (Nat.zero_le _)))
  clear hb
  have os0 := Lib.hid ho
  clear ho
  go_wp2_with (fail)
  refine (eqInstrS_any _ _ _ _ _ _ _ _ _ _ a0 a0 _ rfl rfl hlen0 (In.rs oq0.out) (In.rs os0.out) (by omega) (by omega) rfl).mono ?_
  rintro e w8 ⟨rfl, hb⟩
  have b8 := Lib.hid (b7.out.trans (hb.mono b7.out.size))
  have z8 := hb.size
  replace oW0 := Lib.hid (oW0.out.chg (Chg.ofBelow (lo := 0) (hi := 0) hb) (.inr (Nat.zero_le _)))
  replace oq0 := Lib.hid (oq0.out.chg (Chg.ofBelow (lo := 0) (hi := 0) hb) (.inr (Nat.zero_le _)))
  replace oG0 := Lib.hid (oG0.out.chg (Chg.ofBelow (lo := 0) (hi := 0) hb) (.inr (Nat.zero_le _)))
  replace os0 := Lib.hid (os0.out.chg (Chg.ofBelow (lo := 0) (hi := 0) hb) (.inr (Nat.zero_le _)))
  clear hb
  go_wp2_with (fail)
  refine (markInstrS_any _ _ _ _ a0 (1) _ hlen0 (by omega) (by omega) oq0.out).mono ?_
  rintro e w9 ⟨rfl, _, hc⟩
  have b9 := Lib.hid (below_chg b8.out hc b8.out.size (by omega))
  have z9 := hc.size
  replace oW0 := Lib.hid (oW0.out.chg hc (by omega))
  replace oG0 := Lib.hid (oG0.out.chg hc (by omega))
  clear hc
  have hk : (0 : Int) ≤ 1 + 5 * (a0.length : Int) := by omega
  go_wp2_with (fail)
  refine (eqIntSS_k _ _ _ _ _ _ _ _ _ _ R0 R0 _ rfl rfl hR0 (OX.rs oG0.out) (OX.rs oW0.out) (by omega) (by omega) rfl).mono ?_
  rintro e w10 ⟨rfl, hb⟩
  have b10 := Lib.hid (b9.out.trans (hb.mono b9.out.size))
  have z10 := hb.size
  replace oW0 := Lib.hid (oW0.out.chg (Chg.ofBelow (lo := 0) (hi := 0) hb) (.inr (Nat.zero_le _)))
  replace oG0 := Lib.hid (oG0.out.chg (Chg.ofBelow (lo := 0) (hi := 0) hb) (.inr (Nat.zero_le _)))
  clear hb
  go_wp2_with (fail)
  refine (markIntSS_k _ _ _ _ R0 (1) _ hR0 (by omega) (by omega) oG0.out).mono ?_
  rintro e w11 ⟨rfl, ho, hc⟩
  have b11 := Lib.hid (below_chg b10.out hc b10.out.size (by omega))
  have z11 := hc.size
  replace oW0 := Lib.hid (oW0.out.chg hc (by omega))
  clear hc
  replace oG0 := Lib.hid ho
  clear ho
  go_wp2_with (fail)
  refine (heldIntSS_k _ _ _ _ R0 _ 1 _ hR0 rfl (by omega) (by omega) (OX.rs oG0.out)).mono ?_
  rintro e w12 ⟨rfl, hb⟩
  have b12 := Lib.hid (b11.out.trans (hb.mono b11.out.size))
  have z12 := hb.size
  replace oW0 := Lib.hid (oW0.out.chg (Chg.ofBelow (lo := 0) (hi := 0) hb) (.inr (Nat.zero_le _)))
  replace oG0 := Lib.hid (oG0.out.chg (Chg.ofBelow (lo := 0) (hi := 0) hb) (.inr (Nat.zero_le _)))
  clear hb
  go_wp2_with (fail)
  refine (toInstrS_any 0 _ A0 c0 a0 _ hlen0 (E0.out.below b12.out (Nat.le_refl _)) b12.out.size).mono ?_
  rintro e w13 ⟨Ah0, ch0, rfl, ho, hb⟩
  have b13 := Lib.hid (b12.out.trans (hb.mono b12.out.size))
  have z13 := hb.size
  replace oW0 := Lib.hid (oW0.out.chg (Chg.ofBelow (lo := 0) (hi := 0) hb) (.inr (Nat.zero_le _)))
  replace oG0 := Lib.hid (oG0.out.chg (Chg.ofBelow (lo := 0) (hi := 0) hb) (.inr (Nat.zero_le _)))
  clear hb
  have oh0 := Lib.hid ho
  clear ho
  go_wp2_with (fail)
  refine (I.out _ _ _ _ _ hlen0 (In.rs oh0.out) (by omega) (OK.cap oh0.out)).mono ?_
  rintro e w14 ⟨AH0, cH0, rfl, ho0, hb⟩
  have b14 := Lib.hid (b13.out.trans (hb.mono b13.out.size))
  have z14 := hb.size
  replace oW0 := Lib.hid (oW0.out.chg (Chg.ofBelow (lo := 0) (hi := 0) hb) (.inr (Nat.zero_le _)))
  replace oG0 := Lib.hid (oG0.out.chg (Chg.ofBelow (lo := 0) (hi := 0) hb) (.inr (Nat.zero_le _)))
  replace oh0 := Lib.hid (oh0.out.chg (Chg.ofBelow (lo := 0) (hi := 0) hb) (.inr (Nat.zero_le _)))
  clear hb
  have oH0 := Lib.hid ho0
  clear ho0
  go_wp2_with (fail)
  refine (eqIntSS_k _ _ _ _ _ _ _ _ _ _ R0 R0 _ rfl rfl hR0 (OX.rs oH0.out) (OX.rs oW0.out) (by omega) (by omega) rfl).mono ?_
  rintro e w15 ⟨rfl, hb⟩
  have b15 := Lib.hid (b14.out.trans (hb.mono b14.out.size))
  have z15 := hb.size
  replace oW0 := Lib.hid (oW0.out.chg (Chg.ofBelow (lo := 0) (hi := 0) hb) (.inr (Nat.zero_le _)))
  replace oG0 := Lib.hid (oG0.out.chg (Chg.ofBelow (lo := 0) (hi := 0) hb) (.inr (Nat.zero_le _)))
  replace oh0 := Lib.hid (oh0.out.chg (Chg.ofBelow (lo := 0) (hi := 0) hb) (.inr (Nat.zero_le _)))
  replace oH0 := Lib.hid (oH0.out.chg (Chg.ofBelow (lo := 0) (hi := 0) hb) (.inr (Nat.zero_le _)))
  clear hb
  go_wp2_with (fail)
  refine (heldIntSS_k _ _ _ _ R0 _ 1 _ hR0 rfl (by omega) (by omega) (OX.rs oG0.out)).mono ?_
  rintro e w16 ⟨rfl, hb⟩
  have b16 := Lib.hid (b15.out.trans (hb.mono b15.out.size))
  have z16 := hb.size
  replace oW0 := Lib.hid (oW0.out.chg (Chg.ofBelow (lo := 0) (hi := 0) hb) (.inr (Nat.zero_le _)))
  replace oG0 := Lib.hid (oG0.out.chg (Chg.ofBelow (lo := 0) (hi := 0) hb) (.inr (Nat.zero_le _)))
  replace oh0 := Lib.hid (oh0.out.chg (Chg.ofBelow (lo := 0) (hi := 0) hb) (.inr (Nat.zero_le _)))
  replace oH0 := Lib.hid (oH0.out.chg (Chg.ofBelow (lo := 0) (hi := 0) hb) (.inr (Nat.zero_le _)))
  clear hb
  go_wp2
  go_ret
  exact ⟨rfl, b16.out⟩
end Go.Proofs.Ytpgdccfpegdcoaa
