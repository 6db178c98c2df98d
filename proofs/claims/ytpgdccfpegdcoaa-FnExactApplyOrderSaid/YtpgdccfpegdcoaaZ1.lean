/- Texts of this proof, one behind the other: LawN9A, N9S, N9T, N9U, N9V, OC. -/
import Derived.Test.YtpgdccfpegdcoaaVC
import Derived.Test.YtpgdccfpegdcoaaLawE
import Derived.Test.YtpgdccfpegdcoaaKMInstr
import Derived.Test.YtpgdccfpegdcoaaKInstr
import Derived.Test.YtpgdccfpegdcoaaLI
import Derived.WalkKit
import Derived.WalkSpells
import Derived.WalkLawsBesides
import Derived.Lib.Hide
import Derived.Test.YtpgdccfpegdcoaaZ2
import Derived.Deep.RegionLaw
import Derived.Deep.RegionHeld3
import Derived.Test.YtpgdccfpegdcoaaZ3
import Derived.Test.YtpgdccfpegdcoaaRO
import Derived.Test.YtpgdccfpegdcoaaLawN9B
import Derived.Test.YtpgdccfpegdcoaaZ5
import Derived.ProofKit
import Derived.OpenShut
import Derived.ShutString
import Derived.ChangeOld
import Derived.Below
import Derived.Deep.Slices
import Derived.Deep.Fields
namespace Go.Proofs.Ytpgdccfpegdcoaa
open Go.RowKit
set_option linter.unusedVariables false

def ResFirstOrder (R0 : List (Int)) (R1 : Bool) (w : World) (e : Ending) (w' : World) : Prop := ∃ (A0 : Option Addr) (c0 : Nat), e = .returned (.tuple #[.slice A0 R0.length c0, .bool R1]) ∧ OW w' w.heap.size w'.heap.size (.slice A0 R0.length c0) R0 ∧ Below w.heap.size w w'
set_option maxHeartbeats 4000000 in
theorem lawFirstOrder (A0 : Option Addr) (c0 : Nat) (a0 : List In) (w : World) (hl0 : a0.length ≤ 9223372036854775807) (h0 : RS In.enc 5 w 0 w.heap.size A0 a0) (hs0 : ∀ n ∈ a0, n.op.size ≤ 9223372036854775807) (R0 : List (Int)) (R1 : Bool) (hR0 : R0.length ≤ 1048576)
    (hS : ∀ (L0 B0 : Nat) (A0 : Option Addr) (c0 : Nat) (w : World), a0.length ≤ 1048576 → RS In.enc 5 w L0 B0 A0 a0 → B0 ≤ w.heap.size → Calls Try.prog 43 #[.slice A0 a0.length c0] w (ResFirstOrder R0 R1 w))
    (hI : ∀ (L0 B0 : Nat) (A0 : Option Addr) (c0 : Nat) (w : World), a0.length ≤ 1048576 → RS In.enc 5 w L0 B0 A0 a0 → B0 ≤ w.heap.size → Calls Try.prog 44 #[.slice A0 a0.length c0] w (ResFirstOrder R0 R1 w)) :
    Calls Try.prog 8 #[.slice A0 a0.length c0] w fun e w' => e = .returned (.bool true) ∧ Below w.heap.size w w' := by
  have S := Lib.hid hS
  have I := Lib.hid hI
  have E0 := Lib.hid h0
  have Z0 := Lib.hid hs0
  clear hS hI h0 hs0
  have b0 := Lib.hid (Below.refl w.heap.size w)
  go_enter Try.func8, Try.ntmps8
  go_wp2_with (fail)
  refine (szInstrS_any 0 _ A0 c0 a0 1048576 _ hl0 (E0.out.below b0.out (Nat.le_refl _)) b0.out.size Z0.out (by omega) (by omega)).mono ?_
  rintro e w1 ⟨r0, rfl, hr0a, hr0b, hr0c, hb⟩
  have b1 := Lib.hid (b0.out.trans (hb.mono b0.out.size))
  have z1 := hb.size
  clear hb
  by_cases hr0 : 0 ≤ r0
  rotate_left
  · go_wp2
    go_ret
    exact ⟨rfl, b1.out⟩
  have hlen0 : a0.length ≤ 1048576 := by have := hr0b hr0; omega
  clear hr0b
  have e1 : (R1 != R1) = false := by simp
  go_wp2_with (fail)
  refine (toInstrS_any 0 _ A0 c0 a0 _ hlen0 (E0.out.below b1.out (Nat.le_refl _)) b1.out.size).mono ?_
  rintro e w2 ⟨Ap0, cp0, rfl, ho, hb⟩
  have b2 := Lib.hid (b1.out.trans (hb.mono b1.out.size))
  have z2 := hb.size
  clear hb
  have op0 := Lib.hid ho
  clear ho
  go_wp2_with (fail)
  refine (S.out _ _ _ _ _ hlen0 (In.rs op0.out) (by omega)).mono ?_
  rintro e w3 ⟨AW0, cW0, rfl, ho0, hb⟩
  have b3 := Lib.hid (b2.out.trans (hb.mono b2.out.size))
  have z3 := hb.size
  replace op0 := Lib.hid (op0.out.chg (Chg.ofBelow (lo := 0) (hi := 0) hb) (.inr (Nat.zero_le _)))
  clear hb
  have oW0 := Lib.hid ho0
  clear ho0
  go_wp2_with (fail)
  refine (toInstrS_any 0 _ A0 c0 a0 _ hlen0 (E0.out.below b3.out (Nat.le_refl _)) b3.out.size).mono ?_
  rintro e w4 ⟨Aq0, cq0, rfl, ho, hb⟩
  have b4 := Lib.hid (b3.out.trans (hb.mono b3.out.size))
  have z4 := hb.size
  replace oW0 := Lib.hid (oW0.out.chg (Chg.ofBelow (lo := 0) (hi := 0) hb) (.inr (Nat.zero_le _)))
  clear hb
  have oq0 := Lib.hid ho
  clear ho
  go_wp2_with (fail)
  refine (I.out _ _ _ _ _ hlen0 (In.rs oq0.out) (by omega)).mono ?_
  rintro e w5 ⟨AG0, cG0, rfl, ho0, hb⟩
  have b5 := Lib.hid (b4.out.trans (hb.mono b4.out.size))
  have z5 := hb.size
  replace oW0 := Lib.hid (oW0.out.chg (Chg.ofBelow (lo := 0) (hi := 0) hb) (.inr (Nat.zero_le _)))
  replace oq0 := Lib.hid (oq0.out.chg (Chg.ofBelow (lo := 0) (hi := 0) hb) (.inr (Nat.zero_le _)))
  clear hb
  have oG0 := Lib.hid ho0
  clear ho0
  go_wp2_with (fail)
  refine (eqIntS_any _ _ _ _ _ _ _ _ _ _ R0 R0 _ rfl rfl hR0 (OW.rs oG0.out) (OW.rs oW0.out) (by omega) (by omega) rfl).mono ?_
  rintro e w6 ⟨rfl, hb⟩
  have b6 := Lib.hid (b5.out.trans (hb.mono b5.out.size))
  have z6 := hb.size
  replace oW0 := Lib.hid (oW0.out.chg (Chg.ofBelow (lo := 0) (hi := 0) hb) (.inr (Nat.zero_le _)))
  replace oq0 := Lib.hid (oq0.out.chg (Chg.ofBelow (lo := 0) (hi := 0) hb) (.inr (Nat.zero_le _)))
  replace oG0 := Lib.hid (oG0.out.chg (Chg.ofBelow (lo := 0) (hi := 0) hb) (.inr (Nat.zero_le _)))
  clear hb
  go_wp2_with (fail)
  refine (toInstrS_any 0 _ A0 c0 a0 _ hlen0 (E0.out.below b6.out (Nat.le_refl _)) b6.out.size).mono ?_
  rintro e w7 ⟨As0, cs0, rfl, ho, hb⟩
  have b7 := Lib.hid (b6.out.trans (hb.mono b6.out.size))
  have z7 := hb.size
  replace oW0 := Lib.hid (oW0.out.chg (Chg.ofBelow (lo := 0) (hi := 0) hb) (.inr (Nat.zero_le _)))
  replace oq0 := Lib.hid (oq0.out.chg (Chg.ofBelow (lo := 0) (hi := 0) hb) (.inr (Nat.zero_le _)))
  replace oG0 := Lib.hid (oG0.out.chg (Chg.ofBelow (lo := 0) (hi := 0) hb) (.inr (Nat.zero_le _)))
  clear hb
  have os0 := Lib.hid ho
  clear ho
  go_wp2_with (fail)
  refine (eqInstrS_any _ _ _ _ _ _ _ _ _ _ a0 a0 _ rfl rfl hlen0 (In.rs oq0.out) (In.rs os0.out) (by omega) (by omega) rfl).mono ?_
  rintro e w8 ⟨rfl, hb⟩
  have b8 := Lib.hid (b7.out.trans (hb.mono b7.out.size))
  have z8 := hb.size
  replace oW0 := Lib.hid (oW0.out.chg (Chg.ofBelow (lo := 0) (hi := 0) hb) (.inr (Nat.zero_le _)))
  replace oq0 := Lib.hid (oq0.out.chg (Chg.ofBelow (lo := 0) (hi := 0) hb) (.inr (Nat.zero_le _)))
  replace oG0 := Lib.hid (oG0.out.chg (Chg.ofBelow (lo := 0) (hi := 0) hb) (.inr (Nat.zero_le _)))
  replace os0 := Lib.hid (os0.out.chg (Chg.ofBelow (lo := 0) (hi := 0) hb) (.inr (Nat.zero_le _)))
  clear hb
  go_wp2_with (fail)
  refine (markInstrS_any _ _ _ _ a0 (1) _ hlen0 (by omega) (by omega) oq0.out).mono ?_
  rintro e w9 ⟨rfl, _, hc⟩
  have b9 := Lib.hid (below_chg b8.out hc b8.out.size (by omega))
  have z9 := hc.size
  replace oW0 := Lib.hid (oW0.out.chg hc (by omega))
  replace oG0 := Lib.hid (oG0.out.chg hc (by omega))
  clear hc
  have hk : (0 : Int) ≤ 1 + 5 * (a0.length : Int) := by omega
  go_wp2_with (fail)
  refine (eqIntS_any _ _ _ _ _ _ _ _ _ _ R0 R0 _ rfl rfl hR0 (OW.rs oG0.out) (OW.rs oW0.out) (by omega) (by omega) rfl).mono ?_
  rintro e w10 ⟨rfl, hb⟩
  have b10 := Lib.hid (b9.out.trans (hb.mono b9.out.size))
  have z10 := hb.size
  replace oW0 := Lib.hid (oW0.out.chg (Chg.ofBelow (lo := 0) (hi := 0) hb) (.inr (Nat.zero_le _)))
  replace oG0 := Lib.hid (oG0.out.chg (Chg.ofBelow (lo := 0) (hi := 0) hb) (.inr (Nat.zero_le _)))
  clear hb
  go_wp2_with (fail)
  refine (markIntS_c _ _ _ _ R0 (1) _ hR0 (by omega) (by omega) oG0.out).mono ?_
  rintro e w11 ⟨rfl, ho, hc⟩
  have b11 := Lib.hid (below_chg b10.out hc b10.out.size (by omega))
  have z11 := hc.size
  replace oW0 := Lib.hid (oW0.out.chg hc (by omega))
  clear hc
  replace oG0 := Lib.hid ho
  clear ho
  have hq : (0 : Int) ≤ 1 + (R0.length : Int) := by omega
  go_wp2_with (fail)
  refine (heldIntS_any _ _ _ _ _ 1 _ hR0 (by omega) (by omega) (OW.rs oG0.out) ).mono ?_
  rintro e w_ ⟨rfl, rfl⟩
  go_wp2_with (fail)
  refine (toInstrS_any 0 _ A0 c0 a0 _ hlen0 (E0.out.below b11.out (Nat.le_refl _)) b11.out.size).mono ?_
  rintro e w12 ⟨Ah0, ch0, rfl, ho, hb⟩
  have b12 := Lib.hid (b11.out.trans (hb.mono b11.out.size))
  have z12 := hb.size
  replace oW0 := Lib.hid (oW0.out.chg (Chg.ofBelow (lo := 0) (hi := 0) hb) (.inr (Nat.zero_le _)))
  replace oG0 := Lib.hid (oG0.out.chg (Chg.ofBelow (lo := 0) (hi := 0) hb) (.inr (Nat.zero_le _)))
  clear hb
  have oh0 := Lib.hid ho
  clear ho
  go_wp2_with (fail)
  refine (I.out _ _ _ _ _ hlen0 (In.rs oh0.out) (by omega)).mono ?_
  rintro e w13 ⟨AH0, cH0, rfl, ho0, hb⟩
  have b13 := Lib.hid (b12.out.trans (hb.mono b12.out.size))
  have z13 := hb.size
  replace oW0 := Lib.hid (oW0.out.chg (Chg.ofBelow (lo := 0) (hi := 0) hb) (.inr (Nat.zero_le _)))
  replace oG0 := Lib.hid (oG0.out.chg (Chg.ofBelow (lo := 0) (hi := 0) hb) (.inr (Nat.zero_le _)))
  replace oh0 := Lib.hid (oh0.out.chg (Chg.ofBelow (lo := 0) (hi := 0) hb) (.inr (Nat.zero_le _)))
  clear hb
  have oH0 := Lib.hid ho0
  clear ho0
  go_wp2_with (fail)
  refine (eqIntS_any _ _ _ _ _ _ _ _ _ _ R0 R0 _ rfl rfl hR0 (OW.rs oH0.out) (OW.rs oW0.out) (by omega) (by omega) rfl).mono ?_
  rintro e w14 ⟨rfl, hb⟩
  have b14 := Lib.hid (b13.out.trans (hb.mono b13.out.size))
  have z14 := hb.size
  replace oW0 := Lib.hid (oW0.out.chg (Chg.ofBelow (lo := 0) (hi := 0) hb) (.inr (Nat.zero_le _)))
  replace oG0 := Lib.hid (oG0.out.chg (Chg.ofBelow (lo := 0) (hi := 0) hb) (.inr (Nat.zero_le _)))
  replace oh0 := Lib.hid (oh0.out.chg (Chg.ofBelow (lo := 0) (hi := 0) hb) (.inr (Nat.zero_le _)))
  replace oH0 := Lib.hid (oH0.out.chg (Chg.ofBelow (lo := 0) (hi := 0) hb) (.inr (Nat.zero_le _)))
  clear hb
  go_wp2_with (fail)
  refine (heldIntS_any _ _ _ _ _ 1 _ hR0 (by omega) (by omega) (OW.rs oG0.out) ).mono ?_
  rintro e w_ ⟨rfl, rfl⟩
  go_wp2
  go_ret
  exact ⟨rfl, b14.out⟩

def ResLengthOf (R0 : Int) (R1 : Bool) (w : World) (e : Ending) (w' : World) : Prop := e = .returned (.tuple #[.int .i64 R0, .bool R1]) ∧ Below w.heap.size w w'
set_option maxHeartbeats 4000000 in
theorem lawLengthOf (A0 : Option Addr) (c0 : Nat) (a0 : List In) (A1 : Option Addr) (c1 : Nat) (a1 : List Int) (w : World) (hl0 : a0.length ≤ 9223372036854775807) (h0 : RS In.enc 5 w 0 w.heap.size A0 a0) (hs0 : ∀ n ∈ a0, n.op.size ≤ 9223372036854775807) (hl1 : a1.length ≤ 9223372036854775807) (h1 : IS w 0 w.heap.size A1 a1) (R0 : Int) (R1 : Bool)
    (hS : ∀ (L0 B0 : Nat) (A0 : Option Addr) (c0 : Nat) (L1 B1 : Nat) (A1 : Option Addr) (c1 : Nat) (w : World), a0.length ≤ 1048576 → RS In.enc 5 w L0 B0 A0 a0 → B0 ≤ w.heap.size → a1.length ≤ 1048576 → IS w L1 B1 A1 a1 → B1 ≤ w.heap.size → Calls Try.prog 50 #[.slice A0 a0.length c0, .slice A1 a1.length c1] w (ResLengthOf R0 R1 w))
    (hI : ∀ (L0 B0 : Nat) (A0 : Option Addr) (c0 : Nat) (L1 B1 : Nat) (A1 : Option Addr) (c1 : Nat) (w : World), a0.length ≤ 1048576 → RS In.enc 5 w L0 B0 A0 a0 → B0 ≤ w.heap.size → a1.length ≤ 1048576 → IS w L1 B1 A1 a1 → B1 ≤ w.heap.size → Calls Try.prog 51 #[.slice A0 a0.length c0, .slice A1 a1.length c1] w (ResLengthOf R0 R1 w)) :
    Calls Try.prog 11 #[.slice A0 a0.length c0, .slice A1 a1.length c1] w fun e w' => e = .returned (.bool true) ∧ Below w.heap.size w w' := by
  have S := Lib.hid hS
  have I := Lib.hid hI
  have E0 := Lib.hid h0
  have E1 := Lib.hid h1
  have Z0 := Lib.hid hs0
  clear hS hI h0 h1 hs0
  by_cases g1 : a1.length ≤ 1048576
  rotate_left
  · have g1' : (1048576 : Int) < (a1.length : Int) := by omega
    clear g1
    go_enter Try.func11, Try.ntmps11
    go_wp2
    go_ret
    exact ⟨rfl, Below.refl _ _⟩
  have b0 := Lib.hid (Below.refl w.heap.size w)
  go_enter Try.func11, Try.ntmps11
  go_wp2_with (fail)
  refine (szInstrS_any 0 _ A0 c0 a0 1048576 _ hl0 (E0.out.below b0.out (Nat.le_refl _)) b0.out.size Z0.out (by omega) (by omega)).mono ?_
  rintro e w1 ⟨r0, rfl, hr0a, hr0b, hr0c, hb⟩
  have b1 := Lib.hid (b0.out.trans (hb.mono b0.out.size))
  have z1 := hb.size
  clear hb
  by_cases hr0 : 0 ≤ r0
  rotate_left
  · go_wp2
    go_ret
    exact ⟨rfl, b1.out⟩
  have hlen0 : a0.length ≤ 1048576 := by have := hr0b hr0; omega
  clear hr0b
  have hlen1 : a1.length ≤ 1048576 := g1
  have e0 : (R0 != R0) = false := by simp
  have e1 : (R1 != R1) = false := by simp
  go_wp2_with (fail)
  refine (toInstrS_any 0 _ A0 c0 a0 _ hlen0 (E0.out.below b1.out (Nat.le_refl _)) b1.out.size).mono ?_
  rintro e w2 ⟨Ap0, cp0, rfl, ho, hb⟩
  have b2 := Lib.hid (b1.out.trans (hb.mono b1.out.size))
  have z2 := hb.size
  clear hb
  have op0 := Lib.hid ho
  clear ho
  go_wp2_with (fail)
  refine (toIntS_any 0 _ A1 c1 a1 _ hlen1 (E1.out.below b2.out (Nat.le_refl _)) b2.out.size).mono ?_
  rintro e w3 ⟨Ap1, cp1, rfl, ho, hb⟩
  have b3 := Lib.hid (b2.out.trans (hb.mono b2.out.size))
  have z3 := hb.size
  replace op0 := Lib.hid (op0.out.chg (Chg.ofBelow (lo := 0) (hi := 0) hb) (.inr (Nat.zero_le _)))
  clear hb
  have op1 := Lib.hid ho
  clear ho
  go_wp2_with (fail)
  refine (S.out _ _ _ _ _ _ _ _ _ hlen0 (In.rs op0.out) (by omega) hlen1 (OW.rs op1.out) (by omega)).mono ?_
  rintro e w4 ⟨rfl, hb⟩
  have b4 := Lib.hid (b3.out.trans (hb.mono b3.out.size))
  have z4 := hb.size
  replace op0 := Lib.hid (op0.out.chg (Chg.ofBelow (lo := 0) (hi := 0) hb) (.inr (Nat.zero_le _)))
  replace op1 := Lib.hid (op1.out.chg (Chg.ofBelow (lo := 0) (hi := 0) hb) (.inr (Nat.zero_le _)))
  clear hb
  go_wp2_with (fail)
  refine (toInstrS_any 0 _ A0 c0 a0 _ hlen0 (E0.out.below b4.out (Nat.le_refl _)) b4.out.size).mono ?_
  rintro e w5 ⟨Aq0, cq0, rfl, ho, hb⟩
  have b5 := Lib.hid (b4.out.trans (hb.mono b4.out.size))
  have z5 := hb.size
  clear hb
  have oq0 := Lib.hid ho
  clear ho
  go_wp2_with (fail)
  refine (toIntS_any 0 _ A1 c1 a1 _ hlen1 (E1.out.below b5.out (Nat.le_refl _)) b5.out.size).mono ?_
  rintro e w6 ⟨Aq1, cq1, rfl, ho, hb⟩
  have b6 := Lib.hid (b5.out.trans (hb.mono b5.out.size))
  have z6 := hb.size
  replace oq0 := Lib.hid (oq0.out.chg (Chg.ofBelow (lo := 0) (hi := 0) hb) (.inr (Nat.zero_le _)))
  clear hb
  have oq1 := Lib.hid ho
  clear ho
  go_wp2_with (fail)
  refine (I.out _ _ _ _ _ _ _ _ _ hlen0 (In.rs oq0.out) (by omega) hlen1 (OW.rs oq1.out) (by omega)).mono ?_
  rintro e w7 ⟨rfl, hb⟩
  have b7 := Lib.hid (b6.out.trans (hb.mono b6.out.size))
  have z7 := hb.size
  replace oq0 := Lib.hid (oq0.out.chg (Chg.ofBelow (lo := 0) (hi := 0) hb) (.inr (Nat.zero_le _)))
  replace oq1 := Lib.hid (oq1.out.chg (Chg.ofBelow (lo := 0) (hi := 0) hb) (.inr (Nat.zero_le _)))
  clear hb
  go_wp2_with (fail)
  refine (toInstrS_any 0 _ A0 c0 a0 _ hlen0 (E0.out.below b7.out (Nat.le_refl _)) b7.out.size).mono ?_
  rintro e w8 ⟨As0, cs0, rfl, ho, hb⟩
  have b8 := Lib.hid (b7.out.trans (hb.mono b7.out.size))
  have z8 := hb.size
  replace oq0 := Lib.hid (oq0.out.chg (Chg.ofBelow (lo := 0) (hi := 0) hb) (.inr (Nat.zero_le _)))
  replace oq1 := Lib.hid (oq1.out.chg (Chg.ofBelow (lo := 0) (hi := 0) hb) (.inr (Nat.zero_le _)))
  clear hb
  have os0 := Lib.hid ho
  clear ho
  go_wp2_with (fail)
  refine (eqInstrS_any _ _ _ _ _ _ _ _ _ _ a0 a0 _ rfl rfl hlen0 (In.rs oq0.out) (In.rs os0.out) (by omega) (by omega) rfl).mono ?_
  rintro e w9 ⟨rfl, hb⟩
  have b9 := Lib.hid (b8.out.trans (hb.mono b8.out.size))
  have z9 := hb.size
  replace oq0 := Lib.hid (oq0.out.chg (Chg.ofBelow (lo := 0) (hi := 0) hb) (.inr (Nat.zero_le _)))
  replace oq1 := Lib.hid (oq1.out.chg (Chg.ofBelow (lo := 0) (hi := 0) hb) (.inr (Nat.zero_le _)))
  replace os0 := Lib.hid (os0.out.chg (Chg.ofBelow (lo := 0) (hi := 0) hb) (.inr (Nat.zero_le _)))
  clear hb
  go_wp2_with (fail)
  refine (toIntS_any 0 _ A1 c1 a1 _ hlen1 (E1.out.below b9.out (Nat.le_refl _)) b9.out.size).mono ?_
  rintro e w10 ⟨As1, cs1, rfl, ho, hb⟩
  have b10 := Lib.hid (b9.out.trans (hb.mono b9.out.size))
  have z10 := hb.size
  replace oq0 := Lib.hid (oq0.out.chg (Chg.ofBelow (lo := 0) (hi := 0) hb) (.inr (Nat.zero_le _)))
  replace oq1 := Lib.hid (oq1.out.chg (Chg.ofBelow (lo := 0) (hi := 0) hb) (.inr (Nat.zero_le _)))
  clear hb
  have os1 := Lib.hid ho
  clear ho
  go_wp2_with (fail)
  refine (eqIntS_any _ _ _ _ _ _ _ _ _ _ a1 a1 _ rfl rfl hlen1 (OW.rs oq1.out) (OW.rs os1.out) (by omega) (by omega) rfl).mono ?_
  rintro e w11 ⟨rfl, hb⟩
  have b11 := Lib.hid (b10.out.trans (hb.mono b10.out.size))
  have z11 := hb.size
  replace oq0 := Lib.hid (oq0.out.chg (Chg.ofBelow (lo := 0) (hi := 0) hb) (.inr (Nat.zero_le _)))
  replace oq1 := Lib.hid (oq1.out.chg (Chg.ofBelow (lo := 0) (hi := 0) hb) (.inr (Nat.zero_le _)))
  replace os1 := Lib.hid (os1.out.chg (Chg.ofBelow (lo := 0) (hi := 0) hb) (.inr (Nat.zero_le _)))
  clear hb
  go_wp2
  go_ret
  exact ⟨rfl, b11.out⟩

def ResEarliestOf (R0 : List (Int)) (R1 : Bool) (w : World) (e : Ending) (w' : World) : Prop := ∃ (A0 : Option Addr) (c0 : Nat), e = .returned (.tuple #[.slice A0 R0.length c0, .bool R1]) ∧ OW w' w.heap.size w'.heap.size (.slice A0 R0.length c0) R0 ∧ Below w.heap.size w w'
set_option maxHeartbeats 4000000 in
theorem lawEarliestOf (A0 : Option Addr) (c0 : Nat) (a0 : List In) (w : World) (hl0 : a0.length ≤ 9223372036854775807) (h0 : RS In.enc 5 w 0 w.heap.size A0 a0) (hs0 : ∀ n ∈ a0, n.op.size ≤ 9223372036854775807) (R0 : List (Int)) (R1 : Bool) (hR0 : R0.length ≤ 1048576)
    (hS : ∀ (L0 B0 : Nat) (A0 : Option Addr) (c0 : Nat) (w : World), a0.length ≤ 1048576 → RS In.enc 5 w L0 B0 A0 a0 → B0 ≤ w.heap.size → Calls Try.prog 52 #[.slice A0 a0.length c0] w (ResEarliestOf R0 R1 w))
    (hI : ∀ (L0 B0 : Nat) (A0 : Option Addr) (c0 : Nat) (w : World), a0.length ≤ 1048576 → RS In.enc 5 w L0 B0 A0 a0 → B0 ≤ w.heap.size → a0.length ≤ c0 → Calls Try.prog 53 #[.slice A0 a0.length c0] w (ResEarliestOf R0 R1 w)) :
    Calls Try.prog 12 #[.slice A0 a0.length c0] w fun e w' => e = .returned (.bool true) ∧ Below w.heap.size w w' := by
  have S := Lib.hid hS
  have I := Lib.hid hI
  have E0 := Lib.hid h0
  have Z0 := Lib.hid hs0
  clear hS hI h0 hs0
  have b0 := Lib.hid (Below.refl w.heap.size w)
  go_enter Try.func12, Try.ntmps12
  go_wp2_with (fail)
  refine (szInstrS_any 0 _ A0 c0 a0 1048576 _ hl0 (E0.out.below b0.out (Nat.le_refl _)) b0.out.size Z0.out (by omega) (by omega)).mono ?_
  rintro e w1 ⟨r0, rfl, hr0a, hr0b, hr0c, hb⟩
  have b1 := Lib.hid (b0.out.trans (hb.mono b0.out.size))
  have z1 := hb.size
  clear hb
  by_cases hr0 : 0 ≤ r0
  rotate_left
  · go_wp2
    go_ret
    exact ⟨rfl, b1.out⟩
  have hlen0 : a0.length ≤ 1048576 := by have := hr0b hr0; omega
  clear hr0b
  have e1 : (R1 != R1) = false := by simp
  go_wp2_with (fail)
  refine (toInstrS_any 0 _ A0 c0 a0 _ hlen0 (E0.out.below b1.out (Nat.le_refl _)) b1.out.size).mono ?_
  rintro e w2 ⟨Ap0, cp0, rfl, ho, hb⟩
  have b2 := Lib.hid (b1.out.trans (hb.mono b1.out.size))
  have z2 := hb.size
  clear hb
  have op0 := Lib.hid ho
  clear ho
  go_wp2_with (fail)
  refine (S.out _ _ _ _ _ hlen0 (In.rs op0.out) (by omega)).mono ?_
  rintro e w3 ⟨AW0, cW0, rfl, ho0, hb⟩
  have b3 := Lib.hid (b2.out.trans (hb.mono b2.out.size))
  have z3 := hb.size
  replace op0 := Lib.hid (op0.out.chg (Chg.ofBelow (lo := 0) (hi := 0) hb) (.inr (Nat.zero_le _)))
  clear hb
  have oW0 := Lib.hid ho0
  clear ho0
  go_wp2_with (fail)
  refine (toInstrS_any 0 _ A0 c0 a0 _ hlen0 (E0.out.below b3.out (Nat.le_refl _)) b3.out.size).mono ?_
  rintro e w4 ⟨Aq0, cq0, rfl, ho, hb⟩
  have b4 := Lib.hid (b3.out.trans (hb.mono b3.out.size))
  have z4 := hb.size
  replace oW0 := Lib.hid (oW0.out.chg (Chg.ofBelow (lo := 0) (hi := 0) hb) (.inr (Nat.zero_le _)))
  clear hb
  have oq0 := Lib.hid ho
  clear ho
  go_wp2_with (fail)
  refine (I.out _ _ _ _ _ hlen0 (In.rs oq0.out) (by omega) (OK.cap oq0.out)).mono ?_
  rintro e w5 ⟨AG0, cG0, rfl, ho0, hb⟩
  have b5 := Lib.hid (b4.out.trans (hb.mono b4.out.size))
  have z5 := hb.size
  replace oW0 := Lib.hid (oW0.out.chg (Chg.ofBelow (lo := 0) (hi := 0) hb) (.inr (Nat.zero_le _)))
  replace oq0 := Lib.hid (oq0.out.chg (Chg.ofBelow (lo := 0) (hi := 0) hb) (.inr (Nat.zero_le _)))
  clear hb
  have oG0 := Lib.hid ho0
  clear ho0
  go_wp2_with (fail)
  refine (eqIntS_any _ _ _ _ _ _ _ _ _ _ R0 R0 _ rfl rfl hR0 (OW.rs oG0.out) (OW.rs oW0.out) (by omega) (by omega) rfl).mono ?_
  rintro e w6 ⟨rfl, hb⟩
  have b6 := Lib.hid (b5.out.trans (hb.mono b5.out.size))
  have z6 := hb.size
  replace oW0 := Lib.hid (oW0.out.chg (Chg.ofBelow (lo := 0) (hi := 0) hb) (.inr (Nat.zero_le _)))
  replace oq0 := Lib.hid (oq0.out.chg (Chg.ofBelow (lo := 0) (hi := 0) hb) (.inr (Nat.zero_le _)))
  replace oG0 := Lib.hid (oG0.out.chg (Chg.ofBelow (lo := 0) (hi := 0) hb) (.inr (Nat.zero_le _)))
  clear hb
  go_wp2_with (fail)
  refine (toInstrS_any 0 _ A0 c0 a0 _ hlen0 (E0.out.below b6.out (Nat.le_refl _)) b6.out.size).mono ?_
  rintro e w7 ⟨As0, cs0, rfl, ho, hb⟩
  have b7 := Lib.hid (b6.out.trans (hb.mono b6.out.size))
  have z7 := hb.size
  replace oW0 := Lib.hid (oW0.out.chg (Chg.ofBelow (lo := 0) (hi := 0) hb) (.inr (Nat.zero_le _)))
  replace oq0 := Lib.hid (oq0.out.chg (Chg.ofBelow (lo := 0) (hi := 0) hb) (.inr (Nat.zero_le _)))
  replace oG0 := Lib.hid (oG0.out.chg (Chg.ofBelow (lo := 0) (hi := 0) hb) (.inr (Nat.zero_le _)))
  clear hb
  have os0 := Lib.hid ho
  clear ho
  go_wp2_with (fail)
  refine (eqInstrS_any _ _ _ _ _ _ _ _ _ _ a0 a0 _ rfl rfl hlen0 (In.rs oq0.out) (In.rs os0.out) (by omega) (by omega) rfl).mono ?_
  rintro e w8 ⟨rfl, hb⟩
  have b8 := Lib.hid (b7.out.trans (hb.mono b7.out.size))
  have z8 := hb.size
  replace oW0 := Lib.hid (oW0.out.chg (Chg.ofBelow (lo := 0) (hi := 0) hb) (.inr (Nat.zero_le _)))
  replace oq0 := Lib.hid (oq0.out.chg (Chg.ofBelow (lo := 0) (hi := 0) hb) (.inr (Nat.zero_le _)))
  replace oG0 := Lib.hid (oG0.out.chg (Chg.ofBelow (lo := 0) (hi := 0) hb) (.inr (Nat.zero_le _)))
  replace os0 := Lib.hid (os0.out.chg (Chg.ofBelow (lo := 0) (hi := 0) hb) (.inr (Nat.zero_le _)))
  clear hb
  go_wp2_with (fail)
  refine (markInstrS_any _ _ _ _ a0 (1) _ hlen0 (by omega) (by omega) oq0.out).mono ?_
  rintro e w9 ⟨rfl, _, hc⟩
  have b9 := Lib.hid (below_chg b8.out hc b8.out.size (by omega))
  have z9 := hc.size
  replace oW0 := Lib.hid (oW0.out.chg hc (by omega))
  replace oG0 := Lib.hid (oG0.out.chg hc (by omega))
  clear hc
  have hk : (0 : Int) ≤ 1 + 5 * (a0.length : Int) := by omega
  go_wp2_with (fail)
  refine (eqIntS_any _ _ _ _ _ _ _ _ _ _ R0 R0 _ rfl rfl hR0 (OW.rs oG0.out) (OW.rs oW0.out) (by omega) (by omega) rfl).mono ?_
  rintro e w10 ⟨rfl, hb⟩
  have b10 := Lib.hid (b9.out.trans (hb.mono b9.out.size))
  have z10 := hb.size
  replace oW0 := Lib.hid (oW0.out.chg (Chg.ofBelow (lo := 0) (hi := 0) hb) (.inr (Nat.zero_le _)))
  replace oG0 := Lib.hid (oG0.out.chg (Chg.ofBelow (lo := 0) (hi := 0) hb) (.inr (Nat.zero_le _)))
  clear hb
  go_wp2_with (fail)
  refine (markIntS_c _ _ _ _ R0 (1) _ hR0 (by omega) (by omega) oG0.out).mono ?_
  rintro e w11 ⟨rfl, ho, hc⟩
  have b11 := Lib.hid (below_chg b10.out hc b10.out.size (by omega))
  have z11 := hc.size
  replace oW0 := Lib.hid (oW0.out.chg hc (by omega))
  clear hc
  replace oG0 := Lib.hid ho
  clear ho
  have hq : (0 : Int) ≤ 1 + (R0.length : Int) := by omega
  go_wp2_with (fail)
  refine (heldIntS_any _ _ _ _ _ 1 _ hR0 (by omega) (by omega) (OW.rs oG0.out) ).mono ?_
  rintro e w_ ⟨rfl, rfl⟩
  go_wp2_with (fail)
  refine (toInstrS_any 0 _ A0 c0 a0 _ hlen0 (E0.out.below b11.out (Nat.le_refl _)) b11.out.size).mono ?_
  rintro e w12 ⟨Ah0, ch0, rfl, ho, hb⟩
  have b12 := Lib.hid (b11.out.trans (hb.mono b11.out.size))
  have z12 := hb.size
  replace oW0 := Lib.hid (oW0.out.chg (Chg.ofBelow (lo := 0) (hi := 0) hb) (.inr (Nat.zero_le _)))
  replace oG0 := Lib.hid (oG0.out.chg (Chg.ofBelow (lo := 0) (hi := 0) hb) (.inr (Nat.zero_le _)))
  clear hb
  have oh0 := Lib.hid ho
  clear ho
  go_wp2_with (fail)
  refine (I.out _ _ _ _ _ hlen0 (In.rs oh0.out) (by omega) (OK.cap oh0.out)).mono ?_
  rintro e w13 ⟨AH0, cH0, rfl, ho0, hb⟩
  have b13 := Lib.hid (b12.out.trans (hb.mono b12.out.size))
  have z13 := hb.size
  replace oW0 := Lib.hid (oW0.out.chg (Chg.ofBelow (lo := 0) (hi := 0) hb) (.inr (Nat.zero_le _)))
  replace oG0 := Lib.hid (oG0.out.chg (Chg.ofBelow (lo := 0) (hi := 0) hb) (.inr (Nat.zero_le _)))
  replace oh0 := Lib.hid (oh0.out.chg (Chg.ofBelow (lo := 0) (hi := 0) hb) (.inr (Nat.zero_le _)))
  clear hb
  have oH0 := Lib.hid ho0
  clear ho0
  go_wp2_with (fail)
  refine (eqIntS_any _ _ _ _ _ _ _ _ _ _ R0 R0 _ rfl rfl hR0 (OW.rs oH0.out) (OW.rs oW0.out) (by omega) (by omega) rfl).mono ?_
  rintro e w14 ⟨rfl, hb⟩
  have b14 := Lib.hid (b13.out.trans (hb.mono b13.out.size))
  have z14 := hb.size
  replace oW0 := Lib.hid (oW0.out.chg (Chg.ofBelow (lo := 0) (hi := 0) hb) (.inr (Nat.zero_le _)))
  replace oG0 := Lib.hid (oG0.out.chg (Chg.ofBelow (lo := 0) (hi := 0) hb) (.inr (Nat.zero_le _)))
  replace oh0 := Lib.hid (oh0.out.chg (Chg.ofBelow (lo := 0) (hi := 0) hb) (.inr (Nat.zero_le _)))
  replace oH0 := Lib.hid (oH0.out.chg (Chg.ofBelow (lo := 0) (hi := 0) hb) (.inr (Nat.zero_le _)))
  clear hb
  go_wp2_with (fail)
  refine (heldIntS_any _ _ _ _ _ 1 _ hR0 (by omega) (by omega) (OW.rs oG0.out) ).mono ?_
  rintro e w_ ⟨rfl, rfl⟩
  go_wp2
  go_ret
  exact ⟨rfl, b14.out⟩

def ResPathBound (R0 : Int) (R1 : Bool) (w : World) (e : Ending) (w' : World) : Prop := e = .returned (.tuple #[.int .i64 R0, .bool R1]) ∧ Below w.heap.size w w'
set_option maxHeartbeats 4000000 in
theorem lawPathBound (A0 : Option Addr) (c0 : Nat) (a0 : List In) (w : World) (hl0 : a0.length ≤ 9223372036854775807) (h0 : RS In.enc 5 w 0 w.heap.size A0 a0) (hs0 : ∀ n ∈ a0, n.op.size ≤ 9223372036854775807) (R0 : Int) (R1 : Bool)
    (hS : ∀ (L0 B0 : Nat) (A0 : Option Addr) (c0 : Nat) (w : World), a0.length ≤ 1048576 → RS In.enc 5 w L0 B0 A0 a0 → B0 ≤ w.heap.size → Calls Try.prog 56 #[.slice A0 a0.length c0] w (ResPathBound R0 R1 w))
    (hI : ∀ (L0 B0 : Nat) (A0 : Option Addr) (c0 : Nat) (w : World), a0.length ≤ 1048576 → RS In.enc 5 w L0 B0 A0 a0 → B0 ≤ w.heap.size → a0.length ≤ c0 → Calls Try.prog 57 #[.slice A0 a0.length c0] w (ResPathBound R0 R1 w)) :
    Calls Try.prog 14 #[.slice A0 a0.length c0] w fun e w' => e = .returned (.bool true) ∧ Below w.heap.size w w' := by
  have S := Lib.hid hS
  have I := Lib.hid hI
  have E0 := Lib.hid h0
  have Z0 := Lib.hid hs0
  clear hS hI h0 hs0
  have b0 := Lib.hid (Below.refl w.heap.size w)
  go_enter Try.func14, Try.ntmps14
  go_wp2_with (fail)
  refine (szInstrS_any 0 _ A0 c0 a0 1048576 _ hl0 (E0.out.below b0.out (Nat.le_refl _)) b0.out.size Z0.out (by omega) (by omega)).mono ?_
  rintro e w1 ⟨r0, rfl, hr0a, hr0b, hr0c, hb⟩
  have b1 := Lib.hid (b0.out.trans (hb.mono b0.out.size))
  have z1 := hb.size
  clear hb
  by_cases hr0 : 0 ≤ r0
  rotate_left
  · go_wp2
    go_ret
    exact ⟨rfl, b1.out⟩
  have hlen0 : a0.length ≤ 1048576 := by have := hr0b hr0; omega
  clear hr0b
  have e0 : (R0 != R0) = false := by simp
  have e1 : (R1 != R1) = false := by simp
  go_wp2_with (fail)
  refine (toInstrS_any 0 _ A0 c0 a0 _ hlen0 (E0.out.below b1.out (Nat.le_refl _)) b1.out.size).mono ?_
  rintro e w2 ⟨Ap0, cp0, rfl, ho, hb⟩
  have b2 := Lib.hid (b1.out.trans (hb.mono b1.out.size))
  have z2 := hb.size
  clear hb
  have op0 := Lib.hid ho
  clear ho
  go_wp2_with (fail)
  refine (S.out _ _ _ _ _ hlen0 (In.rs op0.out) (by omega)).mono ?_
  rintro e w3 ⟨rfl, hb⟩
  have b3 := Lib.hid (b2.out.trans (hb.mono b2.out.size))
  have z3 := hb.size
  replace op0 := Lib.hid (op0.out.chg (Chg.ofBelow (lo := 0) (hi := 0) hb) (.inr (Nat.zero_le _)))
  clear hb
  go_wp2_with (fail)
  refine (toInstrS_any 0 _ A0 c0 a0 _ hlen0 (E0.out.below b3.out (Nat.le_refl _)) b3.out.size).mono ?_
  rintro e w4 ⟨Aq0, cq0, rfl, ho, hb⟩
  have b4 := Lib.hid (b3.out.trans (hb.mono b3.out.size))
  have z4 := hb.size
  clear hb
  have oq0 := Lib.hid ho
  clear ho
  go_wp2_with (fail)
  refine (I.out _ _ _ _ _ hlen0 (In.rs oq0.out) (by omega) (OK.cap oq0.out)).mono ?_
  rintro e w5 ⟨rfl, hb⟩
  have b5 := Lib.hid (b4.out.trans (hb.mono b4.out.size))
  have z5 := hb.size
  replace oq0 := Lib.hid (oq0.out.chg (Chg.ofBelow (lo := 0) (hi := 0) hb) (.inr (Nat.zero_le _)))
  clear hb
  go_wp2_with (fail)
  refine (toInstrS_any 0 _ A0 c0 a0 _ hlen0 (E0.out.below b5.out (Nat.le_refl _)) b5.out.size).mono ?_
  rintro e w6 ⟨As0, cs0, rfl, ho, hb⟩
  have b6 := Lib.hid (b5.out.trans (hb.mono b5.out.size))
  have z6 := hb.size
  replace oq0 := Lib.hid (oq0.out.chg (Chg.ofBelow (lo := 0) (hi := 0) hb) (.inr (Nat.zero_le _)))
  clear hb
  have os0 := Lib.hid ho
  clear ho
  go_wp2_with (fail)
  refine (eqInstrS_any _ _ _ _ _ _ _ _ _ _ a0 a0 _ rfl rfl hlen0 (In.rs oq0.out) (In.rs os0.out) (by omega) (by omega) rfl).mono ?_
  rintro e w7 ⟨rfl, hb⟩
  have b7 := Lib.hid (b6.out.trans (hb.mono b6.out.size))
  have z7 := hb.size
  replace oq0 := Lib.hid (oq0.out.chg (Chg.ofBelow (lo := 0) (hi := 0) hb) (.inr (Nat.zero_le _)))
  replace os0 := Lib.hid (os0.out.chg (Chg.ofBelow (lo := 0) (hi := 0) hb) (.inr (Nat.zero_le _)))
  clear hb
  go_wp2
  go_ret
  exact ⟨rfl, b7.out⟩

def ResWideBound (R0 : Int) (R1 : Bool) (w : World) (e : Ending) (w' : World) : Prop := e = .returned (.tuple #[.int .i64 R0, .bool R1]) ∧ Below w.heap.size w w'
set_option maxHeartbeats 4000000 in
theorem lawWideBound (A0 : Option Addr) (c0 : Nat) (a0 : List In) (a1 : Int) (w : World) (hl0 : a0.length ≤ 9223372036854775807) (h0 : RS In.enc 5 w 0 w.heap.size A0 a0) (hs0 : ∀ n ∈ a0, n.op.size ≤ 9223372036854775807) (R0 : Int) (R1 : Bool)
    (hS : ∀ (L0 B0 : Nat) (A0 : Option Addr) (c0 : Nat) (w : World), a0.length ≤ 1048576 → RS In.enc 5 w L0 B0 A0 a0 → B0 ≤ w.heap.size → Calls Try.prog 58 #[.slice A0 a0.length c0, .int .i64 a1] w (ResWideBound R0 R1 w))
    (hI : ∀ (L0 B0 : Nat) (A0 : Option Addr) (c0 : Nat) (w : World), a0.length ≤ 1048576 → RS In.enc 5 w L0 B0 A0 a0 → B0 ≤ w.heap.size → a0.length ≤ c0 → Calls Try.prog 59 #[.slice A0 a0.length c0, .int .i64 a1] w (ResWideBound R0 R1 w)) :
    Calls Try.prog 15 #[.slice A0 a0.length c0, .int .i64 a1] w fun e w' => e = .returned (.bool true) ∧ Below w.heap.size w w' := by
  have S := Lib.hid hS
  have I := Lib.hid hI
  have E0 := Lib.hid h0
  have Z0 := Lib.hid hs0
  clear hS hI h0 hs0
  have b0 := Lib.hid (Below.refl w.heap.size w)
  go_enter Try.func15, Try.ntmps15
  go_wp2_with (fail)
  refine (szInstrS_any 0 _ A0 c0 a0 1048576 _ hl0 (E0.out.below b0.out (Nat.le_refl _)) b0.out.size Z0.out (by omega) (by omega)).mono ?_
  rintro e w1 ⟨r0, rfl, hr0a, hr0b, hr0c, hb⟩
  have b1 := Lib.hid (b0.out.trans (hb.mono b0.out.size))
  have z1 := hb.size
  clear hb
  by_cases hr0 : 0 ≤ r0
  rotate_left
  · go_wp2
    go_ret
    exact ⟨rfl, b1.out⟩
  have hlen0 : a0.length ≤ 1048576 := by have := hr0b hr0; omega
  clear hr0b
  have e0 : (R0 != R0) = false := by simp
  have e1 : (R1 != R1) = false := by simp
  go_wp2_with (fail)
  refine (toInstrS_any 0 _ A0 c0 a0 _ hlen0 (E0.out.below b1.out (Nat.le_refl _)) b1.out.size).mono ?_
  rintro e w2 ⟨Ap0, cp0, rfl, ho, hb⟩
  have b2 := Lib.hid (b1.out.trans (hb.mono b1.out.size))
  have z2 := hb.size
  clear hb
  have op0 := Lib.hid ho
  clear ho
  go_wp2_with (fail)
  refine (S.out _ _ _ _ _ hlen0 (In.rs op0.out) (by omega)).mono ?_
  rintro e w3 ⟨rfl, hb⟩
  have b3 := Lib.hid (b2.out.trans (hb.mono b2.out.size))
  have z3 := hb.size
  replace op0 := Lib.hid (op0.out.chg (Chg.ofBelow (lo := 0) (hi := 0) hb) (.inr (Nat.zero_le _)))
  clear hb
  go_wp2_with (fail)
  refine (toInstrS_any 0 _ A0 c0 a0 _ hlen0 (E0.out.below b3.out (Nat.le_refl _)) b3.out.size).mono ?_
  rintro e w4 ⟨Aq0, cq0, rfl, ho, hb⟩
  have b4 := Lib.hid (b3.out.trans (hb.mono b3.out.size))
  have z4 := hb.size
  clear hb
  have oq0 := Lib.hid ho
  clear ho
  go_wp2_with (fail)
  refine (I.out _ _ _ _ _ hlen0 (In.rs oq0.out) (by omega) (OK.cap oq0.out)).mono ?_
  rintro e w5 ⟨rfl, hb⟩
  have b5 := Lib.hid (b4.out.trans (hb.mono b4.out.size))
  have z5 := hb.size
  replace oq0 := Lib.hid (oq0.out.chg (Chg.ofBelow (lo := 0) (hi := 0) hb) (.inr (Nat.zero_le _)))
  clear hb
  go_wp2_with (fail)
  refine (toInstrS_any 0 _ A0 c0 a0 _ hlen0 (E0.out.below b5.out (Nat.le_refl _)) b5.out.size).mono ?_
  rintro e w6 ⟨As0, cs0, rfl, ho, hb⟩
  have b6 := Lib.hid (b5.out.trans (hb.mono b5.out.size))
  have z6 := hb.size
  replace oq0 := Lib.hid (oq0.out.chg (Chg.ofBelow (lo := 0) (hi := 0) hb) (.inr (Nat.zero_le _)))
  clear hb
  have os0 := Lib.hid ho
  clear ho
  go_wp2_with (fail)
  refine (eqInstrS_any _ _ _ _ _ _ _ _ _ _ a0 a0 _ rfl rfl hlen0 (In.rs oq0.out) (In.rs os0.out) (by omega) (by omega) rfl).mono ?_
  rintro e w7 ⟨rfl, hb⟩
  have b7 := Lib.hid (b6.out.trans (hb.mono b6.out.size))
  have z7 := hb.size
  replace oq0 := Lib.hid (oq0.out.chg (Chg.ofBelow (lo := 0) (hi := 0) hb) (.inr (Nat.zero_le _)))
  replace os0 := Lib.hid (os0.out.chg (Chg.ofBelow (lo := 0) (hi := 0) hb) (.inr (Nat.zero_le _)))
  clear hb
  go_wp2
  go_ret
  exact ⟨rfl, b7.out⟩

def ResLatestOf (R0 : List (Int)) (R1 : Bool) (w : World) (e : Ending) (w' : World) : Prop := ∃ (A0 : Option Addr) (c0 : Nat), e = .returned (.tuple #[.slice A0 R0.length c0, .bool R1]) ∧ OW w' w.heap.size w'.heap.size (.slice A0 R0.length c0) R0 ∧ Below w.heap.size w w'
set_option maxHeartbeats 4000000 in
theorem lawLatestOf (A0 : Option Addr) (c0 : Nat) (a0 : List In) (a1 : Int) (w : World) (hl0 : a0.length ≤ 9223372036854775807) (h0 : RS In.enc 5 w 0 w.heap.size A0 a0) (hs0 : ∀ n ∈ a0, n.op.size ≤ 9223372036854775807) (R0 : List (Int)) (R1 : Bool) (hR0 : R0.length ≤ 1048576)
    (hS : ∀ (L0 B0 : Nat) (A0 : Option Addr) (c0 : Nat) (w : World), a0.length ≤ 1048576 → RS In.enc 5 w L0 B0 A0 a0 → B0 ≤ w.heap.size → Calls Try.prog 54 #[.slice A0 a0.length c0, .int .i64 a1] w (ResLatestOf R0 R1 w))
    (hI : ∀ (L0 B0 : Nat) (A0 : Option Addr) (c0 : Nat) (w : World), a0.length ≤ 1048576 → RS In.enc 5 w L0 B0 A0 a0 → B0 ≤ w.heap.size → a0.length ≤ c0 → Calls Try.prog 55 #[.slice A0 a0.length c0, .int .i64 a1] w (ResLatestOf R0 R1 w)) :
    Calls Try.prog 13 #[.slice A0 a0.length c0, .int .i64 a1] w fun e w' => e = .returned (.bool true) ∧ Below w.heap.size w w' := by
  have S := Lib.hid hS
  have I := Lib.hid hI
  have E0 := Lib.hid h0
  have Z0 := Lib.hid hs0
  clear hS hI h0 hs0
  have b0 := Lib.hid (Below.refl w.heap.size w)
  go_enter Try.func13, Try.ntmps13
  go_wp2_with (fail)
  refine (szInstrS_any 0 _ A0 c0 a0 1048576 _ hl0 (E0.out.below b0.out (Nat.le_refl _)) b0.out.size Z0.out (by omega) (by omega)).mono ?_
  rintro e w1 ⟨r0, rfl, hr0a, hr0b, hr0c, hb⟩
  have b1 := Lib.hid (b0.out.trans (hb.mono b0.out.size))
  have z1 := hb.size
  clear hb
  by_cases hr0 : 0 ≤ r0
  rotate_left
  · go_wp2
    go_ret
    exact ⟨rfl, b1.out⟩
  have hlen0 : a0.length ≤ 1048576 := by have := hr0b hr0; omega
  clear hr0b
  have e1 : (R1 != R1) = false := by simp
  go_wp2_with (fail)
  refine (toInstrS_any 0 _ A0 c0 a0 _ hlen0 (E0.out.below b1.out (Nat.le_refl _)) b1.out.size).mono ?_
  rintro e w2 ⟨Ap0, cp0, rfl, ho, hb⟩
  have b2 := Lib.hid (b1.out.trans (hb.mono b1.out.size))
  have z2 := hb.size
  clear hb
  have op0 := Lib.hid ho
  clear ho
  go_wp2_with (fail)
  refine (S.out _ _ _ _ _ hlen0 (In.rs op0.out) (by omega)).mono ?_
  rintro e w3 ⟨AW0, cW0, rfl, ho0, hb⟩
  have b3 := Lib.hid (b2.out.trans (hb.mono b2.out.size))
  have z3 := hb.size
  replace op0 := Lib.hid (op0.out.chg (Chg.ofBelow (lo := 0) (hi := 0) hb) (.inr (Nat.zero_le _)))
  clear hb
  have oW0 := Lib.hid ho0
  clear ho0
  go_wp2_with (fail)
  refine (toInstrS_any 0 _ A0 c0 a0 _ hlen0 (E0.out.below b3.out (Nat.le_refl _)) b3.out.size).mono ?_
  rintro e w4 ⟨Aq0, cq0, rfl, ho, hb⟩
  have b4 := Lib.hid (b3.out.trans (hb.mono b3.out.size))
  have z4 := hb.size
  replace oW0 := Lib.hid (oW0.out.chg (Chg.ofBelow (lo := 0) (hi := 0) hb) (.inr (Nat.zero_le _)))
  clear hb
  have oq0 := Lib.hid ho
  clear ho
  go_wp2_with (fail)
  refine (I.out _ _ _ _ _ hlen0 (In.rs oq0.out) (by omega) (OK.cap oq0.out)).mono ?_
  rintro e w5 ⟨AG0, cG0, rfl, ho0, hb⟩
  have b5 := Lib.hid (b4.out.trans (hb.mono b4.out.size))
  have z5 := hb.size
  replace oW0 := Lib.hid (oW0.out.chg (Chg.ofBelow (lo := 0) (hi := 0) hb) (.inr (Nat.zero_le _)))
  replace oq0 := Lib.hid (oq0.out.chg (Chg.ofBelow (lo := 0) (hi := 0) hb) (.inr (Nat.zero_le _)))
  clear hb
  have oG0 := Lib.hid ho0
  clear ho0
  go_wp2_with (fail)
  refine (eqIntS_any _ _ _ _ _ _ _ _ _ _ R0 R0 _ rfl rfl hR0 (OW.rs oG0.out) (OW.rs oW0.out) (by omega) (by omega) rfl).mono ?_
  rintro e w6 ⟨rfl, hb⟩
  have b6 := Lib.hid (b5.out.trans (hb.mono b5.out.size))
  have z6 := hb.size
  replace oW0 := Lib.hid (oW0.out.chg (Chg.ofBelow (lo := 0) (hi := 0) hb) (.inr (Nat.zero_le _)))
  replace oq0 := Lib.hid (oq0.out.chg (Chg.ofBelow (lo := 0) (hi := 0) hb) (.inr (Nat.zero_le _)))
  replace oG0 := Lib.hid (oG0.out.chg (Chg.ofBelow (lo := 0) (hi := 0) hb) (.inr (Nat.zero_le _)))
  clear hb
  go_wp2_with (fail)
  refine (toInstrS_any 0 _ A0 c0 a0 _ hlen0 (E0.out.below b6.out (Nat.le_refl _)) b6.out.size).mono ?_
  rintro e w7 ⟨As0, cs0, rfl, ho, hb⟩
  have b7 := Lib.hid (b6.out.trans (hb.mono b6.out.size))
  have z7 := hb.size
  replace oW0 := Lib.hid (oW0.out.chg (Chg.ofBelow (lo := 0) (hi := 0) hb) (.inr (Nat.zero_le _)))
  replace oq0 := Lib.hid (oq0.out.chg (Chg.ofBelow (lo := 0) (hi := 0) hb) (.inr (Nat.zero_le _)))
  replace oG0 := Lib.hid (oG0.out.chg (Chg.ofBelow (lo := 0) (hi := 0) hb) (.inr (Nat.zero_le _)))
  clear hb
  have os0 := Lib.hid ho
  clear ho
  go_wp2_with (fail)
  refine (eqInstrS_any _ _ _ _ _ _ _ _ _ _ a0 a0 _ rfl rfl hlen0 (In.rs oq0.out) (In.rs os0.out) (by omega) (by omega) rfl).mono ?_
  rintro e w8 ⟨rfl, hb⟩
  have b8 := Lib.hid (b7.out.trans (hb.mono b7.out.size))
  have z8 := hb.size
  replace oW0 := Lib.hid (oW0.out.chg (Chg.ofBelow (lo := 0) (hi := 0) hb) (.inr (Nat.zero_le _)))
  replace oq0 := Lib.hid (oq0.out.chg (Chg.ofBelow (lo := 0) (hi := 0) hb) (.inr (Nat.zero_le _)))
  replace oG0 := Lib.hid (oG0.out.chg (Chg.ofBelow (lo := 0) (hi := 0) hb) (.inr (Nat.zero_le _)))
  replace os0 := Lib.hid (os0.out.chg (Chg.ofBelow (lo := 0) (hi := 0) hb) (.inr (Nat.zero_le _)))
  clear hb
  go_wp2_with (fail)
  refine (markInstrS_any _ _ _ _ a0 (1) _ hlen0 (by omega) (by omega) oq0.out).mono ?_
  rintro e w9 ⟨rfl, _, hc⟩
  have b9 := Lib.hid (below_chg b8.out hc b8.out.size (by omega))
  have z9 := hc.size
  replace oW0 := Lib.hid (oW0.out.chg hc (by omega))
  replace oG0 := Lib.hid (oG0.out.chg hc (by omega))
  clear hc
  have hk : (0 : Int) ≤ 1 + 5 * (a0.length : Int) := by omega
  go_wp2_with (fail)
  refine (eqIntS_any _ _ _ _ _ _ _ _ _ _ R0 R0 _ rfl rfl hR0 (OW.rs oG0.out) (OW.rs oW0.out) (by omega) (by omega) rfl).mono ?_
  rintro e w10 ⟨rfl, hb⟩
  have b10 := Lib.hid (b9.out.trans (hb.mono b9.out.size))
  have z10 := hb.size
  replace oW0 := Lib.hid (oW0.out.chg (Chg.ofBelow (lo := 0) (hi := 0) hb) (.inr (Nat.zero_le _)))
  replace oG0 := Lib.hid (oG0.out.chg (Chg.ofBelow (lo := 0) (hi := 0) hb) (.inr (Nat.zero_le _)))
  clear hb
  go_wp2_with (fail)
  refine (markIntS_c _ _ _ _ R0 (1) _ hR0 (by omega) (by omega) oG0.out).mono ?_
  rintro e w11 ⟨rfl, ho, hc⟩
  have b11 := Lib.hid (below_chg b10.out hc b10.out.size (by omega))
  have z11 := hc.size
  replace oW0 := Lib.hid (oW0.out.chg hc (by omega))
  clear hc
  replace oG0 := Lib.hid ho
  clear ho
  have hq : (0 : Int) ≤ 1 + (R0.length : Int) := by omega
  go_wp2_with (fail)
  refine (heldIntS_any _ _ _ _ _ 1 _ hR0 (by omega) (by omega) (OW.rs oG0.out) ).mono ?_
  rintro e w_ ⟨rfl, rfl⟩
  go_wp2_with (fail)
  refine (toInstrS_any 0 _ A0 c0 a0 _ hlen0 (E0.out.below b11.out (Nat.le_refl _)) b11.out.size).mono ?_
  rintro e w12 ⟨Ah0, ch0, rfl, ho, hb⟩
  have b12 := Lib.hid (b11.out.trans (hb.mono b11.out.size))
  have z12 := hb.size
  replace oW0 := Lib.hid (oW0.out.chg (Chg.ofBelow (lo := 0) (hi := 0) hb) (.inr (Nat.zero_le _)))
  replace oG0 := Lib.hid (oG0.out.chg (Chg.ofBelow (lo := 0) (hi := 0) hb) (.inr (Nat.zero_le _)))
  clear hb
  have oh0 := Lib.hid ho
  clear ho
  go_wp2_with (fail)
  refine (I.out _ _ _ _ _ hlen0 (In.rs oh0.out) (by omega) (OK.cap oh0.out)).mono ?_
  rintro e w13 ⟨AH0, cH0, rfl, ho0, hb⟩
  have b13 := Lib.hid (b12.out.trans (hb.mono b12.out.size))
  have z13 := hb.size
  replace oW0 := Lib.hid (oW0.out.chg (Chg.ofBelow (lo := 0) (hi := 0) hb) (.inr (Nat.zero_le _)))
  replace oG0 := Lib.hid (oG0.out.chg (Chg.ofBelow (lo := 0) (hi := 0) hb) (.inr (Nat.zero_le _)))
  replace oh0 := Lib.hid (oh0.out.chg (Chg.ofBelow (lo := 0) (hi := 0) hb) (.inr (Nat.zero_le _)))
  clear hb
  have oH0 := Lib.hid ho0
  clear ho0
  go_wp2_with (fail)
  refine (eqIntS_any _ _ _ _ _ _ _ _ _ _ R0 R0 _ rfl rfl hR0 (OW.rs oH0.out) (OW.rs oW0.out) (by omega) (by omega) rfl).mono ?_
  rintro e w14 ⟨rfl, hb⟩
  have b14 := Lib.hid (b13.out.trans (hb.mono b13.out.size))
  have z14 := hb.size
  replace oW0 := Lib.hid (oW0.out.chg (Chg.ofBelow (lo := 0) (hi := 0) hb) (.inr (Nat.zero_le _)))
  replace oG0 := Lib.hid (oG0.out.chg (Chg.ofBelow (lo := 0) (hi := 0) hb) (.inr (Nat.zero_le _)))
  replace oh0 := Lib.hid (oh0.out.chg (Chg.ofBelow (lo := 0) (hi := 0) hb) (.inr (Nat.zero_le _)))
  replace oH0 := Lib.hid (oH0.out.chg (Chg.ofBelow (lo := 0) (hi := 0) hb) (.inr (Nat.zero_le _)))
  clear hb
  go_wp2_with (fail)
  refine (heldIntS_any _ _ _ _ _ 1 _ hR0 (by omega) (by omega) (OW.rs oG0.out) ).mono ?_
  rintro e w_ ⟨rfl, rfl⟩
  go_wp2
  go_ret
  exact ⟨rfl, b14.out⟩

def ResIsOrder (R0 : Bool) (R1 : Bool) (w : World) (e : Ending) (w' : World) : Prop := e = .returned (.tuple #[.bool R0, .bool R1]) ∧ Below w.heap.size w w'
set_option maxHeartbeats 4000000 in
theorem lawIsOrder (A0 : Option Addr) (c0 : Nat) (a0 : List In) (A1 : Option Addr) (c1 : Nat) (a1 : List Int) (w : World) (hl0 : a0.length ≤ 9223372036854775807) (h0 : RS In.enc 5 w 0 w.heap.size A0 a0) (hs0 : ∀ n ∈ a0, n.op.size ≤ 9223372036854775807) (hl1 : a1.length ≤ 9223372036854775807) (h1 : IS w 0 w.heap.size A1 a1) (R0 : Bool) (R1 : Bool)
    (hS : ∀ (L0 B0 : Nat) (A0 : Option Addr) (c0 : Nat) (L1 B1 : Nat) (A1 : Option Addr) (c1 : Nat) (w : World), a0.length ≤ 1048576 → RS In.enc 5 w L0 B0 A0 a0 → B0 ≤ w.heap.size → a1.length ≤ 1048576 → IS w L1 B1 A1 a1 → B1 ≤ w.heap.size → a1.length ≤ c1 → Calls Try.prog 33 #[.slice A0 a0.length c0, .slice A1 a1.length c1] w (ResIsOrder R0 R1 w))
    (hI : ∀ (L0 B0 : Nat) (A0 : Option Addr) (c0 : Nat) (L1 B1 : Nat) (A1 : Option Addr) (c1 : Nat) (w : World), a0.length ≤ 1048576 → RS In.enc 5 w L0 B0 A0 a0 → B0 ≤ w.heap.size → a0.length ≤ c0 → a1.length ≤ 1048576 → IS w L1 B1 A1 a1 → B1 ≤ w.heap.size → a1.length ≤ c1 → Calls Try.prog 35 #[.slice A0 a0.length c0, .slice A1 a1.length c1] w (ResIsOrder R0 R1 w)) :
    Calls Try.prog 5 #[.slice A0 a0.length c0, .slice A1 a1.length c1] w fun e w' => e = .returned (.bool true) ∧ Below w.heap.size w w' := by
  have S := Lib.hid hS
  have I := Lib.hid hI
  have E0 := Lib.hid h0
  have E1 := Lib.hid h1
  have Z0 := Lib.hid hs0
  clear hS hI h0 h1 hs0
  by_cases g1 : a1.length ≤ 1048576
  rotate_left
  · have g1' : (1048576 : Int) < (a1.length : Int) := by omega
    clear g1
    go_enter Try.func5, Try.ntmps5
    go_wp2
    go_ret
    exact ⟨rfl, Below.refl _ _⟩
  have b0 := Lib.hid (Below.refl w.heap.size w)
  go_enter Try.func5, Try.ntmps5
  go_wp2_with (fail)
  refine (szInstrS_any 0 _ A0 c0 a0 1048576 _ hl0 (E0.out.below b0.out (Nat.le_refl _)) b0.out.size Z0.out (by omega) (by omega)).mono ?_
  rintro e w1 ⟨r0, rfl, hr0a, hr0b, hr0c, hb⟩
  have b1 := Lib.hid (b0.out.trans (hb.mono b0.out.size))
  have z1 := hb.size
  clear hb
  by_cases hr0 : 0 ≤ r0
  rotate_left
  · go_wp2
    go_ret
    exact ⟨rfl, b1.out⟩
  have hlen0 : a0.length ≤ 1048576 := by have := hr0b hr0; omega
  clear hr0b
  have hlen1 : a1.length ≤ 1048576 := g1
  have e0 : (R0 != R0) = false := by simp
  have e1 : (R1 != R1) = false := by simp
  go_wp2_with (fail)
  refine (toInstrS_any 0 _ A0 c0 a0 _ hlen0 (E0.out.below b1.out (Nat.le_refl _)) b1.out.size).mono ?_
  rintro e w2 ⟨Ap0, cp0, rfl, ho, hb⟩
  have b2 := Lib.hid (b1.out.trans (hb.mono b1.out.size))
  have z2 := hb.size
  clear hb
  have op0 := Lib.hid ho
  clear ho
  go_wp2_with (fail)
  refine (toIntS_any 0 _ A1 c1 a1 _ hlen1 (E1.out.below b2.out (Nat.le_refl _)) b2.out.size).mono ?_
  rintro e w3 ⟨Ap1, cp1, rfl, ho, hb⟩
  have b3 := Lib.hid (b2.out.trans (hb.mono b2.out.size))
  have z3 := hb.size
  replace op0 := Lib.hid (op0.out.chg (Chg.ofBelow (lo := 0) (hi := 0) hb) (.inr (Nat.zero_le _)))
  clear hb
  have op1 := Lib.hid ho
  clear ho
  go_wp2_with (fail)
  refine (S.out _ _ _ _ _ _ _ _ _ hlen0 (In.rs op0.out) (by omega) hlen1 (OW.rs op1.out) (by omega) (OW.cap op1.out)).mono ?_
  rintro e w4 ⟨rfl, hb⟩
  have b4 := Lib.hid (b3.out.trans (hb.mono b3.out.size))
  have z4 := hb.size
  replace op0 := Lib.hid (op0.out.chg (Chg.ofBelow (lo := 0) (hi := 0) hb) (.inr (Nat.zero_le _)))
  replace op1 := Lib.hid (op1.out.chg (Chg.ofBelow (lo := 0) (hi := 0) hb) (.inr (Nat.zero_le _)))
  clear hb
  go_wp2_with (fail)
  refine (toInstrS_any 0 _ A0 c0 a0 _ hlen0 (E0.out.below b4.out (Nat.le_refl _)) b4.out.size).mono ?_
  rintro e w5 ⟨Aq0, cq0, rfl, ho, hb⟩
  have b5 := Lib.hid (b4.out.trans (hb.mono b4.out.size))
  have z5 := hb.size
  clear hb
  have oq0 := Lib.hid ho
  clear ho
  go_wp2_with (fail)
  refine (toIntS_any 0 _ A1 c1 a1 _ hlen1 (E1.out.below b5.out (Nat.le_refl _)) b5.out.size).mono ?_
  rintro e w6 ⟨Aq1, cq1, rfl, ho, hb⟩
  have b6 := Lib.hid (b5.out.trans (hb.mono b5.out.size))
  have z6 := hb.size
  replace oq0 := Lib.hid (oq0.out.chg (Chg.ofBelow (lo := 0) (hi := 0) hb) (.inr (Nat.zero_le _)))
  clear hb
  have oq1 := Lib.hid ho
  clear ho
  go_wp2_with (fail)
  refine (I.out _ _ _ _ _ _ _ _ _ hlen0 (In.rs oq0.out) (by omega) (OK.cap oq0.out) hlen1 (OW.rs oq1.out) (by omega) (OW.cap oq1.out)).mono ?_
  rintro e w7 ⟨rfl, hb⟩
  have b7 := Lib.hid (b6.out.trans (hb.mono b6.out.size))
  have z7 := hb.size
  replace oq0 := Lib.hid (oq0.out.chg (Chg.ofBelow (lo := 0) (hi := 0) hb) (.inr (Nat.zero_le _)))
  replace oq1 := Lib.hid (oq1.out.chg (Chg.ofBelow (lo := 0) (hi := 0) hb) (.inr (Nat.zero_le _)))
  clear hb
  go_wp2_with (fail)
  refine (toInstrS_any 0 _ A0 c0 a0 _ hlen0 (E0.out.below b7.out (Nat.le_refl _)) b7.out.size).mono ?_
  rintro e w8 ⟨As0, cs0, rfl, ho, hb⟩
  have b8 := Lib.hid (b7.out.trans (hb.mono b7.out.size))
  have z8 := hb.size
  replace oq0 := Lib.hid (oq0.out.chg (Chg.ofBelow (lo := 0) (hi := 0) hb) (.inr (Nat.zero_le _)))
  replace oq1 := Lib.hid (oq1.out.chg (Chg.ofBelow (lo := 0) (hi := 0) hb) (.inr (Nat.zero_le _)))
  clear hb
  have os0 := Lib.hid ho
  clear ho
  go_wp2_with (fail)
  refine (eqInstrS_any _ _ _ _ _ _ _ _ _ _ a0 a0 _ rfl rfl hlen0 (In.rs oq0.out) (In.rs os0.out) (by omega) (by omega) rfl).mono ?_
  rintro e w9 ⟨rfl, hb⟩
  have b9 := Lib.hid (b8.out.trans (hb.mono b8.out.size))
  have z9 := hb.size
  replace oq0 := Lib.hid (oq0.out.chg (Chg.ofBelow (lo := 0) (hi := 0) hb) (.inr (Nat.zero_le _)))
  replace oq1 := Lib.hid (oq1.out.chg (Chg.ofBelow (lo := 0) (hi := 0) hb) (.inr (Nat.zero_le _)))
  replace os0 := Lib.hid (os0.out.chg (Chg.ofBelow (lo := 0) (hi := 0) hb) (.inr (Nat.zero_le _)))
  clear hb
  go_wp2_with (fail)
  refine (toIntS_any 0 _ A1 c1 a1 _ hlen1 (E1.out.below b9.out (Nat.le_refl _)) b9.out.size).mono ?_
  rintro e w10 ⟨As1, cs1, rfl, ho, hb⟩
  have b10 := Lib.hid (b9.out.trans (hb.mono b9.out.size))
  have z10 := hb.size
  replace oq0 := Lib.hid (oq0.out.chg (Chg.ofBelow (lo := 0) (hi := 0) hb) (.inr (Nat.zero_le _)))
  replace oq1 := Lib.hid (oq1.out.chg (Chg.ofBelow (lo := 0) (hi := 0) hb) (.inr (Nat.zero_le _)))
  clear hb
  have os1 := Lib.hid ho
  clear ho
  go_wp2_with (fail)
  refine (eqIntS_any _ _ _ _ _ _ _ _ _ _ a1 a1 _ rfl rfl hlen1 (OW.rs oq1.out) (OW.rs os1.out) (by omega) (by omega) rfl).mono ?_
  rintro e w11 ⟨rfl, hb⟩
  have b11 := Lib.hid (b10.out.trans (hb.mono b10.out.size))
  have z11 := hb.size
  replace oq0 := Lib.hid (oq0.out.chg (Chg.ofBelow (lo := 0) (hi := 0) hb) (.inr (Nat.zero_le _)))
  replace oq1 := Lib.hid (oq1.out.chg (Chg.ofBelow (lo := 0) (hi := 0) hb) (.inr (Nat.zero_le _)))
  replace os1 := Lib.hid (os1.out.chg (Chg.ofBelow (lo := 0) (hi := 0) hb) (.inr (Nat.zero_le _)))
  clear hb
  go_wp2
  go_ret
  exact ⟨rfl, b11.out⟩

def ResIsSchedule (R0 : Bool) (R1 : Bool) (w : World) (e : Ending) (w' : World) : Prop := e = .returned (.tuple #[.bool R0, .bool R1]) ∧ Below w.heap.size w w'
set_option maxHeartbeats 4000000 in
theorem lawIsSchedule (A0 : Option Addr) (c0 : Nat) (a0 : List In) (a1 : Int) (A2 : Option Addr) (c2 : Nat) (a2 : List Int) (w : World) (hl0 : a0.length ≤ 9223372036854775807) (h0 : RS In.enc 5 w 0 w.heap.size A0 a0) (hs0 : ∀ n ∈ a0, n.op.size ≤ 9223372036854775807) (hl2 : a2.length ≤ 9223372036854775807) (h2 : IS w 0 w.heap.size A2 a2) (R0 : Bool) (R1 : Bool)
    (hS : ∀ (L0 B0 : Nat) (A0 : Option Addr) (c0 : Nat) (L2 B2 : Nat) (A2 : Option Addr) (c2 : Nat) (w : World), a0.length ≤ 1048576 → RS In.enc 5 w L0 B0 A0 a0 → B0 ≤ w.heap.size → a2.length ≤ 1048576 → IS w L2 B2 A2 a2 → B2 ≤ w.heap.size → Calls Try.prog 48 #[.slice A0 a0.length c0, .int .i64 a1, .slice A2 a2.length c2] w (ResIsSchedule R0 R1 w))
    (hI : ∀ (L0 B0 : Nat) (A0 : Option Addr) (c0 : Nat) (L2 B2 : Nat) (A2 : Option Addr) (c2 : Nat) (w : World), a0.length ≤ 1048576 → RS In.enc 5 w L0 B0 A0 a0 → B0 ≤ w.heap.size → a0.length ≤ c0 → a2.length ≤ 1048576 → IS w L2 B2 A2 a2 → B2 ≤ w.heap.size → a2.length ≤ c2 → Calls Try.prog 49 #[.slice A0 a0.length c0, .int .i64 a1, .slice A2 a2.length c2] w (ResIsSchedule R0 R1 w)) :
    Calls Try.prog 10 #[.slice A0 a0.length c0, .int .i64 a1, .slice A2 a2.length c2] w fun e w' => e = .returned (.bool true) ∧ Below w.heap.size w w' := by
  have S := Lib.hid hS
  have I := Lib.hid hI
  have E0 := Lib.hid h0
  have E2 := Lib.hid h2
  have Z0 := Lib.hid hs0
  clear hS hI h0 h2 hs0
  by_cases g2 : a2.length ≤ 1048576
  rotate_left
  · have g2' : (1048576 : Int) < (a2.length : Int) := by omega
    clear g2
    go_enter Try.func10, Try.ntmps10
    go_wp2
    go_ret
    exact ⟨rfl, Below.refl _ _⟩
  have b0 := Lib.hid (Below.refl w.heap.size w)
  go_enter Try.func10, Try.ntmps10
  go_wp2_with (fail)
  refine (szInstrS_any 0 _ A0 c0 a0 1048576 _ hl0 (E0.out.below b0.out (Nat.le_refl _)) b0.out.size Z0.out (by omega) (by omega)).mono ?_
  rintro e w1 ⟨r0, rfl, hr0a, hr0b, hr0c, hb⟩
  have b1 := Lib.hid (b0.out.trans (hb.mono b0.out.size))
  have z1 := hb.size
  clear hb
  by_cases hr0 : 0 ≤ r0
  rotate_left
  · go_wp2
    go_ret
    exact ⟨rfl, b1.out⟩
  have hlen0 : a0.length ≤ 1048576 := by have := hr0b hr0; omega
  clear hr0b
  have hlen2 : a2.length ≤ 1048576 := g2
  have e0 : (R0 != R0) = false := by simp
  have e1 : (R1 != R1) = false := by simp
  go_wp2_with (fail)
  refine (toInstrS_any 0 _ A0 c0 a0 _ hlen0 (E0.out.below b1.out (Nat.le_refl _)) b1.out.size).mono ?_
  rintro e w2 ⟨Ap0, cp0, rfl, ho, hb⟩
  have b2 := Lib.hid (b1.out.trans (hb.mono b1.out.size))
  have z2 := hb.size
  clear hb
  have op0 := Lib.hid ho
  clear ho
  go_wp2_with (fail)
  refine (toIntS_any 0 _ A2 c2 a2 _ hlen2 (E2.out.below b2.out (Nat.le_refl _)) b2.out.size).mono ?_
  rintro e w3 ⟨Ap2, cp2, rfl, ho, hb⟩
  have b3 := Lib.hid (b2.out.trans (hb.mono b2.out.size))
  have z3 := hb.size
  replace op0 := Lib.hid (op0.out.chg (Chg.ofBelow (lo := 0) (hi := 0) hb) (.inr (Nat.zero_le _)))
  clear hb
  have op2 := Lib.hid ho
  clear ho
  go_wp2_with (fail)
  refine (S.out _ _ _ _ _ _ _ _ _ hlen0 (In.rs op0.out) (by omega) hlen2 (OW.rs op2.out) (by omega)).mono ?_
  rintro e w4 ⟨rfl, hb⟩
  have b4 := Lib.hid (b3.out.trans (hb.mono b3.out.size))
  have z4 := hb.size
  replace op0 := Lib.hid (op0.out.chg (Chg.ofBelow (lo := 0) (hi := 0) hb) (.inr (Nat.zero_le _)))
  replace op2 := Lib.hid (op2.out.chg (Chg.ofBelow (lo := 0) (hi := 0) hb) (.inr (Nat.zero_le _)))
  clear hb
  go_wp2_with (fail)
  refine (toInstrS_any 0 _ A0 c0 a0 _ hlen0 (E0.out.below b4.out (Nat.le_refl _)) b4.out.size).mono ?_
  rintro e w5 ⟨Aq0, cq0, rfl, ho, hb⟩
  have b5 := Lib.hid (b4.out.trans (hb.mono b4.out.size))
  have z5 := hb.size
  clear hb
  have oq0 := Lib.hid ho
  clear ho
  go_wp2_with (fail)
  refine (toIntS_any 0 _ A2 c2 a2 _ hlen2 (E2.out.below b5.out (Nat.le_refl _)) b5.out.size).mono ?_
  rintro e w6 ⟨Aq2, cq2, rfl, ho, hb⟩
  have b6 := Lib.hid (b5.out.trans (hb.mono b5.out.size))
  have z6 := hb.size
  replace oq0 := Lib.hid (oq0.out.chg (Chg.ofBelow (lo := 0) (hi := 0) hb) (.inr (Nat.zero_le _)))
  clear hb
  have oq2 := Lib.hid ho
  clear ho
  go_wp2_with (fail)
  refine (I.out _ _ _ _ _ _ _ _ _ hlen0 (In.rs oq0.out) (by omega) (OK.cap oq0.out) hlen2 (OW.rs oq2.out) (by omega) (OW.cap oq2.out)).mono ?_
  rintro e w7 ⟨rfl, hb⟩
  have b7 := Lib.hid (b6.out.trans (hb.mono b6.out.size))
  have z7 := hb.size
  replace oq0 := Lib.hid (oq0.out.chg (Chg.ofBelow (lo := 0) (hi := 0) hb) (.inr (Nat.zero_le _)))
  replace oq2 := Lib.hid (oq2.out.chg (Chg.ofBelow (lo := 0) (hi := 0) hb) (.inr (Nat.zero_le _)))
  clear hb
  go_wp2_with (fail)
  refine (toInstrS_any 0 _ A0 c0 a0 _ hlen0 (E0.out.below b7.out (Nat.le_refl _)) b7.out.size).mono ?_
  rintro e w8 ⟨As0, cs0, rfl, ho, hb⟩
  have b8 := Lib.hid (b7.out.trans (hb.mono b7.out.size))
  have z8 := hb.size
  replace oq0 := Lib.hid (oq0.out.chg (Chg.ofBelow (lo := 0) (hi := 0) hb) (.inr (Nat.zero_le _)))
  replace oq2 := Lib.hid (oq2.out.chg (Chg.ofBelow (lo := 0) (hi := 0) hb) (.inr (Nat.zero_le _)))
  clear hb
  have os0 := Lib.hid ho
  clear ho
  go_wp2_with (fail)
  refine (eqInstrS_any _ _ _ _ _ _ _ _ _ _ a0 a0 _ rfl rfl hlen0 (In.rs oq0.out) (In.rs os0.out) (by omega) (by omega) rfl).mono ?_
  rintro e w9 ⟨rfl, hb⟩
  have b9 := Lib.hid (b8.out.trans (hb.mono b8.out.size))
  have z9 := hb.size
  replace oq0 := Lib.hid (oq0.out.chg (Chg.ofBelow (lo := 0) (hi := 0) hb) (.inr (Nat.zero_le _)))
  replace oq2 := Lib.hid (oq2.out.chg (Chg.ofBelow (lo := 0) (hi := 0) hb) (.inr (Nat.zero_le _)))
  replace os0 := Lib.hid (os0.out.chg (Chg.ofBelow (lo := 0) (hi := 0) hb) (.inr (Nat.zero_le _)))
  clear hb
  go_wp2_with (fail)
  refine (toIntS_any 0 _ A2 c2 a2 _ hlen2 (E2.out.below b9.out (Nat.le_refl _)) b9.out.size).mono ?_
  rintro e w10 ⟨As2, cs2, rfl, ho, hb⟩
  have b10 := Lib.hid (b9.out.trans (hb.mono b9.out.size))
  have z10 := hb.size
  replace oq0 := Lib.hid (oq0.out.chg (Chg.ofBelow (lo := 0) (hi := 0) hb) (.inr (Nat.zero_le _)))
  replace oq2 := Lib.hid (oq2.out.chg (Chg.ofBelow (lo := 0) (hi := 0) hb) (.inr (Nat.zero_le _)))
  clear hb
  have os2 := Lib.hid ho
  clear ho
  go_wp2_with (fail)
  refine (eqIntS_any _ _ _ _ _ _ _ _ _ _ a2 a2 _ rfl rfl hlen2 (OW.rs oq2.out) (OW.rs os2.out) (by omega) (by omega) rfl).mono ?_
  rintro e w11 ⟨rfl, hb⟩
  have b11 := Lib.hid (b10.out.trans (hb.mono b10.out.size))
  have z11 := hb.size
  replace oq0 := Lib.hid (oq0.out.chg (Chg.ofBelow (lo := 0) (hi := 0) hb) (.inr (Nat.zero_le _)))
  replace oq2 := Lib.hid (oq2.out.chg (Chg.ofBelow (lo := 0) (hi := 0) hb) (.inr (Nat.zero_le _)))
  replace os2 := Lib.hid (os2.out.chg (Chg.ofBelow (lo := 0) (hi := 0) hb) (.inr (Nat.zero_le _)))
  clear hb
  go_wp2
  go_ret
  exact ⟨rfl, b11.out⟩
end Go.Proofs.Ytpgdccfpegdcoaa

/- Chapter 9: IsOrder of the program. -/
namespace Go.Proofs.Ytpgdccfpegdcoaa
open Go.RowKit
set_option linter.unusedVariables false
set_option maxRecDepth 100000

set_option maxHeartbeats 4000000 in
theorem iIsOrder_k (L B : Nat) (A : Option Addr) (c : Nat) (cs : List In) (L' B' : Nat) (A' : Option Addr) (c' : Nat) (xs : List Int) (w : World) (hl : cs.length ≤ 1048576) (hes : RS In.enc 5 w L B A cs) (hB : B ≤ w.heap.size) (hcap : cs.length ≤ c) (hn : xs.length ≤ 1048576) (hns : IS w L' B' A' xs) (hB' : B' ≤ w.heap.size) (hcap' : xs.length ≤ c') :
    Calls Try.prog 35 #[.slice A cs.length c, .slice A' xs.length c'] w (ResIsOrder (isoB cs xs) (orGood cs) w) := by
  have hbr : isoB cs xs = (orGood cs && ordB cs xs) := rfl
  cases hg : orGood cs
  · have H := Lib.hid (planOf_no L B A c cs w hg hl hes hB hcap)
    have hR : Hid (isoB cs xs = false) := by rw [Hid, hbr, hg]; rfl
    clear hg hes hns hbr
    generalize isoB cs xs = R at *
    go_enter Try.func35, Try.ntmps35
    go_wp2_with (fail)
    refine H.out.mono ?_
    rintro e w1 ⟨rfl, hb1⟩
    have hB1 := Lib.hid (hb1.alloc hb1.size (.cells #[.slice none 0 0, .slice none 0 0] 77))
    clear hb1
    go_wp2
    go_ret2
    rw [hR.out]
    exact ⟨rfl, hB1.out⟩
  · have H := Lib.hid (planOf_yes L B A c cs w hg hl hes hB hcap)
    have hR : Hid (isoB cs xs = ordB cs xs) := by rw [Hid, hbr, hg]; rfl
    have hO : Hid (ordB cs xs = ((xs.length == cs.length) && ordP cs xs xs.length)) := rfl
    have h20 := (orGood_parts hg).1
    have hPs := Lib.hid (ordP_succ cs xs)
    have hPf := Lib.hid fun (k : Nat) (hk : k ≤ xs.length) (h : ordP cs xs k = false) => ordP_false h hk
    have hPi := Lib.hid fun (k : Nat) (hk : k ≤ xs.length) (h : ordP cs xs k = true) => ordP_in hk h
    have hMc := Lib.hid fun (An : Option Addr) (cn L1 B1 i : Nat) (ys : List Int) (W : World) (hi : i < cs.length) (hxs : ∀ x ∈ ys, 0 ≤ x ∧ x < 20) (hp : PN W L1 B1 An (nds cs)) (hB1 : B1 ≤ W.heap.size) => mayCome_any A cs.length c L1 B1 An cn cs i ys W h20 hi hxs hp hB1
    have hSt : Hid (∀ ys j, stpB cs ys j = (inR j 0 ((cs.length : Int) - 1) && mayB cs ys j.toNat)) := fun ys j => rfl
    have hSo := Lib.hid fun (k : Nat) (h : k < xs.length) => setOf_snoc h
    have hP0 : Hid (ordP cs xs 0 = true) := rfl
    have hIS := Lib.hid fun (W : World) (hW : Below w.heap.size w W) => hns.below hW hB'
    clear hg hes hns hbr
    generalize isoB cs xs = R at *
    generalize ordB cs xs = O at *
    generalize ordP cs xs = P at *
    go_enter Try.func35, Try.ntmps35
    go_wp2_with (fail)
    refine H.out.mono ?_
    rintro e w1 ⟨An, cn, rfl, hpn, hb1⟩
    obtain ⟨g1, hg1⟩ : ∃ g1, g1 = w1.heap.size := ⟨_, rfl⟩
    have a1 := (Below.refl w1.heap.size w1).alloc (Nat.le_refl _) (.cells #[.slice A cs.length c, .slice An cs.length cn] 77)
    have hB1 := Lib.hid (hb1.trans (a1.mono hb1.size))
    have hP1 := Lib.hid (PB.new w1 (.slice A cs.length c) (.slice An cs.length cn))
    have hN1 := Lib.hid (hpn.below a1 (Nat.le_refl _))
    have hz1 : w1.heap.size < (w1.alloc (.cells #[.slice A cs.length c, .slice An cs.length cn] 77)).heap.size := by simp
    clear a1 hb1 hpn
    go_wp2_with (fail)
    rw [← hg1] at hP1 hN1 hz1 ⊢
    have hG1 := Lib.hid hg1
    clear hg1
    generalize w1.alloc (.cells #[.slice A cs.length c, .slice An cs.length cn] 77) = W1 at *
    go_loopw [8, 20] (fun v q wr => ∃ k : Nat, k ≤ xs.length ∧ q = .int .i64 k ∧ v = .int .u64 ((setOf (xs.take k) : Nat) : Int) ∧ P k = true ∧ Below W1.heap.size W1 wr) (fun _ q _ => xs.length - (intOf q).toNat)
    case atStart => exact ⟨0, Nat.zero_le _, rfl, rfl, hP0.out, Below.refl _ _⟩
    case round =>
      obtain ⟨k, hk, rfl, rfl, hpk, hbel⟩ := hrel
      have hPk := Lib.hid hpk
      have hBL := Lib.hid hbel
      clear hbel hpk
      by_cases hlt : k < xs.length
      · have hki : (k : Int) < (xs.length : Int) := by omega
        have hbw := Lib.hid (hB1.out.trans (hBL.out.mono hB1.out.size))
        obtain ⟨xb, xo, rfl, _, hxc⟩ := (hIS.out wr hbw.out) (by omega)
        have x0 := hxc k hlt
        have hPn := Lib.hid (hPs.out k)
        have hgd : Hid (xs.getD k 0 = xs[k]) := by rw [Hid, List.getD_eq_getElem?_getD, List.getElem?_eq_getElem hlt]; rfl
        rw [hgd.out] at hPn
        have hFn := Lib.hid (hPf.out (k + 1) hlt)
        have hin := Lib.hid (hPi.out k hk hPk.out)
        have hso := Lib.hid (hSo.out k hlt)
        have hst := Lib.hid (hSt.out (xs.take k) xs[k])
        have p0 := PB.c0 (CB.below hP1.out hBL.out hz1)
        have p1 := PB.c1 (CB.below hP1.out hBL.out hz1)
        clear hxc hgd
        generalize xs[k] = j at *
        generalize hs1 : setOf (xs.take (k + 1)) = s1 at *
        have hS1 := Lib.hid hs1
        clear hs1
        generalize hps : P (k + 1) = pk1 at *
        have hPs1 := Lib.hid hps
        clear hps
        generalize stpB cs (xs.take k) j = st at *
        by_cases hj : 0 ≤ j ∧ j < cs.length
        · have hir : inR j 0 ((cs.length : Int) - 1) = true := (inR_iff _ _ _).2 (by omega)
          rw [hir, Bool.true_and] at hst
          obtain ⟨t, rfl⟩ := Int.eq_ofNat_of_zero_le hj.1
          rw [Int.toNat_natCast] at hst hso
          have htn : t < cs.length := by omega
          have hC := Lib.hid (hMc.out An cn w.heap.size g1 t (xs.take k) wr htn (fun x hx => by have := hin.out x hx; omega) (hN1.out.below hBL.out (Nat.le_of_lt hz1)) (Nat.le_trans (Nat.le_of_lt hz1) hBL.out.size))
          have hs20 : setOf (xs.take k) < 1048576 := setOf_lt fun x hx => by have := hin.out x hx; omega
          have hWi := Lib.hid fun (W : World) => with_any (setOf (xs.take k)) t W hs20 (by omega)
          have hii := Lib.hid fun (W : World) => isIndex_any (t : Int) (cs.length : Int) W
          rw [hir] at hii
          rw [← hso.out] at hWi
          clear hj hir hin hs20
          generalize setOf (xs.take k) = s0 at *
          generalize mayB cs (xs.take k) t = mb at *
          cases mb
          · have hF : Hid (O = false) := by
              have h1 : pk1 = false := by rw [hPn.out, hst.out]; simp
              rw [Hid, hO.out, hFn.out h1]; simp
            go_wp2_with (fail)
            refine (hii.out _).mono ?_
            rintro e w3 ⟨rfl, rfl⟩
            go_wp2_with (fail)
            refine hC.out.mono ?_
            rintro e w3 ⟨rfl, hb3⟩
            have hfin := Lib.hid (hbw.out.trans (hb3.mono hbw.out.size))
            clear hb3
            go_wp2
            go_ret2
            rw [hR.out, hF.out]
            exact ⟨rfl, hfin.out⟩
          · have hT : Hid (pk1 = true) := by rw [Hid, hPn.out, hst.out, hPk.out]; rfl
            go_wp2_with (fail)
            refine (hii.out _).mono ?_
            rintro e w3 ⟨rfl, rfl⟩
            go_wp2_with (fail)
            refine hC.out.mono ?_
            rintro e w3 ⟨rfl, hb3⟩
            have hfin := Lib.hid (hBL.out.trans (hb3.mono hBL.out.size))
            clear hb3 p0 p1
            go_wp2_with (fail)
            refine (hWi.out _).mono ?_
            rintro e w4 ⟨rfl, rfl⟩
            go_wp2
            go_roundw
            case rel => exact ⟨k + 1, by omega, by go_num, by rw [hS1.out], by rw [hPs1.out]; exact hT.out, hfin.out⟩
            case measure => simp [intOf]; omega
        · have hir : inR j 0 ((cs.length : Int) - 1) = false := by
            cases h : inR j 0 ((cs.length : Int) - 1)
            · rfl
            · have := (inR_iff _ _ _).1 h; omega
          have hii := Lib.hid fun (W : World) => isIndex_any j (cs.length : Int) W
          rw [hir] at hii hst
          have hF : Hid (O = false) := by
            have h1 : pk1 = false := by rw [hPn.out, hst.out]; simp
            rw [Hid, hO.out, hFn.out h1]; simp
          clear hj hir hin
          go_wp2_with (fail)
          refine (hii.out _).mono ?_
          rintro e w3 ⟨rfl, rfl⟩
          go_wp2
          go_ret2
          rw [hR.out, hF.out]
          exact ⟨rfl, hbw.out⟩
      · obtain rfl : k = xs.length := by omega
        have hF : Hid (O = (xs.length == cs.length)) := by rw [Hid, hO.out, hPk.out, Bool.and_true]
        have hfin := Lib.hid (hB1.out.trans (hBL.out.mono hB1.out.size))
        have hbb : Hid (((xs.length : Int) == (cs.length : Int)) = (xs.length == cs.length)) := by rw [Hid, Bool.eq_iff_iff]; simp; omega
        go_wp2
        go_ret2
        rw [hR.out, hF.out]
        exact ⟨by rw [← hbb.out]; rfl, hfin.out⟩
end Go.Proofs.Ytpgdccfpegdcoaa

/- Chapter 9: IsOrder of the model. -/
namespace Go.Proofs.Ytpgdccfpegdcoaa
open Go.RowKit
set_option linter.unusedVariables false
set_option maxRecDepth 100000

theorem ordB_len {cs : List In} {xs : List Int} (h : xs.length ≠ cs.length) : ordB cs xs = false := by
  unfold ordB; rw [beq_eq_false_iff_ne.2 h]; rfl
theorem ordB_all {cs : List In} {xs : List Int} (h : allIn xs 0 ((cs.length : Int) - 1) = false) : ordB cs xs = false := by
  cases h2 : ordP cs xs xs.length
  · unfold ordB; rw [h2]; simp
  · have h3 := ordP_in (Nat.le_refl _) h2
    rw [List.take_length] at h3
    have h4 : allIn xs 0 ((cs.length : Int) - 1) = true := by
      unfold allIn; rw [List.all_eq_true]
      intro x hx
      rw [inR_iff]
      have := h3 x hx
      omega
    rw [h] at h4; cases h4
theorem allIn_at {xs : List Int} {lo hi : Int} (h : allIn xs lo hi = true) {k : Nat} (hk : k < xs.length) : lo ≤ xs[k] ∧ xs[k] ≤ hi := by
  unfold allIn at h
  rw [List.all_eq_true] at h
  exact (inR_iff _ _ _).1 (h _ (List.getElem_mem hk))

set_option maxHeartbeats 8000000 in
theorem orOrder_any (L B : Nat) (A : Option Addr) (c : Nat) (cs : List In) (L' B' : Nat) (A' : Option Addr) (c' : Nat) (xs : List Int) (w : World) (hl : cs.length ≤ 20) (hgood : ∀ x ∈ cs, goodIn x = true) (hes : RS In.enc 5 w L B A cs) (hB : B ≤ w.heap.size) (hn : xs.length ≤ 1048576) (hns : IS w L' B' A' xs) (hB' : B' ≤ w.heap.size) (hcap : xs.length ≤ c') :
    Calls Try.prog 87 #[.slice A cs.length c, .slice A' xs.length c'] w fun e w' => e = .returned (.bool (ordB cs xs)) ∧ Below w.heap.size w w' := by
  have b0 := Lib.hid (Below.refl w.heap.size w)
  by_cases hlen : xs.length = cs.length
  · have hAll := Lib.hid (l1All_any L' B' A' c' xs 0 ((cs.length : Int) - 1) w hn hns)
    have e1 : ((xs.length : Int) != (cs.length : Int)) = false := by simp; omega
    have hsub : IntKind.i64.wrap ((cs.length : Int) - 1) = (cs.length : Int) - 1 := IntWalk.i64_in _ (by omega)
    cases ha : allIn xs 0 ((cs.length : Int) - 1)
    · have hF := Lib.hid (ordB_all ha)
      rw [ha] at hAll
      clear ha hes hns hgood hlen
      generalize ordB cs xs = O at *
      go_enter Try.func87, Try.ntmps87
      go_wp2_with (fail)
      refine hAll.out.mono ?_
      rintro e w3 ⟨rfl, rfl⟩
      go_wp2
      go_ret
      exact ⟨by rw [hF.out]; rfl, b0.out⟩
    · have hIn := Lib.hid fun (k : Nat) (h : k < xs.length) => allIn_at ha h
      have H := Lib.hid (orDelays_any L B A c cs w hl hgood hes hB)
      have hO : Hid (ordB cs xs = ordP cs xs xs.length) := by unfold Hid ordB; rw [beq_iff_eq.2 hlen]; rfl
      have hPs := Lib.hid (ordP_succ cs xs)
      have hPf := Lib.hid fun (k : Nat) (hk : k ≤ xs.length) (h : ordP cs xs k = false) => ordP_false h hk
      have hP0 : Hid (ordP cs xs 0 = true) := rfl
      have hSt : Hid (∀ ys j, stpB cs ys j = (inR j 0 ((cs.length : Int) - 1) && (ndIn cs ys j.toNat cs.length && !hasI ys j.toNat))) := fun ys j => rfl
      have hNy := Lib.hid fun (ys : List Int) (j k : Nat) (h : 0 ≤ dT cs k j) => ndIn_yes (xs := ys) h
      have hNn := Lib.hid fun (ys : List Int) (j k : Nat) (h : ¬ 0 ≤ dT cs k j) => ndIn_no (xs := ys) h
      have hNf := Lib.hid fun (ys : List Int) (j k : Nat) (h : ndIn cs ys j k = false) (hk : k ≤ cs.length) => ndIn_false h hk
      have hN0 : Hid (∀ ys j, ndIn cs ys j 0 = true) := fun _ _ => rfl
      have hIS := Lib.hid fun (W : World) (hW : Below w.heap.size w W) => hns.below hW hB'
      have hHa := Lib.hid fun (b o k : Nat) (n : Int) (W : World) (h : IS W L' B' (some ⟨b, o, none⟩) xs) (hk : k ≤ xs.length) => l1Has_eq L' B' (some ⟨b, o, none⟩) k c' (xs.take k) n W (by rw [List.length_take]; omega) (by rw [List.length_take]; omega) (h.take k)
      have hRl := Lib.hid (dRows_len cs cs.length)
      have hRa := Lib.hid fun (i : Nat) (h : i < (dRows cs cs.length).length) => dRows_at cs cs.length h
      have hTl := Lib.hid (dTab_len cs)
      have hTa := Lib.hid fun (i j : Nat) (h : j < (dTab cs i cs.length).length) => dTab_at cs i cs.length h
      rw [ha] at hAll
      have hLen := Lib.hid hlen
      clear ha hes hns hgood hB
      generalize ordB cs xs = O at *
      generalize ordP cs xs = P at *
      generalize dRows cs cs.length = TT at *
      generalize dTab cs = T at *
      generalize dT cs = E at *
      generalize ndIn cs = NI at *
      have hcc' : (xs.length : Int) ≤ (c' : Int) := by omega
      clear hlen
      go_enter Try.func87, Try.ntmps87
      go_wp2_with (fail)
      refine hAll.out.mono ?_
      rintro e w3 ⟨rfl, rfl⟩
      go_wp2_with (fail)
      refine H.out.mono ?_
      rintro e w1 ⟨At, ct, rfl, hox, hb1⟩
      have hXT := Lib.hid (OX.rs hox)
      have hB1 := Lib.hid hb1
      have hT1 := Lib.hid (hIS.out w1 hb1)
      clear hox hb1
      rw [hRl.out]
      go_wp2
      go_loop [26] (fun q => ∃ k : Nat, k ≤ xs.length ∧ q = .int .i64 k ∧ P k = true) (fun q => xs.length - (intOf q).toNat)
      case atStart => exact ⟨0, Nat.zero_le _, rfl, hP0.out⟩
      case round =>
        obtain ⟨k, hk, rfl, hpk⟩ := hrel
        have hPk := Lib.hid hpk
        clear hpk
        by_cases hlt : k < xs.length
        · have hki : (k : Int) < (xs.length : Int) := by omega
          have hkc : (k : Int) ≤ (c' : Int) := by omega
          have hk0 : (0 : Int) ≤ (k : Int) := by omega
          obtain ⟨b9, o9, rfl, _, hxc⟩ := hT1.out (by omega)
          have x0 := hxc k hlt
          have hPn := Lib.hid (hPs.out k)
          have hgd : Hid (xs.getD k 0 = xs[k]) := by rw [Hid, List.getD_eq_getElem?_getD, List.getElem?_eq_getElem hlt]; rfl
          rw [hgd.out] at hPn
          have hFn := Lib.hid (hPf.out (k + 1) hlt)
          have hst := Lib.hid (hSt.out (xs.take k) xs[k])
          have hin := hIn.out k hlt
          have hHk := Lib.hid fun (n : Int) => hHa.out b9 o9 k n w1 hT1.out hk
          have hir : inR xs[k] 0 ((cs.length : Int) - 1) = true := (inR_iff _ _ _).2 hin
          rw [hir, Bool.true_and] at hst
          clear hxc hgd hir
          generalize xs[k] = j at *
          generalize xs.take k = ys at *
          generalize hps : P (k + 1) = pk1 at *
          have hPs1 := Lib.hid hps
          clear hps
          generalize stpB cs ys j = st at *
          obtain ⟨t, rfl⟩ := Int.eq_ofNat_of_zero_le hin.1
          rw [Int.toNat_natCast] at hst
          have htn : t < cs.length := by omega
          have hti : (t : Int) < (cs.length : Int) := by omega
          have ht0 : (0 : Int) ≤ (t : Int) := by omega
          have hHt := Lib.hid (hHk.out (t : Int))
          clear hin
          cases hh : hasI ys (t : Int)
          · rw [hh] at hHt hst
            have hst2 : Hid (st = NI ys t cs.length) := by rw [Hid, hst.out]; simp
            clear hh hst
            go_wp2_with (fail)
            refine hHt.out.mono ?_
            rintro e w3 ⟨rfl, rfl⟩
            go_wp2
            go_loop [38] (fun q => ∃ i : Nat, i ≤ cs.length ∧ q = .int .i64 i ∧ NI ys t i = true) (fun q => cs.length - (intOf q).toNat)
            case atStart => exact ⟨0, Nat.zero_le _, rfl, hN0.out _ _⟩
            case round =>
              obtain ⟨i, hi, rfl, hni⟩ := hrel
              have hNi := Lib.hid hni
              clear hni
              by_cases hij : i < cs.length
              · have hii : (i : Int) < (cs.length : Int) := by omega
                have hi0 : (0 : Int) ≤ (i : Int) := by omega
                obtain ⟨xb, xo, Ai, ci, rfl, hxb, xc, hI⟩ := XS.at hXT.out (show i < TT.length by rw [hRl.out]; omega)
                rw [hRa.out i (by rw [hRl.out]; omega)] at xc hI
                rw [hTl.out] at xc
                obtain ⟨rb, ro, rfl, ⟨_, hrb⟩, hcc⟩ := hI (by rw [hTl.out]; omega)
                have rc := hcc t (by rw [hTl.out]; exact htn)
                rw [hTa.out i t (by rw [hTl.out]; exact htn)] at rc
                have hY := Lib.hid (hNy.out ys t i)
                have hN := Lib.hid (hNn.out ys t i)
                have hNF := Lib.hid (hNf.out ys t (i + 1))
                have hHi := Lib.hid (hHk.out (i : Int))
                clear hcc hI
                generalize hn1 : NI ys t (i + 1) = n1 at *
                have hN1 := Lib.hid hn1
                clear hn1
                generalize E i t = dd at *
                by_cases h0 : 0 ≤ dd
                · have hY2 := Lib.hid (hY.out h0)
                  have h0d : decide (0 ≤ dd) = true := decide_eq_true h0
                  clear hY hN
                  cases hh : hasI ys (i : Int)
                  · rw [hh] at hHi hY2
                    have hF : Hid (O = false) := by
                      have h1 : NI ys t cs.length = false := hNF.out (by rw [hY2.out]; simp) (by omega)
                      have h2 : pk1 = false := by rw [hPn.out, hst2.out, h1]; simp
                      rw [Hid, hO.out]; exact hFn.out h2
                    clear hh
                    go_wp2_with (fail)
                    refine hHi.out.mono ?_
                    rintro e w3 ⟨rfl, rfl⟩
                    go_wp2
                    go_ret
                    exact ⟨by rw [hF.out]; rfl, hB1.out⟩
                  · rw [hh] at hHi hY2
                    have hT : Hid (n1 = true) := by rw [Hid, hY2.out, hNi.out]; rfl
                    clear hh
                    go_wp2_with (fail)
                    refine hHi.out.mono ?_
                    rintro e w3 ⟨rfl, rfl⟩
                    go_wp2
                    go_round
                    case rel => exact ⟨i + 1, by omega, by go_num, by rw [hN1.out]; exact hT.out⟩
                    case measure => simp [intOf]; omega
                · have hN2 := Lib.hid (hN.out (by omega))
                  have hT : Hid (n1 = true) := by rw [Hid, hN2.out, hNi.out]
                  have h0d : decide (0 ≤ dd) = false := decide_eq_false h0
                  clear hY hN
                  go_wp2
                  go_round
                  case rel => exact ⟨i + 1, by omega, by go_num, by rw [hN1.out]; exact hT.out⟩
                  case measure => simp [intOf]; omega
              · obtain rfl : i = cs.length := by omega
                have hT : Hid (pk1 = true) := by rw [Hid, hPn.out, hst2.out, hPk.out, hNi.out]; rfl
                go_wp2
                go_round
                case rel => exact ⟨k + 1, by omega, by go_num, by rw [hPs1.out]; exact hT.out⟩
                case measure => simp [intOf]; omega
          · rw [hh] at hHt hst
            have hF : Hid (O = false) := by
              have h1 : pk1 = false := by rw [hPn.out, hst.out]; simp
              rw [Hid, hO.out]; exact hFn.out h1
            clear hh hst
            go_wp2_with (fail)
            refine hHt.out.mono ?_
            rintro e w3 ⟨rfl, rfl⟩
            go_wp2
            go_ret
            exact ⟨by rw [hF.out]; rfl, hB1.out⟩
        · obtain rfl : k = xs.length := by omega
          go_wp2
          go_ret
          exact ⟨by rw [hO.out, hPk.out]; rfl, hB1.out⟩
  · have hF := Lib.hid (ordB_len hlen)
    have e1 : ((xs.length : Int) != (cs.length : Int)) = true := by simp; omega
    clear hes hns hgood
    generalize ordB cs xs = O at *
    go_enter Try.func87, Try.ntmps87
    go_wp2
    go_ret
    exact ⟨by rw [hF.out]; rfl, b0.out⟩
end Go.Proofs.Ytpgdccfpegdcoaa

/- Chapter 9: IsOrder of the model as the law takes it. -/
namespace Go.Proofs.Ytpgdccfpegdcoaa
open Go.RowKit
set_option linter.unusedVariables false
set_option maxRecDepth 100000

set_option maxHeartbeats 4000000 in
theorem sIsOrder_k (L B : Nat) (A : Option Addr) (c : Nat) (cs : List In) (L' B' : Nat) (A' : Option Addr) (c' : Nat) (xs : List Int) (w : World) (hl : cs.length ≤ 1048576) (hes : RS In.enc 5 w L B A cs) (hB : B ≤ w.heap.size) (hn : xs.length ≤ 1048576) (hns : IS w L' B' A' xs) (hB' : B' ≤ w.heap.size) (hcap' : xs.length ≤ c') :
    Calls Try.prog 33 #[.slice A cs.length c, .slice A' xs.length c'] w (ResIsOrder (isoB cs xs) (orGood cs) w) := by
  have hbr : isoB cs xs = (orGood cs && ordB cs xs) := rfl
  have H := Lib.hid (orGood_any L B A c cs w hl hes hB)
  cases hg : orGood cs
  · have hR : Hid (isoB cs xs = false) := by rw [Hid, hbr, hg]; rfl
    rw [hg] at H
    clear hg hes hns hbr
    generalize isoB cs xs = R at *
    go_enter Try.func33, Try.ntmps33
    go_wp2_with (fail)
    refine H.out.mono ?_
    rintro e w1 ⟨rfl, hb1⟩
    have hB1 := Lib.hid hb1
    clear hb1
    go_wp2
    go_ret2
    rw [hR.out]
    exact ⟨rfl, hB1.out⟩
  · have hR : Hid (isoB cs xs = ordB cs xs) := by rw [Hid, hbr, hg]; rfl
    have hGp := orGood_parts hg
    have HO := Lib.hid fun (W : World) (hW : Below w.heap.size w W) => orOrder_any L B A c cs L' B' A' c' xs W hGp.1 hGp.2 (hes.below hW hB) (Nat.le_trans hB hW.size) hn (hns.below hW hB') (Nat.le_trans hB' hW.size) hcap'
    rw [hg] at H
    clear hg hes hns hGp hbr
    generalize isoB cs xs = R at *
    generalize ordB cs xs = O at *
    go_enter Try.func33, Try.ntmps33
    go_wp2_with (fail)
    refine H.out.mono ?_
    rintro e w1 ⟨rfl, hb1⟩
    have hB1 := Lib.hid hb1
    clear hb1
    go_wp2_with (fail)
    refine (HO.out _ hB1.out).mono ?_
    rintro e w2 ⟨rfl, hb2⟩
    have hB2 := Lib.hid (hB1.out.trans (hb2.mono hB1.out.size))
    clear hb2
    go_wp2
    go_ret2
    rw [hR.out]
    exact ⟨rfl, hB2.out⟩
end Go.Proofs.Ytpgdccfpegdcoaa

/- Chapter 9: ApplyOrder, both. -/
namespace Go.Proofs.Ytpgdccfpegdcoaa
open Go.RowKit
set_option linter.unusedVariables false
set_option maxRecDepth 100000

theorem five_new9 {w : World} {g : Nat} (y : In) (hg : w.heap.size = g) : ∀ j u, (In.enc y)[j]? = some u → (w.alloc (.cells #[.string y.op, .int .i64 y.d, .int .i64 y.a, .int .i64 y.b, .int .i64 y.m] 65)).cell? ((⟨g, 0, none⟩ : Addr).add j) = some u := by
  intro j u hu
  subst hg
  have hc : CB 65 (w.alloc (.cells #[.string y.op, .int .i64 y.d, .int .i64 y.a, .int .i64 y.b, .int .i64 y.m] 65)) w.heap.size (In.enc y) := heap_alloc_new w _
  rw [addr_add]
  exact (hc.cell j).trans hu
def ordL (cs : List In) (xs : List Int) : List In := xs.map fun i => inAt cs i.toNat
theorem ordL_len (cs : List In) (xs : List Int) : (ordL cs xs).length = xs.length := by simp [ordL]
theorem ordL_at {cs : List In} {xs : List Int} {k t : Nat} (hk : k < xs.length) (h : xs[k] = (t : Int)) (ht : t < cs.length) (h2 : k < (ordL cs xs).length) : (ordL cs xs)[k] = cs[t] := by
  have e : (ordL cs xs)[k] = inAt cs (xs[k]).toNat := by simp [ordL]
  rw [e, h, Int.toNat_natCast, inAt_eq ht]
theorem ordL_take {cs : List In} {xs : List Int} {k t : Nat} (hk : k < xs.length) (h : xs[k] = (t : Int)) (ht : t < cs.length) : (ordL cs xs).take (k + 1) = (ordL cs xs).take k ++ [cs[t]] := by
  have h2 : k < (ordL cs xs).length := by rw [ordL_len]; exact hk
  rw [List.take_succ_eq_append_getElem h2, ordL_at hk h ht h2]
def apR (cs : List In) (xs : List Int) : List In := if isoB cs xs = true then ordL cs xs else []
theorem apR_yes {cs : List In} {xs : List Int} (h : isoB cs xs = true) : apR cs xs = ordL cs xs := by unfold apR; rw [if_pos h]
theorem apR_no {cs : List In} {xs : List Int} (h : isoB cs xs = false) : apR cs xs = [] := by unfold apR; rw [h]; rfl
theorem isoB_parts {cs : List In} {xs : List Int} (h : isoB cs xs = true) : orGood cs = true ∧ ordB cs xs = true ∧ xs.length = cs.length ∧ ∀ (k : Nat) (hk : k < xs.length), ∃ t : Nat, xs[k] = (t : Int) ∧ t < cs.length := by
  unfold isoB at h
  rw [Bool.and_eq_true] at h
  refine ⟨h.1, h.2, ?_⟩
  have h2 := h.2
  unfold ordB at h2
  rw [Bool.and_eq_true, beq_iff_eq] at h2
  refine ⟨h2.1, fun k hk => ?_⟩
  have h3 := ordP_in (Nat.le_refl _) h2.2
  rw [List.take_length] at h3
  have h4 := h3 _ (List.getElem_mem hk)
  obtain ⟨t, ht⟩ := Int.eq_ofNat_of_zero_le h4.1
  exact ⟨t, ht, by omega⟩
theorem apR_len (cs : List In) (xs : List Int) : (apR cs xs).length ≤ 1048576 := by
  cases h : isoB cs xs
  · rw [apR_no h]; simp
  · rw [apR_yes h, ordL_len]
    have := isoB_parts h
    have := (orGood_parts this.1).1
    omega

set_option maxHeartbeats 8000000 in
theorem iApplyOrder_k (L B : Nat) (A : Option Addr) (c : Nat) (cs : List In) (L' B' : Nat) (A' : Option Addr) (c' : Nat) (xs : List Int) (w : World) (hl : cs.length ≤ 1048576) (hes : RS In.enc 5 w L B A cs) (hB : B ≤ w.heap.size) (hcap : cs.length ≤ c) (hn : xs.length ≤ 1048576) (hns : IS w L' B' A' xs) (hB' : B' ≤ w.heap.size) (hcap' : xs.length ≤ c') :
    Calls Try.prog 38 #[.slice A cs.length c, .slice A' xs.length c'] w (ResApplyOrder (apR cs xs) (isoB cs xs) w) := by
  have H := Lib.hid (iIsOrder_k L B A c cs L' B' A' c' xs w hl hes hB hcap hn hns hB' hcap')
  cases hg : isoB cs xs
  · have hR := Lib.hid (apR_no hg)
    rw [hg] at H
    clear hg hes hns
    generalize apR cs xs = R at *
    generalize orGood cs = G at *
    go_enter Try.func38, Try.ntmps38
    go_wp2_with (fail)
    refine H.out.mono ?_
    rintro e w1 ⟨rfl, hb1⟩
    have hB1 := Lib.hid hb1
    clear hb1
    go_wp2
    go_ret2
    rw [hR.out]
    exact ⟨none, 0, rfl, OK.nil _ _ _ _, hB1.out⟩
  · have hR := Lib.hid (apR_yes hg)
    obtain ⟨hG, _, hlen, hin⟩ := isoB_parts hg
    have h20 := (orGood_parts hG).1
    have hIn := Lib.hid hin
    have hAt := Lib.hid fun (k t : Nat) (hk : k < xs.length) (h : xs[k] = (t : Int)) (ht : t < cs.length) (h2 : k < (ordL cs xs).length) => ordL_at hk h ht h2
    have hOl := Lib.hid (ordL_len cs xs)
    have hmk := run_make_Instr xs.length hn
    have hE := Lib.hid fun (W : World) (hW : Below w.heap.size w W) => hes.below hW hB
    have hIS := Lib.hid fun (W : World) (hW : Below w.heap.size w W) => hns.below hW hB'
    have hBB := Lib.hid hB
    rw [hg] at H
    have hx20 : xs.length ≤ 20 := by omega
    have hLn := Lib.hid hlen
    clear hg hes hns hin hG hlen hB
    generalize apR cs xs = R at *
    generalize orGood cs = G at *
    generalize ordL cs xs = Y at *
    go_enter Try.func38, Try.ntmps38
    go_wp2_with (fail)
    refine H.out.mono ?_
    rintro e w1 ⟨rfl, hb1⟩
    have hB1 := Lib.hid hb1
    clear hb1
    have hU0 : Hid (CB 65 (w1.alloc (.cells ((List.replicate xs.length zeroIn).flatMap In.enc).toArray 65)) w1.heap.size ((over Y (List.replicate xs.length zeroIn) 0).flatMap In.enc ++ [])) := by
      rw [over_zero, List.append_nil]; exact heap_alloc_new w1 _
    have hb2 := Lib.hid ((Below.refl w1.heap.size w1).alloc (Nat.le_refl _) (.cells ((List.replicate xs.length zeroIn).flatMap In.enc).toArray 65))
    go_wp2
    go_loopw [24] (fun q wr => ∃ k : Nat, k ≤ xs.length ∧ q = .int .i64 k ∧ CB 65 wr w1.heap.size ((over Y (List.replicate xs.length zeroIn) k).flatMap In.enc ++ []) ∧ Below w1.heap.size w1 wr) (fun q _ => xs.length - (intOf q).toNat)
    case atStart => exact ⟨0, Nat.zero_le _, rfl, hU0.out, hb2.out⟩
    case round =>
      clear hU0 hb2 hmk
      obtain ⟨k, hk, rfl, hib, hbel⟩ := hrel
      have hIB := Lib.hid hib
      have hBL := Lib.hid hbel
      have hglt := hib.lt
      clear hib hbel
      by_cases hlt : k < xs.length
      · have hki : (k : Int) < (xs.length : Int) := by omega
        have hk0 : (0 : Int) ≤ (k : Int) := by omega
        have hbw := hB1.out.trans (hBL.out.mono hB1.out.size)
        obtain ⟨xb, xo, rfl, _, hxc⟩ := (hIS.out wr hbw) (by omega)
        obtain ⟨t, ht, htn⟩ := hIn.out k hlt
        have x0 := hxc k hlt
        rw [ht] at x0
        have hti : (t : Int) < (cs.length : Int) := by omega
        have ht0 : (0 : Int) ≤ (t : Int) := by omega
        obtain ⟨b, o, rfl, ⟨_, hbB⟩, hc⟩ := In.cells (hE.out wr hbw) (by omega)
        obtain ⟨c1, c2, c3, c4, c5⟩ := hc t htn
        have hyk := hAt.out k t hlt ht htn (by rw [hOl.out]; exact hlt)
        have hov : Hid ((over Y (List.replicate xs.length zeroIn) k).set k cs[t] = over Y (List.replicate xs.length zeroIn) (k + 1)) := by
          rw [← hyk]; exact over_succ (by rw [hOl.out]; exact hlt) (by rw [hOl.out]; simp)
        have hol : Hid ((over Y (List.replicate xs.length zeroIn) k).length = xs.length) := by rw [Hid, over_len (by rw [hOl.out]; omega) (by rw [hOl.out]; simp)]; simp
        clear hc hxc ht hyk hbw
        generalize cs[t] = nd at *
        obtain ⟨op, d, a, bb, m⟩ := nd
        obtain ⟨z0, z1, z2, z3, z4, d1, d2, d3, d4, d5⟩ := In.cellsB hIB.out k (by rw [hol.out]; exact hlt)
        have f1 := hIB.out.frozen (k * 5)
        have f2 := hIB.out.frozen (k * 5 + 1)
        have f3 := hIB.out.frozen (k * 5 + 2)
        have f4 := hIB.out.frozen (k * 5 + 3)
        have f5 := hIB.out.frozen (k * 5 + 4)
        have hst : Hid (CB 65 (setCells wr w1.heap.size (k * 5) (In.enc ⟨op, d, a, bb, m⟩)) w1.heap.size ((over Y (List.replicate xs.length zeroIn) (k + 1)).flatMap In.enc ++ [])) := by
          have h1 := hIB.out.store In.hk k (by rw [hol.out]; exact hlt) ⟨op, d, a, bb, m⟩
          rw [hov.out] at h1; exact h1
        have hbs := Lib.hid (below_setCells (In.enc ⟨op, d, a, bb, m⟩) w1.heap.size (k * 5) hBL.out (Nat.le_refl _))
        dsimp only at c1 c2 c3 c4 c5
        have hbne : b ≠ w1.heap.size := by have := hB1.out.size; have := hBB.out; omega
        go_wp2
        go_roundw
        case rel => exact ⟨k + 1, by omega, by go_num, hst.out, hbs.out⟩
        case measure => simp [intOf]; omega
      · obtain rfl : k = xs.length := by omega
        have hfin := Lib.hid (hB1.out.trans (hBL.out.mono hB1.out.size))
        go_wp2
        go_ret2
        have h1 := hIB.out
        rw [← hOl.out, over_all (by simp)] at h1
        have h2 := (cb_nil h1).toOK In.hk (by unfold maxLen; rw [hOl.out]; omega) hB1.out.size hglt
        rw [hR.out]
        exact ⟨_, _, by rw [hOl.out]; rfl, h2, hfin.out⟩

set_option maxHeartbeats 8000000 in
theorem sApplyOrder_k (L B : Nat) (A : Option Addr) (c : Nat) (cs : List In) (L' B' : Nat) (A' : Option Addr) (c' : Nat) (xs : List Int) (w : World) (hl : cs.length ≤ 1048576) (hes : RS In.enc 5 w L B A cs) (hB : B ≤ w.heap.size) (hn : xs.length ≤ 1048576) (hns : IS w L' B' A' xs) (hB' : B' ≤ w.heap.size) (hcap' : xs.length ≤ c') :
    Calls Try.prog 37 #[.slice A cs.length c, .slice A' xs.length c'] w (ResApplyOrder (apR cs xs) (isoB cs xs) w) := by
  obtain ⟨i0, hi', hz0', hz1', hz2'⟩ := info_parts Try.infoInstr
  have hJ0 := Lib.hid hi'
  have hJ1 := Lib.hid hz0'
  have hJ2 := Lib.hid hz1'
  have hJ3 := Lib.hid hz2'
  clear hi' hz0' hz1' hz2'
  have hbr : isoB cs xs = (orGood cs && ordB cs xs) := rfl
  have H := Lib.hid (orGood_any L B A c cs w hl hes hB)
  cases hg : orGood cs
  · have hK : isoB cs xs = false := by rw [hbr, hg]; rfl
    have hR := Lib.hid (apR_no hK)
    have hK' := Lib.hid hK
    rw [hg] at H
    clear hg hes hns hbr hK
    generalize apR cs xs = R at *
    generalize isoB cs xs = K at *
    go_enter Try.func37, Try.ntmps37
    go_wp2_with (fail)
    refine H.out.mono ?_
    rintro e w1 ⟨rfl, hb1⟩
    have hB1 := Lib.hid hb1
    clear hb1
    go_wp2
    go_ret2
    rw [hR.out, hK'.out]
    exact ⟨none, 0, rfl, OK.nil _ _ _ _, hB1.out⟩
  have hGp := orGood_parts hg
  have HO := Lib.hid fun (W : World) (hW : Below w.heap.size w W) => orOrder_any L B A c cs L' B' A' c' xs W hGp.1 hGp.2 (hes.below hW hB) (Nat.le_trans hB hW.size) hn (hns.below hW hB') (Nat.le_trans hB' hW.size) hcap'
  rw [hg] at H
  cases ho : ordB cs xs
  · have hK : isoB cs xs = false := by rw [hbr, hg, ho]; rfl
    have hR := Lib.hid (apR_no hK)
    have hK' := Lib.hid hK
    rw [ho] at HO
    clear hg hes hns hbr hK hGp ho
    generalize apR cs xs = R at *
    generalize isoB cs xs = K at *
    go_enter Try.func37, Try.ntmps37
    go_wp2_with (fail)
    refine H.out.mono ?_
    rintro e w1 ⟨rfl, hb1⟩
    have hB1 := Lib.hid hb1
    clear hb1
    go_wp2_with (fail)
    refine (HO.out _ hB1.out).mono ?_
    rintro e w2 ⟨rfl, hb2⟩
    have hB2 := Lib.hid (hB1.out.trans (hb2.mono hB1.out.size))
    clear hb2
    go_wp2
    go_ret2
    rw [hR.out, hK'.out]
    exact ⟨none, 0, rfl, OK.nil _ _ _ _, hB2.out⟩
  · have hK : isoB cs xs = true := by rw [hbr, hg, ho]; rfl
    have hR := Lib.hid (apR_yes hK)
    have hK' := Lib.hid hK
    obtain ⟨_, _, hlen, hin⟩ := isoB_parts hK
    have h20 := hGp.1
    have hIn := Lib.hid hin
    have hTk := Lib.hid fun (k t : Nat) (hk : k < xs.length) (h : xs[k] = (t : Int)) (ht : t < cs.length) => ordL_take hk h ht
    have hOl := Lib.hid (ordL_len cs xs)
    have hE := Lib.hid fun (W : World) (hW : Below w.heap.size w W) => hes.below hW hB
    have hIS := Lib.hid fun (W : World) (hW : Below w.heap.size w W) => hns.below hW hB'
    have hx20 : xs.length ≤ 20 := by omega
    rw [ho] at HO
    clear hg hes hns hbr hK hGp ho hlen hin
    generalize apR cs xs = R at *
    generalize isoB cs xs = K at *
    generalize ordL cs xs = Y at *
    go_enter Try.func37, Try.ntmps37
    go_wp2_with (fail)
    refine H.out.mono ?_
    rintro e w1 ⟨rfl, hb1⟩
    have hB1 := Lib.hid hb1
    clear hb1
    go_wp2_with (fail)
    refine (HO.out _ hB1.out).mono ?_
    rintro e w2 ⟨rfl, hb2⟩
    have hB2 := Lib.hid (hB1.out.trans (hb2.mono hB1.out.size))
    clear hb2
    go_wp2
    go_loopw [6, 20] (fun v q wr => ∃ k : Nat, k ≤ xs.length ∧ q = .int .i64 k ∧ OK In.enc 5 65 wr w2.heap.size wr.heap.size v (Y.take k) ∧ Below w2.heap.size w2 wr) (fun _ q _ => xs.length - (intOf q).toNat)
    case atStart => exact ⟨0, Nat.zero_le _, rfl, by rw [List.take_zero]; exact OK.nil _ _ _ _, Below.refl _ _⟩
    case round =>
      obtain ⟨k, hk, rfl, hok, hbel⟩ := hrel
      have hln : (Y.take k).length = k := by rw [List.length_take, hOl.out]; omega
      obtain ⟨V, cv, rfl, _⟩ := OK.form In.hk hok
      have hO := Lib.hid hok
      have hBL := Lib.hid hbel
      clear hok hbel
      rw [hln] at hO ⊢
      by_cases hlt : k < xs.length
      · have hki : (k : Int) < (xs.length : Int) := by omega
        have hk0 : (0 : Int) ≤ (k : Int) := by omega
        have hbw := hB2.out.trans (hBL.out.mono hB2.out.size)
        obtain ⟨xb, xo, rfl, _, hxc⟩ := (hIS.out wr hbw) (by omega)
        obtain ⟨t, ht, htn⟩ := hIn.out k hlt
        have x0 := hxc k hlt
        rw [ht] at x0
        have hti : (t : Int) < (cs.length : Int) := by omega
        have ht0 : (0 : Int) ≤ (t : Int) := by omega
        obtain ⟨b, o, rfl, ⟨_, hbB⟩, hc⟩ := In.cells (hE.out wr hbw) (by omega)
        obtain ⟨c1, c2, c3, c4, c5⟩ := hc t htn
        have hyk := Lib.hid (hTk.out k t hlt ht htn)
        have hzw := hBL.out.size
        clear hc hxc ht hbw
        generalize cs[t] = nd at *
        generalize hYY : Y.take (k + 1) = Yn at *
        have hYh := Lib.hid hYY
        clear hYY
        generalize Y.take k = ys at *
        obtain ⟨op, d, a, bb, m⟩ := nd
        have ho2 := hO.out.1.alloc (.cells #[.string op, .int .i64 d, .int .i64 a, .int .i64 bb, .int .i64 m] 65)
        rw [hln] at ho2
        have ho2 := Lib.hid ho2
        have hb3 := Lib.hid (hBL.out.alloc hBL.out.size (.cells #[.string op, .int .i64 d, .int .i64 a, .int .i64 bb, .int .i64 m] 65))
        have hlo := Lib.hid hO.out.lo
        dsimp only at c1 c2 c3 c4 c5
        go_wp2_with (at_builtin; go_loud (refine wpList_append_own _ rfl _ _ 28 rfl w2.heap.size 65 i0 _ 5 48 Try.underlying28 hJ0.out hJ1.out hJ2.out hJ3.out rfl (by decide) _ k _ rfl ho2.out ⟨wr.heap.size, 0, none⟩ 1 1 (In.enc ⟨op, d, a, bb, m⟩) rfl rfl (five_new9 ⟨op, d, a, bb, m⟩ rfl) (five_one _) (by unfold maxLen; omega) (by omega) (by simp; omega) ?_); intro v' w7 hown7 hgr7 _)
        have hX7 := Lib.hid (show OK In.enc 5 65 w7 w2.heap.size w7.heap.size v' Yn from by
          rw [hyk.out]
          exact OK.ofRow (by rw [List.flatMap_append]; simpa using hown7) (by simp [hln]))
        have hB7 := Lib.hid (hb3.out.grown hgr7 hb3.out.size (fun q hq => (hlo.out q hq).1))
        clear hown7 hgr7
        go_wp2
        go_roundw
        case rel => exact ⟨k + 1, by omega, by go_num, by rw [hYh.out]; exact hX7.out, hB7.out⟩
        case measure => simp [intOf]; omega
      · obtain rfl : k = xs.length := by omega
        have hfin := Lib.hid (hB2.out.trans (hBL.out.mono hB2.out.size))
        have hX9 := hO.out.lower hB2.out.size
        rw [← hOl.out, List.take_length] at hX9
        have hX9 := Lib.hid hX9
        clear hln
        go_wp2
        go_ret2
        rw [hR.out, hK'.out]
        exact ⟨V, cv, by rw [hOl.out]; rfl, hX9.out, hfin.out⟩
end Go.Proofs.Ytpgdccfpegdcoaa

/- Arguments of the types []laws.Instr, laws.Instr and []int opened. -/
namespace Go.Proofs.Ytpgdccfpegdcoaa
open Go.ChangeShapes Go.WideShapes Go.ChangeAt Go.RowKit Go.Deep
open Go.ChangeMaps (open_string shut_string)
set_option linter.unusedVariables false

theorem cellsIn : Try.prog.cellsOf 59 = 5 := by kernel_rfl
theorem cellsStr : Try.prog.cellsOf 9 = 1 := by kernel_rfl
theorem cellsInt : Try.prog.cellsOf 3 = 1 := by kernel_rfl

set_option maxRecDepth 100000 in
theorem in_of_trod {H : Type} {enc : TypeId × Value → H} {w : World} {base : Nat} {spare : Nat → Bool} {held : Bool} {n : Nat} {cs : List Value} {x : DataW H × List MemPlace}
    (h : DataW.trod enc Try.prog w base spare held n 59 cs = some x) : ∃ nd : In, cs = nd.enc ∧ nd.op.size ≤ maxLen := by
  obtain ⟨xs, m, _, _, hlen, hxl, hf⟩ := DataW.trod_struct Try.underlying59 h
  rw [cellsIn] at hlen
  match cs, hlen with
  | [c0, c1, c2, c3, c4], _ =>
    match xs, hxl with
    | [y0, y1, y2, y3, y4], _ =>
      have h0 := hf 0 _ rfl
      change DataW.trod enc Try.prog w base spare held m 9 (([c0, c1, c2, c3, c4].drop 0).take (Try.prog.cellsOf 9)) = _ at h0
      rw [cellsStr] at h0
      have h1 := hf 1 _ rfl
      change DataW.trod enc Try.prog w base spare held m 3 (([c0, c1, c2, c3, c4].drop 1).take (Try.prog.cellsOf 3)) = _ at h1
      rw [cellsInt] at h1
      have h2 := hf 2 _ rfl
      change DataW.trod enc Try.prog w base spare held m 3 (([c0, c1, c2, c3, c4].drop 2).take (Try.prog.cellsOf 3)) = _ at h2
      rw [cellsInt] at h2
      have h3 := hf 3 _ rfl
      change DataW.trod enc Try.prog w base spare held m 3 (([c0, c1, c2, c3, c4].drop 3).take (Try.prog.cellsOf 3)) = _ at h3
      rw [cellsInt] at h3
      have h4 := hf 4 _ rfl
      change DataW.trod enc Try.prog w base spare held m 3 (([c0, c1, c2, c3, c4].drop 4).take (Try.prog.cellsOf 3)) = _ at h4
      rw [cellsInt] at h4
      obtain ⟨s, e0, _, hs⟩ := DataW.trod_string Try.underlying9 h0
      obtain ⟨d, e1, _, _⟩ := DataW.trod_int Try.underlying3 h1
      obtain ⟨a, e2, _, _⟩ := DataW.trod_int Try.underlying3 h2
      obtain ⟨b, e3, _, _⟩ := DataW.trod_int Try.underlying3 h3
      obtain ⟨m, e4, _, _⟩ := DataW.trod_int Try.underlying3 h4
      have e0 : c0 = .string s := by simpa using e0
      have e1 : c1 = .int .i64 d := by simpa using e1
      have e2 : c2 = .int .i64 a := by simpa using e2
      have e3 : c3 = .int .i64 b := by simpa using e3
      have e4 : c4 = .int .i64 m := by simpa using e4
      exact ⟨⟨s, d, a, b, m⟩, by rw [e0, e1, e2, e3, e4]; rfl, hs⟩

theorem cell_lt_heap {w : World} {a : Addr} {v : Value} (h : w.cell? a = some v) : a.block < w.heap.size := by
  rcases Nat.lt_or_ge a.block w.heap.size with hlt | hge
  · exact hlt
  · unfold World.cell? at h; rw [Array.getElem?_eq_none hge] at h; simp at h

set_option maxRecDepth 100000 in
theorem x_of_trod {H : Type} {enc : TypeId × Value → H} {w : World} {r : Reach} {b0 : Nat} {spare : Nat → Bool} {held : Bool} {v : Value} {d : DataW H} {p : List MemPlace}
    (hv : Value.okWide Try.prog w r b0 59 v) (h : DataW.Trod enc Try.prog w 0 spare held 59 v d p) :
    ∃ x : In, v = .agg #[.string x.op, .int .i64 x.d, .int .i64 x.a, .int .i64 x.b, .int .i64 x.m] ∧ x.op.size ≤ 9223372036854775807 := by
  obtain ⟨cs, rfl, hsz⟩ := okWide_struct Try.underlying59 hv
  obtain ⟨fuel, hf⟩ := h
  obtain ⟨x, hx, hs⟩ := in_of_trod hf
  refine ⟨x, ?_, by unfold maxLen at hs; omega⟩
  obtain ⟨l⟩ := cs
  have hx' : l = x.enc := by simpa [Value.cells] using hx
  subst hx'; rfl

set_option maxRecDepth 100000 in
theorem ins_of_trod {H : Type} {enc : TypeId × Value → H} {w : World} {spare : Nat → Bool} {held : Bool} {A : Option Addr} {len cap : Nat} {d : DataW H} {p : List MemPlace}
    (h : DataW.Trod enc Try.prog w 0 spare held 22 (.slice A len cap) d p) :
    ∃ es : List In, es.length = len ∧ RS In.enc 5 w 0 w.heap.size A es ∧ (∀ n ∈ es, n.op.size ≤ 9223372036854775807) ∧ len ≤ 9223372036854775807 := by
  obtain ⟨fuel, hf⟩ := h
  rcases open_slice Try.underlying22 hf with ⟨hcs, _⟩ | ⟨a, l, c, m, n, D, Pl, hcs, _, hl, hm, hmm, _, hi⟩
  · simp [Value.cells] at hcs
    obtain ⟨rfl, rfl, rfl⟩ := hcs
    exact ⟨[], rfl, fun h => absurd h (by simp), (fun n hn => by cases hn), by omega⟩
  · simp [Value.cells] at hcs
    obtain ⟨rfl, rfl, rfl⟩ := hcs
    have hlm : len ≤ m := by rw [hmm]; split <;> omega
    have hex : ∀ i, i < len → ∃ nd : In, (∀ j v, nd.enc[j]? = some v → w.cell? (a.add (i * 5 + j)) = some v) ∧ nd.op.size ≤ maxLen := by
      intro i hil
      obtain ⟨cs', hc, ht⟩ := hi i (by omega)
      rw [cellsIn] at hc
      obtain ⟨nd, rfl, hs⟩ := in_of_trod ht
      obtain ⟨_, _, hat⟩ := World.cells?_some hc
      refine ⟨nd, fun j v hv => ?_, hs⟩
      have hj : j < 5 := kflat_lt In.hk hv
      have := hat j hj
      rw [add_add, hv] at this; exact this
    obtain ⟨f, hf2⟩ := Classical.axiomOfChoice (fun i : {i // i < len} => hex i.1 i.2)
    have hget : ∀ i (h : i < (List.ofFn fun i : Fin len => f ⟨i.1, i.2⟩).length), (List.ofFn fun i : Fin len => f ⟨i.1, i.2⟩)[i] = f ⟨i, by simpa using h⟩ := fun i h => by simp
    refine ⟨List.ofFn fun i : Fin len => f ⟨i.1, i.2⟩, by simp, ?_, ?_, by unfold maxLen at hm; omega⟩
    · intro hpos
      have hpos' : 0 < len := by simpa using hpos
      have h0 := (hf2 ⟨0, hpos'⟩).1 0 _ rfl
      obtain ⟨b, o, spot⟩ := a
      have hspot : spot = none := by have := World.cell?_spot h0; simpa [Addr.add] using this
      subst hspot
      have hadd : ∀ k, (⟨b, o, none⟩ : Addr).add k = ⟨b, o + k, none⟩ := fun k => by simp [Addr.add]
      refine ⟨b, o, rfl, ⟨Nat.zero_le _, ?_⟩, fun i hi j v hv => ?_⟩
      · rw [hadd] at h0
        exact cell_lt_heap h0
      · have hi' : i < len := by simpa using hi
        rw [hget i hi] at hv
        have := (hf2 ⟨i, hi'⟩).1 j v hv
        simp only [hadd, ← Nat.add_assoc] at this
        exact this
    · intro n hn
      obtain ⟨i, rfl⟩ := List.mem_ofFn.1 hn
      have := (hf2 ⟨i.1, i.2⟩).2
      unfold maxLen at this; omega

set_option maxRecDepth 100000 in
theorem ints_of_trod {H : Type} {enc : TypeId × Value → H} {w : World} {spare : Nat → Bool} {held : Bool} {A : Option Addr} {len cap : Nat} {d : DataW H} {p : List MemPlace}
    (h : DataW.Trod enc Try.prog w 0 spare held 38 (.slice A len cap) d p) :
    ∃ xs : List Int, xs.length = len ∧ IS w 0 w.heap.size A xs ∧ len ≤ 9223372036854775807 := by
  obtain ⟨fuel, hf⟩ := h
  rcases open_slice Try.underlying38 hf with ⟨hcs, _⟩ | ⟨a, l, c, m, n, D, Pl, hcs, _, hl, hm, hmm, _, hi⟩
  · simp [Value.cells] at hcs
    obtain ⟨rfl, rfl, rfl⟩ := hcs
    exact ⟨[], rfl, fun h => absurd h (by simp), by omega⟩
  · simp [Value.cells] at hcs
    obtain ⟨rfl, rfl, rfl⟩ := hcs
    have hlm : len ≤ m := by rw [hmm]; split <;> omega
    have hex : ∀ i, i < len → ∃ x : Int, w.cell? (a.add i) = some (.int .i64 x) := by
      intro i hil
      obtain ⟨cs', hc, ht⟩ := hi i (by omega)
      rw [cellsInt, Nat.mul_one] at hc
      obtain ⟨x, hx, _, _⟩ := DataW.trod_int Try.underlying3 ht
      obtain ⟨_, _, hat⟩ := World.cells?_some hc
      have := hat 0 (by omega)
      rw [add_add, hx] at this
      exact ⟨x, by simpa using this⟩
    obtain ⟨f, hf2⟩ := Classical.axiomOfChoice (fun i : {i // i < len} => hex i.1 i.2)
    have hget : ∀ i (h : i < (List.ofFn fun i : Fin len => f ⟨i.1, i.2⟩).length), (List.ofFn fun i : Fin len => f ⟨i.1, i.2⟩)[i] = f ⟨i, by simpa using h⟩ := fun i h => by simp
    refine ⟨List.ofFn fun i : Fin len => f ⟨i.1, i.2⟩, by simp, ?_, by unfold maxLen at hm; omega⟩
    intro hpos
    have hpos' : 0 < len := by simpa using hpos
    have h0 := hf2 ⟨0, hpos'⟩
    obtain ⟨b, o, spot⟩ := a
    have hspot : spot = none := by have := World.cell?_spot h0; simpa [Addr.add] using this
    subst hspot
    have hadd : ∀ k, (⟨b, o, none⟩ : Addr).add k = ⟨b, o + k, none⟩ := fun k => by simp [Addr.add]
    refine ⟨b, o, rfl, ⟨Nat.zero_le _, ?_⟩, fun i hi => ?_⟩
    · rw [hadd] at h0
      exact cell_lt_heap h0
    · have hi' : i < len := by simpa using hi
      rw [hget i hi]
      have := hf2 ⟨i, hi'⟩
      simp only [hadd] at this
      exact this
end Go.Proofs.Ytpgdccfpegdcoaa
