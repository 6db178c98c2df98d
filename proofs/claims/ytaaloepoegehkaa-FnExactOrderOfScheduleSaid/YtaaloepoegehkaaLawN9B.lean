import Derived.Test.YtaaloepoegehkaaVC
import Derived.Test.YtaaloepoegehkaaLawE
import Derived.Test.YtaaloepoegehkaaKMInstr
import Derived.Test.YtaaloepoegehkaaKInstr
import Derived.Test.YtaaloepoegehkaaLI
import Derived.WalkKit
import Derived.WalkSpells
import Derived.WalkLawsBesides
import Derived.Lib.Hide
namespace Go.Proofs.Ytaaloepoegehkaa
open Go.RowKit
set_option linter.unusedVariables false

def ResApplyOrder (R0 : List (In)) (R1 : Bool) (w : World) (e : Ending) (w' : World) : Prop := ∃ (A0 : Option Addr) (c0 : Nat), e = .returned (.tuple #[.slice A0 R0.length c0, .bool R1]) ∧ OK In.enc 5 88 w' w.heap.size w'.heap.size (.slice A0 R0.length c0) R0 ∧ Below w.heap.size w w'
def ResOrderOfSchedule (R0 : List (Int)) (R1 : Bool) (w : World) (e : Ending) (w' : World) : Prop := ∃ (A0 : Option Addr) (c0 : Nat), e = .returned (.tuple #[.slice A0 R0.length c0, .bool R1]) ∧ OW w' w.heap.size w'.heap.size (.slice A0 R0.length c0) R0 ∧ Below w.heap.size w w'
set_option maxHeartbeats 4000000 in
theorem lawOrderOfSchedule (A0 : Option Addr) (c0 : Nat) (a0 : List In) (A1 : Option Addr) (c1 : Nat) (a1 : List Int) (w : World) (hl0 : a0.length ≤ 9223372036854775807) (h0 : RS In.enc 5 w 0 w.heap.size A0 a0) (hs0 : ∀ n ∈ a0, n.op.size ≤ 9223372036854775807) (hl1 : a1.length ≤ 9223372036854775807) (h1 : IS w 0 w.heap.size A1 a1) (R0 : List (Int)) (R1 : Bool) (hR0 : R0.length ≤ 1048576)
    (hS : ∀ (L0 B0 : Nat) (A0 : Option Addr) (c0 : Nat) (L1 B1 : Nat) (A1 : Option Addr) (c1 : Nat) (w : World), a0.length ≤ 1048576 → RS In.enc 5 w L0 B0 A0 a0 → B0 ≤ w.heap.size → a1.length ≤ 1048576 → IS w L1 B1 A1 a1 → B1 ≤ w.heap.size → Calls Try.prog 31 #[.slice A0 a0.length c0, .slice A1 a1.length c1] w (ResOrderOfSchedule R0 R1 w))
    (hI : ∀ (L0 B0 : Nat) (A0 : Option Addr) (c0 : Nat) (L1 B1 : Nat) (A1 : Option Addr) (c1 : Nat) (w : World), a0.length ≤ 1048576 → RS In.enc 5 w L0 B0 A0 a0 → B0 ≤ w.heap.size → a1.length ≤ 1048576 → IS w L1 B1 A1 a1 → B1 ≤ w.heap.size → Calls Try.prog 33 #[.slice A0 a0.length c0, .slice A1 a1.length c1] w (ResOrderOfSchedule R0 R1 w)) :
    Calls Try.prog 5 #[.slice A0 a0.length c0, .slice A1 a1.length c1] w fun e w' => e = .returned (.bool true) ∧ Below w.heap.size w w' := by
  have S := Lib.hid hS
  have I := Lib.hid hI
  have E0 := Lib.hid h0
  have E1 := Lib.hid h1
  have Z0 := Lib.hid hs0
  clear hS hI h0 h1 hs0
  by_cases g1 : a1.length ≤ 1048576
  rotate_left
  · have g1' : (1048576 : Int) < (a1.length : Int) := by omega
    clear g1
    go_enter Try.func5, Try.ntmps5
    go_wp2
    go_ret
    exact ⟨rfl, Below.refl _ _⟩
  have b0 := Lib.hid (Below.refl w.heap.size w)
  go_enter Try.func5, Try.ntmps5
  go_wp2_with (fail)
  refine (szInstrS_any 0 _ A0 c0 a0 1048576 _ hl0 (E0.out.below b0.out (Nat.le_refl _)) b0.out.size Z0.out (by omega) (by omega)).mono ?_
  rintro e w1 ⟨r0, rfl, hr0a, hr0b, hr0c, hb⟩
  have b1 := Lib.hid (b0.out.trans (hb.mono b0.out.size))
  have z1 := hb.size
  clear hb
  by_cases hr0 : 0 ≤ r0
  rotate_left
  · go_wp2
    go_ret
    exact ⟨rfl, b1.out⟩
  have hlen0 : a0.length ≤ 1048576 := by have := hr0b hr0; omega
  clear hr0b
  have hlen1 : a1.length ≤ 1048576 := g1
  have e1 : (R1 != R1) = false := by simp
  go_wp2_with (fail)
  refine (toInstrS_any 0 _ A0 c0 a0 _ hlen0 (E0.out.below b1.out (Nat.le_refl _)) b1.out.size).mono ?_
  rintro e w2 ⟨Ap0, cp0, rfl, ho, hb⟩
  have b2 := Lib.hid (b1.out.trans (hb.mono b1.out.size))
  have z2 := hb.size
  clear hb
  have op0 := Lib.hid ho
  clear ho
  go_wp2_with (fail)
  refine (toIntS_any 0 _ A1 c1 a1 _ hlen1 (E1.out.below b2.out (Nat.le_refl _)) b2.out.size).mono ?_
  rintro e w3 ⟨Ap1, cp1, rfl, ho, hb⟩
  have b3 := Lib.hid (b2.out.trans (hb.mono b2.out.size))
  have z3 := hb.size
  replace op0 := Lib.hid (op0.out.chg (Chg.ofBelow (lo := 0) (hi := 0) hb) (.inr (Nat.zero_le _)))
  clear hb
  have op1 := Lib.hid ho
  clear ho
  go_wp2_with (fail)
  refine (S.out _ _ _ _ _ _ _ _ _ hlen0 (In.rs op0.out) (by omega) hlen1 (OW.rs op1.out) (by omega)).mono ?_
  rintro e w4 ⟨AW0, cW0, rfl, ho0, hb⟩
  have b4 := Lib.hid (b3.out.trans (hb.mono b3.out.size))
  have z4 := hb.size
  replace op0 := Lib.hid (op0.out.chg (Chg.ofBelow (lo := 0) (hi := 0) hb) (.inr (Nat.zero_le _)))
  replace op1 := Lib.hid (op1.out.chg (Chg.ofBelow (lo := 0) (hi := 0) hb) (.inr (Nat.zero_le _)))
  clear hb
  have oW0 := Lib.hid ho0
  clear ho0
  go_wp2_with (fail)
  refine (toInstrS_any 0 _ A0 c0 a0 _ hlen0 (E0.out.below b4.out (Nat.le_refl _)) b4.out.size).mono ?_
  rintro e w5 ⟨Aq0, cq0, rfl, ho, hb⟩
  have b5 := Lib.hid (b4.out.trans (hb.mono b4.out.size))
  have z5 := hb.size
  replace oW0 := Lib.hid (oW0.out.chg (Chg.ofBelow (lo := 0) (hi := 0) hb) (.inr (Nat.zero_le _)))
  clear hb
  have oq0 := Lib.hid ho
  clear ho
  go_wp2_with (fail)
  refine (toIntS_any 0 _ A1 c1 a1 _ hlen1 (E1.out.below b5.out (Nat.le_refl _)) b5.out.size).mono ?_
  rintro e w6 ⟨Aq1, cq1, rfl, ho, hb⟩
  have b6 := Lib.hid (b5.out.trans (hb.mono b5.out.size))
  have z6 := hb.size
  replace oW0 := Lib.hid (oW0.out.chg (Chg.ofBelow (lo := 0) (hi := 0) hb) (.inr (Nat.zero_le _)))
  replace oq0 := Lib.hid (oq0.out.chg (Chg.ofBelow (lo := 0) (hi := 0) hb) (.inr (Nat.zero_le _)))
  clear hb
  have oq1 := Lib.hid ho
  clear ho
  go_wp2_with (fail)
  refine (I.out _ _ _ _ _ _ _ _ _ hlen0 (In.rs oq0.out) (by omega) hlen1 (OW.rs oq1.out) (by omega)).mono ?_
  rintro e w7 ⟨AG0, cG0, rfl, ho0, hb⟩
  have b7 := Lib.hid (b6.out.trans (hb.mono b6.out.size))
  have z7 := hb.size
  replace oW0 := Lib.hid (oW0.out.chg (Chg.ofBelow (lo := 0) (hi := 0) hb) (.inr (Nat.zero_le _)))
  replace oq0 := Lib.hid (oq0.out.chg (Chg.ofBelow (lo := 0) (hi := 0) hb) (.inr (Nat.zero_le _)))
  replace oq1 := Lib.hid (oq1.out.chg (Chg.ofBelow (lo := 0) (hi := 0) hb) (.inr (Nat.zero_le _)))
  clear hb
  have oG0 := Lib.hid ho0
  clear ho0
  go_wp2_with (fail)
  refine (eqIntS_any _ _ _ _ _ _ _ _ _ _ R0 R0 _ rfl rfl hR0 (OW.rs oG0.out) (OW.rs oW0.out) (by omega) (by omega) rfl).mono ?_
  rintro e w8 ⟨rfl, hb⟩
  have b8 := Lib.hid (b7.out.trans (hb.mono b7.out.size))
  have z8 := hb.size
  replace oW0 := Lib.hid (oW0.out.chg (Chg.ofBelow (lo := 0) (hi := 0) hb) (.inr (Nat.zero_le _)))
  replace oq0 := Lib.hid (oq0.out.chg (Chg.ofBelow (lo := 0) (hi := 0) hb) (.inr (Nat.zero_le _)))
  replace oq1 := Lib.hid (oq1.out.chg (Chg.ofBelow (lo := 0) (hi := 0) hb) (.inr (Nat.zero_le _)))
  replace oG0 := Lib.hid (oG0.out.chg (Chg.ofBelow (lo := 0) (hi := 0) hb) (.inr (Nat.zero_le _)))
  clear hb
  go_wp2_with (fail)
  refine (toInstrS_any 0 _ A0 c0 a0 _ hlen0 (E0.out.below b8.out (Nat.le_refl _)) b8.out.size).mono ?_
  rintro e w9 ⟨As0, cs0, rfl, ho, hb⟩
  have b9 := Lib.hid (b8.out.trans (hb.mono b8.out.size))
  have z9 := hb.size
  replace oW0 := Lib.hid (oW0.out.chg (Chg.ofBelow (lo := 0) (hi := 0) hb) (.inr (Nat.zero_le _)))
  replace oq0 := Lib.hid (oq0.out.chg (Chg.ofBelow (lo := 0) (hi := 0) hb) (.inr (Nat.zero_le _)))
  replace oq1 := Lib.hid (oq1.out.chg (Chg.ofBelow (lo := 0) (hi := 0) hb) (.inr (Nat.zero_le _)))
  replace oG0 := Lib.hid (oG0.out.chg (Chg.ofBelow (lo := 0) (hi := 0) hb) (.inr (Nat.zero_le _)))
  clear hb
  have os0 := Lib.hid ho
  clear ho
  go_wp2_with (fail)
  refine (eqInstrS_any _ _ _ _ _ _ _ _ _ _ a0 a0 _ rfl rfl hlen0 (In.rs oq0.out) (In.rs os0.out) (by omega) (by omega) rfl).mono ?_
  rintro e w10 ⟨rfl, hb⟩
  have b10 := Lib.hid (b9.out.trans (hb.mono b9.out.size))
  have z10 := hb.size
  replace oW0 := Lib.hid (oW0.out.chg (Chg.ofBelow (lo := 0) (hi := 0) hb) (.inr (Nat.zero_le _)))
  replace oq0 := Lib.hid (oq0.out.chg (Chg.ofBelow (lo := 0) (hi := 0) hb) (.inr (Nat.zero_le _)))
  replace oq1 := Lib.hid (oq1.out.chg (Chg.ofBelow (lo := 0) (hi := 0) hb) (.inr (Nat.zero_le _)))
  replace oG0 := Lib.hid (oG0.out.chg (Chg.ofBelow (lo := 0) (hi := 0) hb) (.inr (Nat.zero_le _)))
  replace os0 := Lib.hid (os0.out.chg (Chg.ofBelow (lo := 0) (hi := 0) hb) (.inr (Nat.zero_le _)))
  clear hb
  go_wp2_with (fail)
  refine (toIntS_any 0 _ A1 c1 a1 _ hlen1 (E1.out.below b10.out (Nat.le_refl _)) b10.out.size).mono ?_
  rintro e w11 ⟨As1, cs1, rfl, ho, hb⟩
  have b11 := Lib.hid (b10.out.trans (hb.mono b10.out.size))
  have z11 := hb.size
  replace oW0 := Lib.hid (oW0.out.chg (Chg.ofBelow (lo := 0) (hi := 0) hb) (.inr (Nat.zero_le _)))
  replace oq0 := Lib.hid (oq0.out.chg (Chg.ofBelow (lo := 0) (hi := 0) hb) (.inr (Nat.zero_le _)))
  replace oq1 := Lib.hid (oq1.out.chg (Chg.ofBelow (lo := 0) (hi := 0) hb) (.inr (Nat.zero_le _)))
  replace oG0 := Lib.hid (oG0.out.chg (Chg.ofBelow (lo := 0) (hi := 0) hb) (.inr (Nat.zero_le _)))
  clear hb
  have os1 := Lib.hid ho
  clear ho
  go_wp2_with (fail)
  refine (eqIntS_any _ _ _ _ _ _ _ _ _ _ a1 a1 _ rfl rfl hlen1 (OW.rs oq1.out) (OW.rs os1.out) (by omega) (by omega) rfl).mono ?_
  rintro e w12 ⟨rfl, hb⟩
  have b12 := Lib.hid (b11.out.trans (hb.mono b11.out.size))
  have z12 := hb.size
  replace oW0 := Lib.hid (oW0.out.chg (Chg.ofBelow (lo := 0) (hi := 0) hb) (.inr (Nat.zero_le _)))
  replace oq0 := Lib.hid (oq0.out.chg (Chg.ofBelow (lo := 0) (hi := 0) hb) (.inr (Nat.zero_le _)))
  replace oq1 := Lib.hid (oq1.out.chg (Chg.ofBelow (lo := 0) (hi := 0) hb) (.inr (Nat.zero_le _)))
  replace oG0 := Lib.hid (oG0.out.chg (Chg.ofBelow (lo := 0) (hi := 0) hb) (.inr (Nat.zero_le _)))
  replace os1 := Lib.hid (os1.out.chg (Chg.ofBelow (lo := 0) (hi := 0) hb) (.inr (Nat.zero_le _)))
  clear hb
  go_wp2_with (fail)
  refine (markInstrS_any _ _ _ _ a0 (1) _ hlen0 (by omega) (by omega) oq0.out).mono ?_
  rintro e w13 ⟨rfl, _, hc⟩
  have b13 := Lib.hid (below_chg b12.out hc b12.out.size (by omega))
  have z13 := hc.size
  replace oW0 := Lib.hid (oW0.out.chg hc (by omega))
  replace oq1 := Lib.hid (oq1.out.chg hc (by omega))
  replace oG0 := Lib.hid (oG0.out.chg hc (by omega))
  clear hc
  go_wp2_with (fail)
  refine (markIntS_c _ _ _ _ a1 (1 + 5 * (a0.length : Int)) _ hlen1 (by omega) (by omega) oq1.out).mono ?_
  rintro e w14 ⟨rfl, _, hc⟩
  have b14 := Lib.hid (below_chg b13.out hc b13.out.size (by omega))
  have z14 := hc.size
  replace oW0 := Lib.hid (oW0.out.chg hc (by omega))
  replace oG0 := Lib.hid (oG0.out.chg hc (by omega))
  clear hc
  have hk : (0 : Int) ≤ 1 + 5 * (a0.length : Int) + (a1.length : Int) := by omega
  go_wp2_with (fail)
  refine (eqIntS_any _ _ _ _ _ _ _ _ _ _ R0 R0 _ rfl rfl hR0 (OW.rs oG0.out) (OW.rs oW0.out) (by omega) (by omega) rfl).mono ?_
  rintro e w15 ⟨rfl, hb⟩
  have b15 := Lib.hid (b14.out.trans (hb.mono b14.out.size))
  have z15 := hb.size
  replace oW0 := Lib.hid (oW0.out.chg (Chg.ofBelow (lo := 0) (hi := 0) hb) (.inr (Nat.zero_le _)))
  replace oG0 := Lib.hid (oG0.out.chg (Chg.ofBelow (lo := 0) (hi := 0) hb) (.inr (Nat.zero_le _)))
  clear hb
  go_wp2_with (fail)
  refine (markIntS_c _ _ _ _ R0 (1) _ hR0 (by omega) (by omega) oG0.out).mono ?_
  rintro e w16 ⟨rfl, ho, hc⟩
  have b16 := Lib.hid (below_chg b15.out hc b15.out.size (by omega))
  have z16 := hc.size
  replace oW0 := Lib.hid (oW0.out.chg hc (by omega))
  clear hc
  replace oG0 := Lib.hid ho
  clear ho
  have hq : (0 : Int) ≤ 1 + (R0.length : Int) := by omega
  go_wp2_with (fail)
  refine (heldIntS_any _ _ _ _ _ 1 _ hR0 (by omega) (by omega) (OW.rs oG0.out) ).mono ?_
  rintro e w_ ⟨rfl, rfl⟩
  go_wp2_with (fail)
  refine (toInstrS_any 0 _ A0 c0 a0 _ hlen0 (E0.out.below b16.out (Nat.le_refl _)) b16.out.size).mono ?_
  rintro e w17 ⟨Ah0, ch0, rfl, ho, hb⟩
  have b17 := Lib.hid (b16.out.trans (hb.mono b16.out.size))
  have z17 := hb.size
  replace oW0 := Lib.hid (oW0.out.chg (Chg.ofBelow (lo := 0) (hi := 0) hb) (.inr (Nat.zero_le _)))
  replace oG0 := Lib.hid (oG0.out.chg (Chg.ofBelow (lo := 0) (hi := 0) hb) (.inr (Nat.zero_le _)))
  clear hb
  have oh0 := Lib.hid ho
  clear ho
  go_wp2_with (fail)
  refine (toIntS_any 0 _ A1 c1 a1 _ hlen1 (E1.out.below b17.out (Nat.le_refl _)) b17.out.size).mono ?_
  rintro e w18 ⟨Ah1, ch1, rfl, ho, hb⟩
  have b18 := Lib.hid (b17.out.trans (hb.mono b17.out.size))
  have z18 := hb.size
  replace oW0 := Lib.hid (oW0.out.chg (Chg.ofBelow (lo := 0) (hi := 0) hb) (.inr (Nat.zero_le _)))
  replace oG0 := Lib.hid (oG0.out.chg (Chg.ofBelow (lo := 0) (hi := 0) hb) (.inr (Nat.zero_le _)))
  replace oh0 := Lib.hid (oh0.out.chg (Chg.ofBelow (lo := 0) (hi := 0) hb) (.inr (Nat.zero_le _)))
  clear hb
  have oh1 := Lib.hid ho
  clear ho
  go_wp2_with (fail)
  refine (I.out _ _ _ _ _ _ _ _ _ hlen0 (In.rs oh0.out) (by omega) hlen1 (OW.rs oh1.out) (by omega)).mono ?_
  rintro e w19 ⟨AH0, cH0, rfl, ho0, hb⟩
  have b19 := Lib.hid (b18.out.trans (hb.mono b18.out.size))
  have z19 := hb.size
  replace oW0 := Lib.hid (oW0.out.chg (Chg.ofBelow (lo := 0) (hi := 0) hb) (.inr (Nat.zero_le _)))
  replace oG0 := Lib.hid (oG0.out.chg (Chg.ofBelow (lo := 0) (hi := 0) hb) (.inr (Nat.zero_le _)))
  replace oh0 := Lib.hid (oh0.out.chg (Chg.ofBelow (lo := 0) (hi := 0) hb) (.inr (Nat.zero_le _)))
  replace oh1 := Lib.hid (oh1.out.chg (Chg.ofBelow (lo := 0) (hi := 0) hb) (.inr (Nat.zero_le _)))
  clear hb
  have oH0 := Lib.hid ho0
  clear ho0
  go_wp2_with (fail)
  refine (eqIntS_any _ _ _ _ _ _ _ _ _ _ R0 R0 _ rfl rfl hR0 (OW.rs oH0.out) (OW.rs oW0.out) (by omega) (by omega) rfl).mono ?_
  rintro e w20 ⟨rfl, hb⟩
  have b20 := Lib.hid (b19.out.trans (hb.mono b19.out.size))
  have z20 := hb.size
  replace oW0 := Lib.hid (oW0.out.chg (Chg.ofBelow (lo := 0) (hi := 0) hb) (.inr (Nat.zero_le _)))
  replace oG0 := Lib.hid (oG0.out.chg (Chg.ofBelow (lo := 0) (hi := 0) hb) (.inr (Nat.zero_le _)))
  replace oh0 := Lib.hid (oh0.out.chg (Chg.ofBelow (lo := 0) (hi := 0) hb) (.inr (Nat.zero_le _)))
  replace oh1 := Lib.hid (oh1.out.chg (Chg.ofBelow (lo := 0) (hi := 0) hb) (.inr (Nat.zero_le _)))
  replace oH0 := Lib.hid (oH0.out.chg (Chg.ofBelow (lo := 0) (hi := 0) hb) (.inr (Nat.zero_le _)))
  clear hb
  go_wp2_with (fail)
  refine (heldIntS_any _ _ _ _ _ 1 _ hR0 (by omega) (by omega) (OW.rs oG0.out) ).mono ?_
  rintro e w_ ⟨rfl, rfl⟩
  go_wp2
  go_ret
  exact ⟨rfl, b20.out⟩

def ResLastOrder (R0 : List (Int)) (R1 : Bool) (w : World) (e : Ending) (w' : World) : Prop := ∃ (A0 : Option Addr) (c0 : Nat), e = .returned (.tuple #[.slice A0 R0.length c0, .bool R1]) ∧ OW w' w.heap.size w'.heap.size (.slice A0 R0.length c0) R0 ∧ Below w.heap.size w w'
def ResCountOrders (R0 : Int) (R1 : Bool) (w : World) (e : Ending) (w' : World) : Prop := e = .returned (.tuple #[.int .i64 R0, .bool R1]) ∧ Below w.heap.size w w'
def ResListSchedule (R0 : List (Int)) (R1 : Bool) (w : World) (e : Ending) (w' : World) : Prop := ∃ (A0 : Option Addr) (c0 : Nat), e = .returned (.tuple #[.slice A0 R0.length c0, .bool R1]) ∧ OW w' w.heap.size w'.heap.size (.slice A0 R0.length c0) R0 ∧ Below w.heap.size w w'
set_option maxHeartbeats 4000000 in
theorem lawListSchedule (A0 : Option Addr) (c0 : Nat) (a0 : List In) (a1 : Int) (w : World) (hl0 : a0.length ≤ 9223372036854775807) (h0 : RS In.enc 5 w 0 w.heap.size A0 a0) (hs0 : ∀ n ∈ a0, n.op.size ≤ 9223372036854775807) (R0 : List (Int)) (R1 : Bool) (hR0 : R0.length ≤ 1048576)
    (hS : ∀ (L0 B0 : Nat) (A0 : Option Addr) (c0 : Nat) (w : World), a0.length ≤ 1048576 → RS In.enc 5 w L0 B0 A0 a0 → B0 ≤ w.heap.size → Calls Try.prog 25 #[.slice A0 a0.length c0, .int .i64 a1] w (ResListSchedule R0 R1 w))
    (hI : ∀ (L0 B0 : Nat) (A0 : Option Addr) (c0 : Nat) (w : World), a0.length ≤ 1048576 → RS In.enc 5 w L0 B0 A0 a0 → B0 ≤ w.heap.size → a0.length ≤ c0 → Calls Try.prog 26 #[.slice A0 a0.length c0, .int .i64 a1] w (ResListSchedule R0 R1 w)) :
    Calls Try.prog 4 #[.slice A0 a0.length c0, .int .i64 a1] w fun e w' => e = .returned (.bool true) ∧ Below w.heap.size w w' := by
  have S := Lib.hid hS
  have I := Lib.hid hI
  have E0 := Lib.hid h0
  have Z0 := Lib.hid hs0
  clear hS hI h0 hs0
  have b0 := Lib.hid (Below.refl w.heap.size w)
  go_enter Try.func4, Try.ntmps4
  go_wp2_with (fail)
  refine (szInstrS_any 0 _ A0 c0 a0 1048576 _ hl0 (E0.out.below b0.out (Nat.le_refl _)) b0.out.size Z0.out (by omega) (by omega)).mono ?_
  rintro e w1 ⟨r0, rfl, hr0a, hr0b, hr0c, hb⟩
  have b1 := Lib.hid (b0.out.trans (hb.mono b0.out.size))
  have z1 := hb.size
  clear hb
  by_cases hr0 : 0 ≤ r0
  rotate_left
  · go_wp2
    go_ret
    exact ⟨rfl, b1.out⟩
  have hlen0 : a0.length ≤ 1048576 := by have := hr0b hr0; omega
  clear hr0b
  have e1 : (R1 != R1) = false := by simp
  go_wp2_with (fail)
  refine (toInstrS_any 0 _ A0 c0 a0 _ hlen0 (E0.out.below b1.out (Nat.le_refl _)) b1.out.size).mono ?_
  rintro e w2 ⟨Ap0, cp0, rfl, ho, hb⟩
  have b2 := Lib.hid (b1.out.trans (hb.mono b1.out.size))
  have z2 := hb.size
  clear hb
  have op0 := Lib.hid ho
  clear ho
  go_wp2_with (fail)
  refine (S.out _ _ _ _ _ hlen0 (In.rs op0.out) (by omega)).mono ?_
  rintro e w3 ⟨AW0, cW0, rfl, ho0, hb⟩
  have b3 := Lib.hid (b2.out.trans (hb.mono b2.out.size))
  have z3 := hb.size
  replace op0 := Lib.hid (op0.out.chg (Chg.ofBelow (lo := 0) (hi := 0) hb) (.inr (Nat.zero_le _)))
  clear hb
  have oW0 := Lib.hid ho0
  clear ho0
  go_wp2_with (fail)
  refine (toInstrS_any 0 _ A0 c0 a0 _ hlen0 (E0.out.below b3.out (Nat.le_refl _)) b3.out.size).mono ?_
  rintro e w4 ⟨Aq0, cq0, rfl, ho, hb⟩
  have b4 := Lib.hid (b3.out.trans (hb.mono b3.out.size))
  have z4 := hb.size
  replace oW0 := Lib.hid (oW0.out.chg (Chg.ofBelow (lo := 0) (hi := 0) hb) (.inr (Nat.zero_le _)))
  clear hb
  have oq0 := Lib.hid ho
  clear ho
  go_wp2_with (fail)
  refine (I.out _ _ _ _ _ hlen0 (In.rs oq0.out) (by omega) (OK.cap oq0.out)).mono ?_
  rintro e w5 ⟨AG0, cG0, rfl, ho0, hb⟩
  have b5 := Lib.hid (b4.out.trans (hb.mono b4.out.size))
  have z5 := hb.size
  replace oW0 := Lib.hid (oW0.out.chg (Chg.ofBelow (lo := 0) (hi := 0) hb) (.inr (Nat.zero_le _)))
  replace oq0 := Lib.hid (oq0.out.chg (Chg.ofBelow (lo := 0) (hi := 0) hb) (.inr (Nat.zero_le _)))
  clear hb
  have oG0 := Lib.hid ho0
  clear ho0
  go_wp2_with (fail)
  refine (eqIntS_any _ _ _ _ _ _ _ _ _ _ R0 R0 _ rfl rfl hR0 (OW.rs oG0.out) (OW.rs oW0.out) (by omega) (by omega) rfl).mono ?_
  rintro e w6 ⟨rfl, hb⟩
  have b6 := Lib.hid (b5.out.trans (hb.mono b5.out.size))
  have z6 := hb.size
  replace oW0 := Lib.hid (oW0.out.chg (Chg.ofBelow (lo := 0) (hi := 0) hb) (.inr (Nat.zero_le _)))
  replace oq0 := Lib.hid (oq0.out.chg (Chg.ofBelow (lo := 0) (hi := 0) hb) (.inr (Nat.zero_le _)))
  replace oG0 := Lib.hid (oG0.out.chg (Chg.ofBelow (lo := 0) (hi := 0) hb) (.inr (Nat.zero_le _)))
  clear hb
  go_wp2_with (fail)
  refine (toInstrS_any 0 _ A0 c0 a0 _ hlen0 (E0.out.below b6.out (Nat.le_refl _)) b6.out.size).mono ?_
  rintro e w7 ⟨As0, cs0, rfl, ho, hb⟩
  have b7 := Lib.hid (b6.out.trans (hb.mono b6.out.size))
  have z7 := hb.size
  replace oW0 := Lib.hid (oW0.out.chg (Chg.ofBelow (lo := 0) (hi := 0) hb) (.inr (Nat.zero_le _)))
  replace oq0 := Lib.hid (oq0.out.chg (Chg.ofBelow (lo := 0) (hi := 0) hb) (.inr (Nat.zero_le _)))
  replace oG0 := Lib.hid (oG0.out.chg (Chg.ofBelow (lo := 0) (hi := 0) hb) (.inr (Nat.zero_le _)))
  clear hb
  have os0 := Lib.hid ho
  clear ho
  go_wp2_with (fail)
  refine (eqInstrS_any _ _ _ _ _ _ _ _ _ _ a0 a0 _ rfl rfl hlen0 (In.rs oq0.out) (In.rs os0.out) (by omega) (by omega) rfl).mono ?_
  rintro e w8 ⟨rfl, hb⟩
  have b8 := Lib.hid (b7.out.trans (hb.mono b7.out.size))
  have z8 := hb.size
  replace oW0 := Lib.hid (oW0.out.chg (Chg.ofBelow (lo := 0) (hi := 0) hb) (.inr (Nat.zero_le _)))
  replace oq0 := Lib.hid (oq0.out.chg (Chg.ofBelow (lo := 0) (hi := 0) hb) (.inr (Nat.zero_le _)))
  replace oG0 := Lib.hid (oG0.out.chg (Chg.ofBelow (lo := 0) (hi := 0) hb) (.inr (Nat.zero_le _)))
  replace os0 := Lib.hid (os0.out.chg (Chg.ofBelow (lo := 0) (hi := 0) hb) (.inr (Nat.zero_le _)))
  clear hb
  go_wp2_with (fail)
  refine (markInstrS_any _ _ _ _ a0 (1) _ hlen0 (by omega) (by omega) oq0.out).mono ?_
  rintro e w9 ⟨rfl, _, hc⟩
  have b9 := Lib.hid (below_chg b8.out hc b8.out.size (by omega))
  have z9 := hc.size
  replace oW0 := Lib.hid (oW0.out.chg hc (by omega))
  replace oG0 := Lib.hid (oG0.out.chg hc (by omega))
  clear hc
  have hk : (0 : Int) ≤ 1 + 5 * (a0.length : Int) := by omega
  go_wp2_with (fail)
  refine (eqIntS_any _ _ _ _ _ _ _ _ _ _ R0 R0 _ rfl rfl hR0 (OW.rs oG0.out) (OW.rs oW0.out) (by omega) (by omega) rfl).mono ?_
  rintro e w10 ⟨rfl, hb⟩
  have b10 := Lib.hid (b9.out.trans (hb.mono b9.out.size))
  have z10 := hb.size
  replace oW0 := Lib.hid (oW0.out.chg (Chg.ofBelow (lo := 0) (hi := 0) hb) (.inr (Nat.zero_le _)))
  replace oG0 := Lib.hid (oG0.out.chg (Chg.ofBelow (lo := 0) (hi := 0) hb) (.inr (Nat.zero_le _)))
  clear hb
  go_wp2_with (fail)
  refine (markIntS_c _ _ _ _ R0 (1) _ hR0 (by omega) (by omega) oG0.out).mono ?_
  rintro e w11 ⟨rfl, ho, hc⟩
  have b11 := Lib.hid (below_chg b10.out hc b10.out.size (by omega))
  have z11 := hc.size
  replace oW0 := Lib.hid (oW0.out.chg hc (by omega))
  clear hc
  replace oG0 := Lib.hid ho
  clear ho
  have hq : (0 : Int) ≤ 1 + (R0.length : Int) := by omega
  go_wp2_with (fail)
  refine (heldIntS_any _ _ _ _ _ 1 _ hR0 (by omega) (by omega) (OW.rs oG0.out) ).mono ?_
  rintro e w_ ⟨rfl, rfl⟩
  go_wp2_with (fail)
  refine (toInstrS_any 0 _ A0 c0 a0 _ hlen0 (E0.out.below b11.out (Nat.le_refl _)) b11.out.size).mono ?_
  rintro e w12 ⟨Ah0, ch0, rfl, ho, hb⟩
  have b12 := Lib.hid (b11.out.trans (hb.mono b11.out.size))
  have z12 := hb.size
  replace oW0 := Lib.hid (oW0.out.chg (Chg.ofBelow (lo := 0) (hi := 0) hb) (.inr (Nat.zero_le _)))
  replace oG0 := Lib.hid (oG0.out.chg (Chg.ofBelow (lo := 0) (hi := 0) hb) (.inr (Nat.zero_le _)))
  clear hb
  have oh0 := Lib.hid ho
  clear ho
  go_wp2_with (fail)
  refine (I.out _ _ _ _ _ hlen0 (In.rs oh0.out) (by omega) (OK.cap oh0.out)).mono ?_
  rintro e w13 ⟨AH0, cH0, rfl, ho0, hb⟩
  have b13 := Lib.hid (b12.out.trans (hb.mono b12.out.size))
  have z13 := hb.size
  replace oW0 := Lib.hid (oW0.out.chg (Chg.ofBelow (lo := 0) (hi := 0) hb) (.inr (Nat.zero_le _)))
  replace oG0 := Lib.hid (oG0.out.chg (Chg.ofBelow (lo := 0) (hi := 0) hb) (.inr (Nat.zero_le _)))
  replace oh0 := Lib.hid (oh0.out.chg (Chg.ofBelow (lo := 0) (hi := 0) hb) (.inr (Nat.zero_le _)))
  clear hb
  have oH0 := Lib.hid ho0
  clear ho0
  go_wp2_with (fail)
  refine (eqIntS_any _ _ _ _ _ _ _ _ _ _ R0 R0 _ rfl rfl hR0 (OW.rs oH0.out) (OW.rs oW0.out) (by omega) (by omega) rfl).mono ?_
  rintro e w14 ⟨rfl, hb⟩
  have b14 := Lib.hid (b13.out.trans (hb.mono b13.out.size))
  have z14 := hb.size
  replace oW0 := Lib.hid (oW0.out.chg (Chg.ofBelow (lo := 0) (hi := 0) hb) (.inr (Nat.zero_le _)))
  replace oG0 := Lib.hid (oG0.out.chg (Chg.ofBelow (lo := 0) (hi := 0) hb) (.inr (Nat.zero_le _)))
  replace oh0 := Lib.hid (oh0.out.chg (Chg.ofBelow (lo := 0) (hi := 0) hb) (.inr (Nat.zero_le _)))
  replace oH0 := Lib.hid (oH0.out.chg (Chg.ofBelow (lo := 0) (hi := 0) hb) (.inr (Nat.zero_le _)))
  clear hb
  go_wp2_with (fail)
  refine (heldIntS_any _ _ _ _ _ 1 _ hR0 (by omega) (by omega) (OW.rs oG0.out) ).mono ?_
  rintro e w_ ⟨rfl, rfl⟩
  go_wp2
  go_ret
  exact ⟨rfl, b14.out⟩

def ResBestSchedule (R0 : List (Int)) (R1 : Bool) (w : World) (e : Ending) (w' : World) : Prop := ∃ (A0 : Option Addr) (c0 : Nat), e = .returned (.tuple #[.slice A0 R0.length c0, .bool R1]) ∧ OW w' w.heap.size w'.heap.size (.slice A0 R0.length c0) R0 ∧ Below w.heap.size w w'
set_option maxHeartbeats 4000000 in
theorem lawBestSchedule (A0 : Option Addr) (c0 : Nat) (a0 : List In) (a1 : Int) (w : World) (hl0 : a0.length ≤ 9223372036854775807) (h0 : RS In.enc 5 w 0 w.heap.size A0 a0) (hs0 : ∀ n ∈ a0, n.op.size ≤ 9223372036854775807) (R0 : List (Int)) (R1 : Bool) (hR0 : R0.length ≤ 1048576)
    (hS : ∀ (L0 B0 : Nat) (A0 : Option Addr) (c0 : Nat) (w : World), a0.length ≤ 1048576 → RS In.enc 5 w L0 B0 A0 a0 → B0 ≤ w.heap.size → Calls Try.prog 34 #[.slice A0 a0.length c0, .int .i64 a1] w (ResBestSchedule R0 R1 w))
    (hI : ∀ (L0 B0 : Nat) (A0 : Option Addr) (c0 : Nat) (w : World), a0.length ≤ 1048576 → RS In.enc 5 w L0 B0 A0 a0 → B0 ≤ w.heap.size → a0.length ≤ c0 → Calls Try.prog 35 #[.slice A0 a0.length c0, .int .i64 a1] w (ResBestSchedule R0 R1 w)) :
    Calls Try.prog 6 #[.slice A0 a0.length c0, .int .i64 a1] w fun e w' => e = .returned (.bool true) ∧ Below w.heap.size w w' := by
  have S := Lib.hid hS
  have I := Lib.hid hI
  have E0 := Lib.hid h0
  have Z0 := Lib.hid hs0
  clear hS hI h0 hs0
  have b0 := Lib.hid (Below.refl w.heap.size w)
  go_enter Try.func6, Try.ntmps6
  go_wp2_with (fail)
  refine (szInstrS_any 0 _ A0 c0 a0 1048576 _ hl0 (E0.out.below b0.out (Nat.le_refl _)) b0.out.size Z0.out (by omega) (by omega)).mono ?_
  rintro e w1 ⟨r0, rfl, hr0a, hr0b, hr0c, hb⟩
  have b1 := Lib.hid (b0.out.trans (hb.mono b0.out.size))
  have z1 := hb.size
  clear hb
  by_cases hr0 : 0 ≤ r0
  rotate_left
  · go_wp2
    go_ret
    exact ⟨rfl, b1.out⟩
  have hlen0 : a0.length ≤ 1048576 := by have := hr0b hr0; omega
  clear hr0b
  have e1 : (R1 != R1) = false := by simp
  go_wp2_with (fail)
  refine (toInstrS_any 0 _ A0 c0 a0 _ hlen0 (E0.out.below b1.out (Nat.le_refl _)) b1.out.size).mono ?_
  rintro e w2 ⟨Ap0, cp0, rfl, ho, hb⟩
  have b2 := Lib.hid (b1.out.trans (hb.mono b1.out.size))
  have z2 := hb.size
  clear hb
  have op0 := Lib.hid ho
  clear ho
  go_wp2_with (fail)
  refine (S.out _ _ _ _ _ hlen0 (In.rs op0.out) (by omega)).mono ?_
  rintro e w3 ⟨AW0, cW0, rfl, ho0, hb⟩
  have b3 := Lib.hid (b2.out.trans (hb.mono b2.out.size))
  have z3 := hb.size
  replace op0 := Lib.hid (op0.out.chg (Chg.ofBelow (lo := 0) (hi := 0) hb) (.inr (Nat.zero_le _)))
  clear hb
  have oW0 := Lib.hid ho0
  clear ho0
  go_wp2_with (fail)
  refine (toInstrS_any 0 _ A0 c0 a0 _ hlen0 (E0.out.below b3.out (Nat.le_refl _)) b3.out.size).mono ?_
  rintro e w4 ⟨Aq0, cq0, rfl, ho, hb⟩
  have b4 := Lib.hid (b3.out.trans (hb.mono b3.out.size))
  have z4 := hb.size
  replace oW0 := Lib.hid (oW0.out.chg (Chg.ofBelow (lo := 0) (hi := 0) hb) (.inr (Nat.zero_le _)))
  clear hb
  have oq0 := Lib.hid ho
  clear ho
  go_wp2_with (fail)
  refine (I.out _ _ _ _ _ hlen0 (In.rs oq0.out) (by omega) (OK.cap oq0.out)).mono ?_
  rintro e w5 ⟨AG0, cG0, rfl, ho0, hb⟩
  have b5 := Lib.hid (b4.out.trans (hb.mono b4.out.size))
  have z5 := hb.size
  replace oW0 := Lib.hid (oW0.out.chg (Chg.ofBelow (lo := 0) (hi := 0) hb) (.inr (Nat.zero_le _)))
  replace oq0 := Lib.hid (oq0.out.chg (Chg.ofBelow (lo := 0) (hi := 0) hb) (.inr (Nat.zero_le _)))
  clear hb
  have oG0 := Lib.hid ho0
  clear ho0
  go_wp2_with (fail)
  refine (eqIntS_any _ _ _ _ _ _ _ _ _ _ R0 R0 _ rfl rfl hR0 (OW.rs oG0.out) (OW.rs oW0.out) (by omega) (by omega) rfl).mono ?_
  rintro e w6 ⟨rfl, hb⟩
  have b6 := Lib.hid (b5.out.trans (hb.mono b5.out.size))
  have z6 := hb.size
  replace oW0 := Lib.hid (oW0.out.chg (Chg.ofBelow (lo := 0) (hi := 0) hb) (.inr (Nat.zero_le _)))
  replace oq0 := Lib.hid (oq0.out.chg (Chg.ofBelow (lo := 0) (hi := 0) hb) (.inr (Nat.zero_le _)))
  replace oG0 := Lib.hid (oG0.out.chg (Chg.ofBelow (lo := 0) (hi := 0) hb) (.inr (Nat.zero_le _)))
  clear hb
  go_wp2_with (fail)
  refine (toInstrS_any 0 _ A0 c0 a0 _ hlen0 (E0.out.below b6.out (Nat.le_refl _)) b6.out.size).mono ?_
  rintro e w7 ⟨As0, cs0, rfl, ho, hb⟩
  have b7 := Lib.hid (b6.out.trans (hb.mono b6.out.size))
  have z7 := hb.size
  replace oW0 := Lib.hid (oW0.out.chg (Chg.ofBelow (lo := 0) (hi := 0) hb) (.inr (Nat.zero_le _)))
  replace oq0 := Lib.hid (oq0.out.chg (Chg.ofBelow (lo := 0) (hi := 0) hb) (.inr (Nat.zero_le _)))
  replace oG0 := Lib.hid (oG0.out.chg (Chg.ofBelow (lo := 0) (hi := 0) hb) (.inr (Nat.zero_le _)))
  clear hb
  have os0 := Lib.hid ho
  clear ho
  go_wp2_with (fail)
  refine (eqInstrS_any _ _ _ _ _ _ _ _ _ _ a0 a0 _ rfl rfl hlen0 (In.rs oq0.out) (In.rs os0.out) (by omega) (by omega) rfl).mono ?_
  rintro e w8 ⟨rfl, hb⟩
  have b8 := Lib.hid (b7.out.trans (hb.mono b7.out.size))
  have z8 := hb.size
  replace oW0 := Lib.hid (oW0.out.chg (Chg.ofBelow (lo := 0) (hi := 0) hb) (.inr (Nat.zero_le _)))
  replace oq0 := Lib.hid (oq0.out.chg (Chg.ofBelow (lo := 0) (hi := 0) hb) (.inr (Nat.zero_le _)))
  replace oG0 := Lib.hid (oG0.out.chg (Chg.ofBelow (lo := 0) (hi := 0) hb) (.inr (Nat.zero_le _)))
  replace os0 := Lib.hid (os0.out.chg (Chg.ofBelow (lo := 0) (hi := 0) hb) (.inr (Nat.zero_le _)))
  clear hb
  go_wp2_with (fail)
  refine (markInstrS_any _ _ _ _ a0 (1) _ hlen0 (by omega) (by omega) oq0.out).mono ?_
  rintro e w9 ⟨rfl, _, hc⟩
  have b9 := Lib.hid (below_chg b8.out hc b8.out.size (by omega))
  have z9 := hc.size
  replace oW0 := Lib.hid (oW0.out.chg hc (by omega))
  replace oG0 := Lib.hid (oG0.out.chg hc (by omega))
  clear hc
  have hk : (0 : Int) ≤ 1 + 5 * (a0.length : Int) := by omega
  go_wp2_with (fail)
  refine (eqIntS_any _ _ _ _ _ _ _ _ _ _ R0 R0 _ rfl rfl hR0 (OW.rs oG0.out) (OW.rs oW0.out) (by omega) (by omega) rfl).mono ?_
  rintro e w10 ⟨rfl, hb⟩
  have b10 := Lib.hid (b9.out.trans (hb.mono b9.out.size))
  have z10 := hb.size
  replace oW0 := Lib.hid (oW0.out.chg (Chg.ofBelow (lo := 0) (hi := 0) hb) (.inr (Nat.zero_le _)))
  replace oG0 := Lib.hid (oG0.out.chg (Chg.ofBelow (lo := 0) (hi := 0) hb) (.inr (Nat.zero_le _)))
  clear hb
  go_wp2_with (fail)
  refine (markIntS_c _ _ _ _ R0 (1) _ hR0 (by omega) (by omega) oG0.out).mono ?_
  rintro e w11 ⟨rfl, ho, hc⟩
  have b11 := Lib.hid (below_chg b10.out hc b10.out.size (by omega))
  have z11 := hc.size
  replace oW0 := Lib.hid (oW0.out.chg hc (by omega))
  clear hc
  replace oG0 := Lib.hid ho
  clear ho
  have hq : (0 : Int) ≤ 1 + (R0.length : Int) := by omega
  go_wp2_with (fail)
  refine (heldIntS_any _ _ _ _ _ 1 _ hR0 (by omega) (by omega) (OW.rs oG0.out) ).mono ?_
  rintro e w_ ⟨rfl, rfl⟩
  go_wp2_with (fail)
  refine (toInstrS_any 0 _ A0 c0 a0 _ hlen0 (E0.out.below b11.out (Nat.le_refl _)) b11.out.size).mono ?_
  rintro e w12 ⟨Ah0, ch0, rfl, ho, hb⟩
  have b12 := Lib.hid (b11.out.trans (hb.mono b11.out.size))
  have z12 := hb.size
  replace oW0 := Lib.hid (oW0.out.chg (Chg.ofBelow (lo := 0) (hi := 0) hb) (.inr (Nat.zero_le _)))
  replace oG0 := Lib.hid (oG0.out.chg (Chg.ofBelow (lo := 0) (hi := 0) hb) (.inr (Nat.zero_le _)))
  clear hb
  have oh0 := Lib.hid ho
  clear ho
  go_wp2_with (fail)
  refine (I.out _ _ _ _ _ hlen0 (In.rs oh0.out) (by omega) (OK.cap oh0.out)).mono ?_
  rintro e w13 ⟨AH0, cH0, rfl, ho0, hb⟩
  have b13 := Lib.hid (b12.out.trans (hb.mono b12.out.size))
  have z13 := hb.size
  replace oW0 := Lib.hid (oW0.out.chg (Chg.ofBelow (lo := 0) (hi := 0) hb) (.inr (Nat.zero_le _)))
  replace oG0 := Lib.hid (oG0.out.chg (Chg.ofBelow (lo := 0) (hi := 0) hb) (.inr (Nat.zero_le _)))
  replace oh0 := Lib.hid (oh0.out.chg (Chg.ofBelow (lo := 0) (hi := 0) hb) (.inr (Nat.zero_le _)))
  clear hb
  have oH0 := Lib.hid ho0
  clear ho0
  go_wp2_with (fail)
  refine (eqIntS_any _ _ _ _ _ _ _ _ _ _ R0 R0 _ rfl rfl hR0 (OW.rs oH0.out) (OW.rs oW0.out) (by omega) (by omega) rfl).mono ?_
  rintro e w14 ⟨rfl, hb⟩
  have b14 := Lib.hid (b13.out.trans (hb.mono b13.out.size))
  have z14 := hb.size
  replace oW0 := Lib.hid (oW0.out.chg (Chg.ofBelow (lo := 0) (hi := 0) hb) (.inr (Nat.zero_le _)))
  replace oG0 := Lib.hid (oG0.out.chg (Chg.ofBelow (lo := 0) (hi := 0) hb) (.inr (Nat.zero_le _)))
  replace oh0 := Lib.hid (oh0.out.chg (Chg.ofBelow (lo := 0) (hi := 0) hb) (.inr (Nat.zero_le _)))
  replace oH0 := Lib.hid (oH0.out.chg (Chg.ofBelow (lo := 0) (hi := 0) hb) (.inr (Nat.zero_le _)))
  clear hb
  go_wp2_with (fail)
  refine (heldIntS_any _ _ _ _ _ 1 _ hR0 (by omega) (by omega) (OW.rs oG0.out) ).mono ?_
  rintro e w_ ⟨rfl, rfl⟩
  go_wp2
  go_ret
  exact ⟨rfl, b14.out⟩

def ResLeastLength (R0 : Int) (R1 : Bool) (w : World) (e : Ending) (w' : World) : Prop := e = .returned (.tuple #[.int .i64 R0, .bool R1]) ∧ Below w.heap.size w w'
set_option maxHeartbeats 4000000 in
theorem lawLeastLength (A0 : Option Addr) (c0 : Nat) (a0 : List In) (a1 : Int) (w : World) (hl0 : a0.length ≤ 9223372036854775807) (h0 : RS In.enc 5 w 0 w.heap.size A0 a0) (hs0 : ∀ n ∈ a0, n.op.size ≤ 9223372036854775807) (R0 : Int) (R1 : Bool)
    (hS : ∀ (L0 B0 : Nat) (A0 : Option Addr) (c0 : Nat) (w : World), a0.length ≤ 1048576 → RS In.enc 5 w L0 B0 A0 a0 → B0 ≤ w.heap.size → Calls Try.prog 36 #[.slice A0 a0.length c0, .int .i64 a1] w (ResLeastLength R0 R1 w))
    (hI : ∀ (L0 B0 : Nat) (A0 : Option Addr) (c0 : Nat) (w : World), a0.length ≤ 1048576 → RS In.enc 5 w L0 B0 A0 a0 → B0 ≤ w.heap.size → a0.length ≤ c0 → Calls Try.prog 37 #[.slice A0 a0.length c0, .int .i64 a1] w (ResLeastLength R0 R1 w)) :
    Calls Try.prog 7 #[.slice A0 a0.length c0, .int .i64 a1] w fun e w' => e = .returned (.bool true) ∧ Below w.heap.size w w' := by
  have S := Lib.hid hS
  have I := Lib.hid hI
  have E0 := Lib.hid h0
  have Z0 := Lib.hid hs0
  clear hS hI h0 hs0
  have b0 := Lib.hid (Below.refl w.heap.size w)
  go_enter Try.func7, Try.ntmps7
  go_wp2_with (fail)
  refine (szInstrS_any 0 _ A0 c0 a0 1048576 _ hl0 (E0.out.below b0.out (Nat.le_refl _)) b0.out.size Z0.out (by omega) (by omega)).mono ?_
  rintro e w1 ⟨r0, rfl, hr0a, hr0b, hr0c, hb⟩
  have b1 := Lib.hid (b0.out.trans (hb.mono b0.out.size))
  have z1 := hb.size
  clear hb
  by_cases hr0 : 0 ≤ r0
  rotate_left
  · go_wp2
    go_ret
    exact ⟨rfl, b1.out⟩
  have hlen0 : a0.length ≤ 1048576 := by have := hr0b hr0; omega
  clear hr0b
  have e0 : (R0 != R0) = false := by simp
  have e1 : (R1 != R1) = false := by simp
  go_wp2_with (fail)
  refine (toInstrS_any 0 _ A0 c0 a0 _ hlen0 (E0.out.below b1.out (Nat.le_refl _)) b1.out.size).mono ?_
  rintro e w2 ⟨Ap0, cp0, rfl, ho, hb⟩
  have b2 := Lib.hid (b1.out.trans (hb.mono b1.out.size))
  have z2 := hb.size
  clear hb
  have op0 := Lib.hid ho
  clear ho
  go_wp2_with (fail)
  refine (S.out _ _ _ _ _ hlen0 (In.rs op0.out) (by omega)).mono ?_
  rintro e w3 ⟨rfl, hb⟩
  have b3 := Lib.hid (b2.out.trans (hb.mono b2.out.size))
  have z3 := hb.size
  replace op0 := Lib.hid (op0.out.chg (Chg.ofBelow (lo := 0) (hi := 0) hb) (.inr (Nat.zero_le _)))
  clear hb
  go_wp2_with (fail)
  refine (toInstrS_any 0 _ A0 c0 a0 _ hlen0 (E0.out.below b3.out (Nat.le_refl _)) b3.out.size).mono ?_
  rintro e w4 ⟨Aq0, cq0, rfl, ho, hb⟩
  have b4 := Lib.hid (b3.out.trans (hb.mono b3.out.size))
  have z4 := hb.size
  clear hb
  have oq0 := Lib.hid ho
  clear ho
  go_wp2_with (fail)
  refine (I.out _ _ _ _ _ hlen0 (In.rs oq0.out) (by omega) (OK.cap oq0.out)).mono ?_
  rintro e w5 ⟨rfl, hb⟩
  have b5 := Lib.hid (b4.out.trans (hb.mono b4.out.size))
  have z5 := hb.size
  replace oq0 := Lib.hid (oq0.out.chg (Chg.ofBelow (lo := 0) (hi := 0) hb) (.inr (Nat.zero_le _)))
  clear hb
  go_wp2_with (fail)
  refine (toInstrS_any 0 _ A0 c0 a0 _ hlen0 (E0.out.below b5.out (Nat.le_refl _)) b5.out.size).mono ?_
  rintro e w6 ⟨As0, cs0, rfl, ho, hb⟩
  have b6 := Lib.hid (b5.out.trans (hb.mono b5.out.size))
  have z6 := hb.size
  replace oq0 := Lib.hid (oq0.out.chg (Chg.ofBelow (lo := 0) (hi := 0) hb) (.inr (Nat.zero_le _)))
  clear hb
  have os0 := Lib.hid ho
  clear ho
  go_wp2_with (fail)
  refine (eqInstrS_any _ _ _ _ _ _ _ _ _ _ a0 a0 _ rfl rfl hlen0 (In.rs oq0.out) (In.rs os0.out) (by omega) (by omega) rfl).mono ?_
  rintro e w7 ⟨rfl, hb⟩
  have b7 := Lib.hid (b6.out.trans (hb.mono b6.out.size))
  have z7 := hb.size
  replace oq0 := Lib.hid (oq0.out.chg (Chg.ofBelow (lo := 0) (hi := 0) hb) (.inr (Nat.zero_le _)))
  replace os0 := Lib.hid (os0.out.chg (Chg.ofBelow (lo := 0) (hi := 0) hb) (.inr (Nat.zero_le _)))
  clear hb
  go_wp2
  go_ret
  exact ⟨rfl, b7.out⟩
end Go.Proofs.Ytaaloepoegehkaa
