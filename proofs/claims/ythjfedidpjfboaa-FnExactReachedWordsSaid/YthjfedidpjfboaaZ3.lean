/- Texts of this proof, one behind the other: LawVB, VC, SE, LawVA, SF, VF. -/
import Derived.Test.YthjfedidpjfboaaKMInstr
import Derived.Test.YthjfedidpjfboaaKInstr
import Derived.Test.YthjfedidpjfboaaLI
import Derived.WalkKit
import Derived.WalkSpells
import Derived.WalkLawsBesides
import Derived.Lib.Hide
import Derived.Test.YthjfedidpjfboaaV
import Derived.Test.YthjfedidpjfboaaZ11
import Derived.Test.YthjfedidpjfboaaZ5
import Derived.RangeFuncNested
import Derived.Deep.RegionHeld3
import Derived.Test.YthjfedidpjfboaaZ9
import Derived.Test.YthjfedidpjfboaaZ4
namespace Go.Proofs.Ythjfedidpjfboaa
open Go.RowKit
set_option linter.unusedVariables false

def ResAreSameBlocks (R0 : Bool) (R1 : Bool) (w : World) (e : Ending) (w' : World) : Prop := e = .returned (.tuple #[.bool R0, .bool R1]) ∧ Below w.heap.size w w'
set_option maxHeartbeats 4000000 in
theorem lawAreSameBlocks (A0 : Option Addr) (c0 : Nat) (a0 : List In) (A1 : Option Addr) (c1 : Nat) (a1 : List In) (A2 : Option Addr) (c2 : Nat) (a2 : List Int) (w : World) (hl0 : a0.length ≤ 9223372036854775807) (h0 : RS In.enc 5 w 0 w.heap.size A0 a0) (hs0 : ∀ n ∈ a0, n.op.size ≤ 9223372036854775807) (hl1 : a1.length ≤ 9223372036854775807) (h1 : RS In.enc 5 w 0 w.heap.size A1 a1) (hs1 : ∀ n ∈ a1, n.op.size ≤ 9223372036854775807) (hl2 : a2.length ≤ 9223372036854775807) (h2 : IS w 0 w.heap.size A2 a2) (R0 : Bool) (R1 : Bool)
    (hS : ∀ (L0 B0 : Nat) (A0 : Option Addr) (c0 : Nat) (L1 B1 : Nat) (A1 : Option Addr) (c1 : Nat) (L2 B2 : Nat) (A2 : Option Addr) (c2 : Nat) (w : World), a0.length ≤ 1048576 → RS In.enc 5 w L0 B0 A0 a0 → B0 ≤ w.heap.size → a1.length ≤ 1048576 → RS In.enc 5 w L1 B1 A1 a1 → B1 ≤ w.heap.size → a2.length ≤ 1048576 → IS w L2 B2 A2 a2 → B2 ≤ w.heap.size → Calls Try.prog 55 #[.slice A0 a0.length c0, .slice A1 a1.length c1, .slice A2 a2.length c2] w (ResAreSameBlocks R0 R1 w))
    (hI : ∀ (L0 B0 : Nat) (A0 : Option Addr) (c0 : Nat) (L1 B1 : Nat) (A1 : Option Addr) (c1 : Nat) (L2 B2 : Nat) (A2 : Option Addr) (c2 : Nat) (w : World), a0.length ≤ 1048576 → RS In.enc 5 w L0 B0 A0 a0 → B0 ≤ w.heap.size → a1.length ≤ 1048576 → RS In.enc 5 w L1 B1 A1 a1 → B1 ≤ w.heap.size → a2.length ≤ 1048576 → IS w L2 B2 A2 a2 → B2 ≤ w.heap.size → Calls Try.prog 56 #[.slice A0 a0.length c0, .slice A1 a1.length c1, .slice A2 a2.length c2] w (ResAreSameBlocks R0 R1 w)) :
    Calls Try.prog 12 #[.slice A0 a0.length c0, .slice A1 a1.length c1, .slice A2 a2.length c2] w fun e w' => e = .returned (.bool true) ∧ Below w.heap.size w w' := by
  have S := Lib.hid hS
  have I := Lib.hid hI
  have E0 := Lib.hid h0
  have E1 := Lib.hid h1
  have E2 := Lib.hid h2
  have Z0 := Lib.hid hs0
  have Z1 := Lib.hid hs1
  clear hS hI h0 h1 h2 hs0 hs1
  by_cases g2 : a2.length ≤ 1048576
  rotate_left
  · have g2' : (1048576 : Int) < (a2.length : Int) := by omega
    clear g2
    go_enter Try.func12, Try.ntmps12
    go_wp2
    go_ret
    exact ⟨rfl, Below.refl _ _⟩
  have b0 := Lib.hid (Below.refl w.heap.size w)
  go_enter Try.func12, Try.ntmps12
  go_wp2_with (fail)
  refine (szInstrS_any 0 _ A0 c0 a0 1048576 _ hl0 (E0.out.below b0.out (Nat.le_refl _)) b0.out.size Z0.out (by omega) (by omega)).mono ?_
  rintro e w1 ⟨r0, rfl, hr0a, hr0b, hr0c, hb⟩
  have b1 := Lib.hid (b0.out.trans (hb.mono b0.out.size))
  have z1 := hb.size
  clear hb
  by_cases hr0 : 0 ≤ r0
  rotate_left
  · go_wp2
    go_ret
    exact ⟨rfl, b1.out⟩
  have hlen0 : a0.length ≤ 1048576 := by have := hr0b hr0; omega
  clear hr0b
  go_wp2_with (fail)
  refine (szInstrS_any 0 _ A1 c1 a1 r0 _ hl1 (E1.out.below b1.out (Nat.le_refl _)) b1.out.size Z1.out (by omega) (by omega)).mono ?_
  rintro e w2 ⟨r1, rfl, hr1a, hr1b, hr1c, hb⟩
  have b2 := Lib.hid (b1.out.trans (hb.mono b1.out.size))
  have z2 := hb.size
  clear hb
  by_cases hr1 : 0 ≤ r1
  rotate_left
  · go_wp2
    go_ret
    exact ⟨rfl, b2.out⟩
  have hlen1 : a1.length ≤ 1048576 := by have := hr1b hr1; omega
  clear hr1b
  have hlen2 : a2.length ≤ 1048576 := g2
  have e0 : (R0 != R0) = false := by simp
  have e1 : (R1 != R1) = false := by simp
  go_wp2_with (fail)
  refine (toInstrS_any 0 _ A0 c0 a0 _ hlen0 (E0.out.below b2.out (Nat.le_refl _)) b2.out.size).mono ?_
  rintro e w3 ⟨Ap0, cp0, rfl, ho, hb⟩
  have b3 := Lib.hid (b2.out.trans (hb.mono b2.out.size))
  have z3 := hb.size
  clear hb
  have op0 := Lib.hid ho
  clear ho
  go_wp2_with (fail)
  refine (toInstrS_any 0 _ A1 c1 a1 _ hlen1 (E1.out.below b3.out (Nat.le_refl _)) b3.out.size).mono ?_
  rintro e w4 ⟨Ap1, cp1, rfl, ho, hb⟩
  have b4 := Lib.hid (b3.out.trans (hb.mono b3.out.size))
  have z4 := hb.size
  replace op0 := Lib.hid (op0.out.chg (Chg.ofBelow (lo := 0) (hi := 0) hb) (.inr (Nat.zero_le _)))
  clear hb
  have op1 := Lib.hid ho
  clear ho
  go_wp2_with (fail)
  refine (toIntS_any 0 _ A2 c2 a2 _ hlen2 (E2.out.below b4.out (Nat.le_refl _)) b4.out.size).mono ?_
  rintro e w5 ⟨Ap2, cp2, rfl, ho, hb⟩
  have b5 := Lib.hid (b4.out.trans (hb.mono b4.out.size))
  have z5 := hb.size
  replace op0 := Lib.hid (op0.out.chg (Chg.ofBelow (lo := 0) (hi := 0) hb) (.inr (Nat.zero_le _)))
  replace op1 := Lib.hid (op1.out.chg (Chg.ofBelow (lo := 0) (hi := 0) hb) (.inr (Nat.zero_le _)))
  clear hb
  have op2 := Lib.hid ho
  clear ho
  go_wp2_with (fail)
  refine (S.out _ _ _ _ _ _ _ _ _ _ _ _ _ hlen0 (In.rs op0.out) (by omega) hlen1 (In.rs op1.out) (by omega) hlen2 (OW.rs op2.out) (by omega)).mono ?_
  rintro e w6 ⟨rfl, hb⟩
  have b6 := Lib.hid (b5.out.trans (hb.mono b5.out.size))
  have z6 := hb.size
  replace op0 := Lib.hid (op0.out.chg (Chg.ofBelow (lo := 0) (hi := 0) hb) (.inr (Nat.zero_le _)))
  replace op1 := Lib.hid (op1.out.chg (Chg.ofBelow (lo := 0) (hi := 0) hb) (.inr (Nat.zero_le _)))
  replace op2 := Lib.hid (op2.out.chg (Chg.ofBelow (lo := 0) (hi := 0) hb) (.inr (Nat.zero_le _)))
  clear hb
  go_wp2_with (fail)
  refine (toInstrS_any 0 _ A0 c0 a0 _ hlen0 (E0.out.below b6.out (Nat.le_refl _)) b6.out.size).mono ?_
  rintro e w7 ⟨Aq0, cq0, rfl, ho, hb⟩
  have b7 := Lib.hid (b6.out.trans (hb.mono b6.out.size))
  have z7 := hb.size
  clear hb
  have oq0 := Lib.hid ho
  clear ho
  go_wp2_with (fail)
  refine (toInstrS_any 0 _ A1 c1 a1 _ hlen1 (E1.out.below b7.out (Nat.le_refl _)) b7.out.size).mono ?_
  rintro e w8 ⟨Aq1, cq1, rfl, ho, hb⟩
  have b8 := Lib.hid (b7.out.trans (hb.mono b7.out.size))
  have z8 := hb.size
  replace oq0 := Lib.hid (oq0.out.chg (Chg.ofBelow (lo := 0) (hi := 0) hb) (.inr (Nat.zero_le _)))
  clear hb
  have oq1 := Lib.hid ho
  clear ho
  go_wp2_with (fail)
  refine (toIntS_any 0 _ A2 c2 a2 _ hlen2 (E2.out.below b8.out (Nat.le_refl _)) b8.out.size).mono ?_
  rintro e w9 ⟨Aq2, cq2, rfl, ho, hb⟩
  have b9 := Lib.hid (b8.out.trans (hb.mono b8.out.size))
  have z9 := hb.size
  replace oq0 := Lib.hid (oq0.out.chg (Chg.ofBelow (lo := 0) (hi := 0) hb) (.inr (Nat.zero_le _)))
  replace oq1 := Lib.hid (oq1.out.chg (Chg.ofBelow (lo := 0) (hi := 0) hb) (.inr (Nat.zero_le _)))
  clear hb
  have oq2 := Lib.hid ho
  clear ho
  go_wp2_with (fail)
  refine (I.out _ _ _ _ _ _ _ _ _ _ _ _ _ hlen0 (In.rs oq0.out) (by omega) hlen1 (In.rs oq1.out) (by omega) hlen2 (OW.rs oq2.out) (by omega)).mono ?_
  rintro e w10 ⟨rfl, hb⟩
  have b10 := Lib.hid (b9.out.trans (hb.mono b9.out.size))
  have z10 := hb.size
  replace oq0 := Lib.hid (oq0.out.chg (Chg.ofBelow (lo := 0) (hi := 0) hb) (.inr (Nat.zero_le _)))
  replace oq1 := Lib.hid (oq1.out.chg (Chg.ofBelow (lo := 0) (hi := 0) hb) (.inr (Nat.zero_le _)))
  replace oq2 := Lib.hid (oq2.out.chg (Chg.ofBelow (lo := 0) (hi := 0) hb) (.inr (Nat.zero_le _)))
  clear hb
  go_wp2_with (fail)
  refine (toInstrS_any 0 _ A0 c0 a0 _ hlen0 (E0.out.below b10.out (Nat.le_refl _)) b10.out.size).mono ?_
  rintro e w11 ⟨As0, cs0, rfl, ho, hb⟩
  have b11 := Lib.hid (b10.out.trans (hb.mono b10.out.size))
  have z11 := hb.size
  replace oq0 := Lib.hid (oq0.out.chg (Chg.ofBelow (lo := 0) (hi := 0) hb) (.inr (Nat.zero_le _)))
  replace oq1 := Lib.hid (oq1.out.chg (Chg.ofBelow (lo := 0) (hi := 0) hb) (.inr (Nat.zero_le _)))
  replace oq2 := Lib.hid (oq2.out.chg (Chg.ofBelow (lo := 0) (hi := 0) hb) (.inr (Nat.zero_le _)))
  clear hb
  have os0 := Lib.hid ho
  clear ho
  go_wp2_with (fail)
  refine (eqInstrS_any _ _ _ _ _ _ _ _ _ _ a0 a0 _ rfl rfl hlen0 (In.rs oq0.out) (In.rs os0.out) (by omega) (by omega) rfl).mono ?_
  rintro e w12 ⟨rfl, hb⟩
  have b12 := Lib.hid (b11.out.trans (hb.mono b11.out.size))
  have z12 := hb.size
  replace oq0 := Lib.hid (oq0.out.chg (Chg.ofBelow (lo := 0) (hi := 0) hb) (.inr (Nat.zero_le _)))
  replace oq1 := Lib.hid (oq1.out.chg (Chg.ofBelow (lo := 0) (hi := 0) hb) (.inr (Nat.zero_le _)))
  replace oq2 := Lib.hid (oq2.out.chg (Chg.ofBelow (lo := 0) (hi := 0) hb) (.inr (Nat.zero_le _)))
  replace os0 := Lib.hid (os0.out.chg (Chg.ofBelow (lo := 0) (hi := 0) hb) (.inr (Nat.zero_le _)))
  clear hb
  go_wp2_with (fail)
  refine (toInstrS_any 0 _ A1 c1 a1 _ hlen1 (E1.out.below b12.out (Nat.le_refl _)) b12.out.size).mono ?_
  rintro e w13 ⟨As1, cs1, rfl, ho, hb⟩
  have b13 := Lib.hid (b12.out.trans (hb.mono b12.out.size))
  have z13 := hb.size
  replace oq0 := Lib.hid (oq0.out.chg (Chg.ofBelow (lo := 0) (hi := 0) hb) (.inr (Nat.zero_le _)))
  replace oq1 := Lib.hid (oq1.out.chg (Chg.ofBelow (lo := 0) (hi := 0) hb) (.inr (Nat.zero_le _)))
  replace oq2 := Lib.hid (oq2.out.chg (Chg.ofBelow (lo := 0) (hi := 0) hb) (.inr (Nat.zero_le _)))
  clear hb
  have os1 := Lib.hid ho
  clear ho
  go_wp2_with (fail)
  refine (eqInstrS_any _ _ _ _ _ _ _ _ _ _ a1 a1 _ rfl rfl hlen1 (In.rs oq1.out) (In.rs os1.out) (by omega) (by omega) rfl).mono ?_
  rintro e w14 ⟨rfl, hb⟩
  have b14 := Lib.hid (b13.out.trans (hb.mono b13.out.size))
  have z14 := hb.size
  replace oq0 := Lib.hid (oq0.out.chg (Chg.ofBelow (lo := 0) (hi := 0) hb) (.inr (Nat.zero_le _)))
  replace oq1 := Lib.hid (oq1.out.chg (Chg.ofBelow (lo := 0) (hi := 0) hb) (.inr (Nat.zero_le _)))
  replace oq2 := Lib.hid (oq2.out.chg (Chg.ofBelow (lo := 0) (hi := 0) hb) (.inr (Nat.zero_le _)))
  replace os1 := Lib.hid (os1.out.chg (Chg.ofBelow (lo := 0) (hi := 0) hb) (.inr (Nat.zero_le _)))
  clear hb
  go_wp2_with (fail)
  refine (toIntS_any 0 _ A2 c2 a2 _ hlen2 (E2.out.below b14.out (Nat.le_refl _)) b14.out.size).mono ?_
  rintro e w15 ⟨As2, cs2, rfl, ho, hb⟩
  have b15 := Lib.hid (b14.out.trans (hb.mono b14.out.size))
  have z15 := hb.size
  replace oq0 := Lib.hid (oq0.out.chg (Chg.ofBelow (lo := 0) (hi := 0) hb) (.inr (Nat.zero_le _)))
  replace oq1 := Lib.hid (oq1.out.chg (Chg.ofBelow (lo := 0) (hi := 0) hb) (.inr (Nat.zero_le _)))
  replace oq2 := Lib.hid (oq2.out.chg (Chg.ofBelow (lo := 0) (hi := 0) hb) (.inr (Nat.zero_le _)))
  clear hb
  have os2 := Lib.hid ho
  clear ho
  go_wp2_with (fail)
  refine (eqIntS_any _ _ _ _ _ _ _ _ _ _ a2 a2 _ rfl rfl hlen2 (OW.rs oq2.out) (OW.rs os2.out) (by omega) (by omega) rfl).mono ?_
  rintro e w16 ⟨rfl, hb⟩
  have b16 := Lib.hid (b15.out.trans (hb.mono b15.out.size))
  have z16 := hb.size
  replace oq0 := Lib.hid (oq0.out.chg (Chg.ofBelow (lo := 0) (hi := 0) hb) (.inr (Nat.zero_le _)))
  replace oq1 := Lib.hid (oq1.out.chg (Chg.ofBelow (lo := 0) (hi := 0) hb) (.inr (Nat.zero_le _)))
  replace oq2 := Lib.hid (oq2.out.chg (Chg.ofBelow (lo := 0) (hi := 0) hb) (.inr (Nat.zero_le _)))
  replace os2 := Lib.hid (os2.out.chg (Chg.ofBelow (lo := 0) (hi := 0) hb) (.inr (Nat.zero_le _)))
  clear hb
  go_wp2
  go_ret
  exact ⟨rfl, b16.out⟩

def ResIsUntouched (R0 : Bool) (R1 : Bool) (w : World) (e : Ending) (w' : World) : Prop := e = .returned (.tuple #[.bool R0, .bool R1]) ∧ Below w.heap.size w w'
set_option maxHeartbeats 4000000 in
theorem lawIsUntouched (A0 : Option Addr) (c0 : Nat) (a0 : List In) (a1 : Int) (w : World) (hl0 : a0.length ≤ 9223372036854775807) (h0 : RS In.enc 5 w 0 w.heap.size A0 a0) (hs0 : ∀ n ∈ a0, n.op.size ≤ 9223372036854775807) (R0 : Bool) (R1 : Bool)
    (hS : ∀ (L0 B0 : Nat) (A0 : Option Addr) (c0 : Nat) (w : World), a0.length ≤ 1048576 → RS In.enc 5 w L0 B0 A0 a0 → B0 ≤ w.heap.size → Calls Try.prog 57 #[.slice A0 a0.length c0, .int .i64 a1] w (ResIsUntouched R0 R1 w))
    (hI : ∀ (L0 B0 : Nat) (A0 : Option Addr) (c0 : Nat) (w : World), a0.length ≤ 1048576 → RS In.enc 5 w L0 B0 A0 a0 → B0 ≤ w.heap.size → Calls Try.prog 58 #[.slice A0 a0.length c0, .int .i64 a1] w (ResIsUntouched R0 R1 w)) :
    Calls Try.prog 13 #[.slice A0 a0.length c0, .int .i64 a1] w fun e w' => e = .returned (.bool true) ∧ Below w.heap.size w w' := by
  have S := Lib.hid hS
  have I := Lib.hid hI
  have E0 := Lib.hid h0
  have Z0 := Lib.hid hs0
  clear hS hI h0 hs0
  have b0 := Lib.hid (Below.refl w.heap.size w)
  go_enter Try.func13, Try.ntmps13
  go_wp2_with (fail)
  refine (szInstrS_any 0 _ A0 c0 a0 1048576 _ hl0 (E0.out.below b0.out (Nat.le_refl _)) b0.out.size Z0.out (by omega) (by omega)).mono ?_
  rintro e w1 ⟨r0, rfl, hr0a, hr0b, hr0c, hb⟩
  have b1 := Lib.hid (b0.out.trans (hb.mono b0.out.size))
  have z1 := hb.size
  clear hb
  by_cases hr0 : 0 ≤ r0
  rotate_left
  · go_wp2
    go_ret
    exact ⟨rfl, b1.out⟩
  have hlen0 : a0.length ≤ 1048576 := by have := hr0b hr0; omega
  clear hr0b
  have e0 : (R0 != R0) = false := by simp
  have e1 : (R1 != R1) = false := by simp
  go_wp2_with (fail)
  refine (toInstrS_any 0 _ A0 c0 a0 _ hlen0 (E0.out.below b1.out (Nat.le_refl _)) b1.out.size).mono ?_
  rintro e w2 ⟨Ap0, cp0, rfl, ho, hb⟩
  have b2 := Lib.hid (b1.out.trans (hb.mono b1.out.size))
  have z2 := hb.size
  clear hb
  have op0 := Lib.hid ho
  clear ho
  go_wp2_with (fail)
  refine (S.out _ _ _ _ _ hlen0 (In.rs op0.out) (by omega)).mono ?_
  rintro e w3 ⟨rfl, hb⟩
  have b3 := Lib.hid (b2.out.trans (hb.mono b2.out.size))
  have z3 := hb.size
  replace op0 := Lib.hid (op0.out.chg (Chg.ofBelow (lo := 0) (hi := 0) hb) (.inr (Nat.zero_le _)))
  clear hb
  go_wp2_with (fail)
  refine (toInstrS_any 0 _ A0 c0 a0 _ hlen0 (E0.out.below b3.out (Nat.le_refl _)) b3.out.size).mono ?_
  rintro e w4 ⟨Aq0, cq0, rfl, ho, hb⟩
  have b4 := Lib.hid (b3.out.trans (hb.mono b3.out.size))
  have z4 := hb.size
  clear hb
  have oq0 := Lib.hid ho
  clear ho
  go_wp2_with (fail)
  refine (I.out _ _ _ _ _ hlen0 (In.rs oq0.out) (by omega)).mono ?_
  rintro e w5 ⟨rfl, hb⟩
  have b5 := Lib.hid (b4.out.trans (hb.mono b4.out.size))
  have z5 := hb.size
  replace oq0 := Lib.hid (oq0.out.chg (Chg.ofBelow (lo := 0) (hi := 0) hb) (.inr (Nat.zero_le _)))
  clear hb
  go_wp2_with (fail)
  refine (toInstrS_any 0 _ A0 c0 a0 _ hlen0 (E0.out.below b5.out (Nat.le_refl _)) b5.out.size).mono ?_
  rintro e w6 ⟨As0, cs0, rfl, ho, hb⟩
  have b6 := Lib.hid (b5.out.trans (hb.mono b5.out.size))
  have z6 := hb.size
  replace oq0 := Lib.hid (oq0.out.chg (Chg.ofBelow (lo := 0) (hi := 0) hb) (.inr (Nat.zero_le _)))
  clear hb
  have os0 := Lib.hid ho
  clear ho
  go_wp2_with (fail)
  refine (eqInstrS_any _ _ _ _ _ _ _ _ _ _ a0 a0 _ rfl rfl hlen0 (In.rs oq0.out) (In.rs os0.out) (by omega) (by omega) rfl).mono ?_
  rintro e w7 ⟨rfl, hb⟩
  have b7 := Lib.hid (b6.out.trans (hb.mono b6.out.size))
  have z7 := hb.size
  replace oq0 := Lib.hid (oq0.out.chg (Chg.ofBelow (lo := 0) (hi := 0) hb) (.inr (Nat.zero_le _)))
  replace os0 := Lib.hid (os0.out.chg (Chg.ofBelow (lo := 0) (hi := 0) hb) (.inr (Nat.zero_le _)))
  clear hb
  go_wp2
  go_ret
  exact ⟨rfl, b7.out⟩

def ResSameRegisters (R0 : List (Int)) (R1 : Bool) (w : World) (e : Ending) (w' : World) : Prop := ∃ (A0 : Option Addr) (c0 : Nat), e = .returned (.tuple #[.slice A0 R0.length c0, .bool R1]) ∧ OW w' w.heap.size w'.heap.size (.slice A0 R0.length c0) R0 ∧ Below w.heap.size w w'
set_option maxHeartbeats 4000000 in
theorem lawSameRegisters (A0 : Option Addr) (c0 : Nat) (a0 : List In) (A1 : Option Addr) (c1 : Nat) (a1 : List In) (w : World) (hl0 : a0.length ≤ 9223372036854775807) (h0 : RS In.enc 5 w 0 w.heap.size A0 a0) (hs0 : ∀ n ∈ a0, n.op.size ≤ 9223372036854775807) (hl1 : a1.length ≤ 9223372036854775807) (h1 : RS In.enc 5 w 0 w.heap.size A1 a1) (hs1 : ∀ n ∈ a1, n.op.size ≤ 9223372036854775807) (R0 : List (Int)) (R1 : Bool) (hR0 : R0.length ≤ 1048576)
    (hS : ∀ (L0 B0 : Nat) (A0 : Option Addr) (c0 : Nat) (L1 B1 : Nat) (A1 : Option Addr) (c1 : Nat) (w : World), a0.length ≤ 1048576 → RS In.enc 5 w L0 B0 A0 a0 → B0 ≤ w.heap.size → a1.length ≤ 1048576 → RS In.enc 5 w L1 B1 A1 a1 → B1 ≤ w.heap.size → Calls Try.prog 59 #[.slice A0 a0.length c0, .slice A1 a1.length c1] w (ResSameRegisters R0 R1 w))
    (hI : ∀ (L0 B0 : Nat) (A0 : Option Addr) (c0 : Nat) (L1 B1 : Nat) (A1 : Option Addr) (c1 : Nat) (w : World), a0.length ≤ 1048576 → RS In.enc 5 w L0 B0 A0 a0 → B0 ≤ w.heap.size → a1.length ≤ 1048576 → RS In.enc 5 w L1 B1 A1 a1 → B1 ≤ w.heap.size → Calls Try.prog 60 #[.slice A0 a0.length c0, .slice A1 a1.length c1] w (ResSameRegisters R0 R1 w)) :
    Calls Try.prog 14 #[.slice A0 a0.length c0, .slice A1 a1.length c1] w fun e w' => e = .returned (.bool true) ∧ Below w.heap.size w w' := by
  have S := Lib.hid hS
  have I := Lib.hid hI
  have E0 := Lib.hid h0
  have E1 := Lib.hid h1
  have Z0 := Lib.hid hs0
  have Z1 := Lib.hid hs1
  clear hS hI h0 h1 hs0 hs1
  have b0 := Lib.hid (Below.refl w.heap.size w)
  go_enter Try.func14, Try.ntmps14
  go_wp2_with (fail)
  refine (szInstrS_any 0 _ A0 c0 a0 1048576 _ hl0 (E0.out.below b0.out (Nat.le_refl _)) b0.out.size Z0.out (by omega) (by omega)).mono ?_
  rintro e w1 ⟨r0, rfl, hr0a, hr0b, hr0c, hb⟩
  have b1 := Lib.hid (b0.out.trans (hb.mono b0.out.size))
  have z1 := hb.size
  clear hb
  by_cases hr0 : 0 ≤ r0
  rotate_left
  · go_wp2
    go_ret
    exact ⟨rfl, b1.out⟩
  have hlen0 : a0.length ≤ 1048576 := by have := hr0b hr0; omega
  clear hr0b
  go_wp2_with (fail)
  refine (szInstrS_any 0 _ A1 c1 a1 r0 _ hl1 (E1.out.below b1.out (Nat.le_refl _)) b1.out.size Z1.out (by omega) (by omega)).mono ?_
  rintro e w2 ⟨r1, rfl, hr1a, hr1b, hr1c, hb⟩
  have b2 := Lib.hid (b1.out.trans (hb.mono b1.out.size))
  have z2 := hb.size
  clear hb
  by_cases hr1 : 0 ≤ r1
  rotate_left
  · go_wp2
    go_ret
    exact ⟨rfl, b2.out⟩
  have hlen1 : a1.length ≤ 1048576 := by have := hr1b hr1; omega
  clear hr1b
  have e1 : (R1 != R1) = false := by simp
  go_wp2_with (fail)
  refine (toInstrS_any 0 _ A0 c0 a0 _ hlen0 (E0.out.below b2.out (Nat.le_refl _)) b2.out.size).mono ?_
  rintro e w3 ⟨Ap0, cp0, rfl, ho, hb⟩
  have b3 := Lib.hid (b2.out.trans (hb.mono b2.out.size))
  have z3 := hb.size
  clear hb
  have op0 := Lib.hid ho
  clear ho
  go_wp2_with (fail)
  refine (toInstrS_any 0 _ A1 c1 a1 _ hlen1 (E1.out.below b3.out (Nat.le_refl _)) b3.out.size).mono ?_
  rintro e w4 ⟨Ap1, cp1, rfl, ho, hb⟩
  have b4 := Lib.hid (b3.out.trans (hb.mono b3.out.size))
  have z4 := hb.size
  replace op0 := Lib.hid (op0.out.chg (Chg.ofBelow (lo := 0) (hi := 0) hb) (.inr (Nat.zero_le _)))
  clear hb
  have op1 := Lib.hid ho
  clear ho
  go_wp2_with (fail)
  refine (S.out _ _ _ _ _ _ _ _ _ hlen0 (In.rs op0.out) (by omega) hlen1 (In.rs op1.out) (by omega)).mono ?_
  rintro e w5 ⟨AW0, cW0, rfl, ho0, hb⟩
  have b5 := Lib.hid (b4.out.trans (hb.mono b4.out.size))
  have z5 := hb.size
  replace op0 := Lib.hid (op0.out.chg (Chg.ofBelow (lo := 0) (hi := 0) hb) (.inr (Nat.zero_le _)))
  replace op1 := Lib.hid (op1.out.chg (Chg.ofBelow (lo := 0) (hi := 0) hb) (.inr (Nat.zero_le _)))
  clear hb
  have oW0 := Lib.hid ho0
  clear ho0
  go_wp2_with (fail)
  refine (toInstrS_any 0 _ A0 c0 a0 _ hlen0 (E0.out.below b5.out (Nat.le_refl _)) b5.out.size).mono ?_
  rintro e w6 ⟨Aq0, cq0, rfl, ho, hb⟩
  have b6 := Lib.hid (b5.out.trans (hb.mono b5.out.size))
  have z6 := hb.size
  replace oW0 := Lib.hid (oW0.out.chg (Chg.ofBelow (lo := 0) (hi := 0) hb) (.inr (Nat.zero_le _)))
  clear hb
  have oq0 := Lib.hid ho
  clear ho
  go_wp2_with (fail)
  refine (toInstrS_any 0 _ A1 c1 a1 _ hlen1 (E1.out.below b6.out (Nat.le_refl _)) b6.out.size).mono ?_
  rintro e w7 ⟨Aq1, cq1, rfl, ho, hb⟩
  have b7 := Lib.hid (b6.out.trans (hb.mono b6.out.size))
  have z7 := hb.size
  replace oW0 := Lib.hid (oW0.out.chg (Chg.ofBelow (lo := 0) (hi := 0) hb) (.inr (Nat.zero_le _)))
  replace oq0 := Lib.hid (oq0.out.chg (Chg.ofBelow (lo := 0) (hi := 0) hb) (.inr (Nat.zero_le _)))
  clear hb
  have oq1 := Lib.hid ho
  clear ho
  go_wp2_with (fail)
  refine (I.out _ _ _ _ _ _ _ _ _ hlen0 (In.rs oq0.out) (by omega) hlen1 (In.rs oq1.out) (by omega)).mono ?_
  rintro e w8 ⟨AG0, cG0, rfl, ho0, hb⟩
  have b8 := Lib.hid (b7.out.trans (hb.mono b7.out.size))
  have z8 := hb.size
  replace oW0 := Lib.hid (oW0.out.chg (Chg.ofBelow (lo := 0) (hi := 0) hb) (.inr (Nat.zero_le _)))
  replace oq0 := Lib.hid (oq0.out.chg (Chg.ofBelow (lo := 0) (hi := 0) hb) (.inr (Nat.zero_le _)))
  replace oq1 := Lib.hid (oq1.out.chg (Chg.ofBelow (lo := 0) (hi := 0) hb) (.inr (Nat.zero_le _)))
  clear hb
  have oG0 := Lib.hid ho0
  clear ho0
  go_wp2_with (fail)
  refine (eqIntS_any _ _ _ _ _ _ _ _ _ _ R0 R0 _ rfl rfl hR0 (OW.rs oG0.out) (OW.rs oW0.out) (by omega) (by omega) rfl).mono ?_
  rintro e w9 ⟨rfl, hb⟩
  have b9 := Lib.hid (b8.out.trans (hb.mono b8.out.size))
  have z9 := hb.size
  replace oW0 := Lib.hid (oW0.out.chg (Chg.ofBelow (lo := 0) (hi := 0) hb) (.inr (Nat.zero_le _)))
  replace oq0 := Lib.hid (oq0.out.chg (Chg.ofBelow (lo := 0) (hi := 0) hb) (.inr (Nat.zero_le _)))
  replace oq1 := Lib.hid (oq1.out.chg (Chg.ofBelow (lo := 0) (hi := 0) hb) (.inr (Nat.zero_le _)))
  replace oG0 := Lib.hid (oG0.out.chg (Chg.ofBelow (lo := 0) (hi := 0) hb) (.inr (Nat.zero_le _)))
  clear hb
  go_wp2_with (fail)
  refine (toInstrS_any 0 _ A0 c0 a0 _ hlen0 (E0.out.below b9.out (Nat.le_refl _)) b9.out.size).mono ?_
  rintro e w10 ⟨As0, cs0, rfl, ho, hb⟩
  have b10 := Lib.hid (b9.out.trans (hb.mono b9.out.size))
  have z10 := hb.size
  replace oW0 := Lib.hid (oW0.out.chg (Chg.ofBelow (lo := 0) (hi := 0) hb) (.inr (Nat.zero_le _)))
  replace oq0 := Lib.hid (oq0.out.chg (Chg.ofBelow (lo := 0) (hi := 0) hb) (.inr (Nat.zero_le _)))
  replace oq1 := Lib.hid (oq1.out.chg (Chg.ofBelow (lo := 0) (hi := 0) hb) (.inr (Nat.zero_le _)))
  replace oG0 := Lib.hid (oG0.out.chg (Chg.ofBelow (lo := 0) (hi := 0) hb) (.inr (Nat.zero_le _)))
  clear hb
  have os0 := Lib.hid ho
  clear ho
  go_wp2_with (fail)
  refine (eqInstrS_any _ _ _ _ _ _ _ _ _ _ a0 a0 _ rfl rfl hlen0 (In.rs oq0.out) (In.rs os0.out) (by omega) (by omega) rfl).mono ?_
  rintro e w11 ⟨rfl, hb⟩
  have b11 := Lib.hid (b10.out.trans (hb.mono b10.out.size))
  have z11 := hb.size
  replace oW0 := Lib.hid (oW0.out.chg (Chg.ofBelow (lo := 0) (hi := 0) hb) (.inr (Nat.zero_le _)))
  replace oq0 := Lib.hid (oq0.out.chg (Chg.ofBelow (lo := 0) (hi := 0) hb) (.inr (Nat.zero_le _)))
  replace oq1 := Lib.hid (oq1.out.chg (Chg.ofBelow (lo := 0) (hi := 0) hb) (.inr (Nat.zero_le _)))
  replace oG0 := Lib.hid (oG0.out.chg (Chg.ofBelow (lo := 0) (hi := 0) hb) (.inr (Nat.zero_le _)))
  replace os0 := Lib.hid (os0.out.chg (Chg.ofBelow (lo := 0) (hi := 0) hb) (.inr (Nat.zero_le _)))
  clear hb
  go_wp2_with (fail)
  refine (toInstrS_any 0 _ A1 c1 a1 _ hlen1 (E1.out.below b11.out (Nat.le_refl _)) b11.out.size).mono ?_
  rintro e w12 ⟨As1, cs1, rfl, ho, hb⟩
  have b12 := Lib.hid (b11.out.trans (hb.mono b11.out.size))
  have z12 := hb.size
  replace oW0 := Lib.hid (oW0.out.chg (Chg.ofBelow (lo := 0) (hi := 0) hb) (.inr (Nat.zero_le _)))
  replace oq0 := Lib.hid (oq0.out.chg (Chg.ofBelow (lo := 0) (hi := 0) hb) (.inr (Nat.zero_le _)))
  replace oq1 := Lib.hid (oq1.out.chg (Chg.ofBelow (lo := 0) (hi := 0) hb) (.inr (Nat.zero_le _)))
  replace oG0 := Lib.hid (oG0.out.chg (Chg.ofBelow (lo := 0) (hi := 0) hb) (.inr (Nat.zero_le _)))
  clear hb
  have os1 := Lib.hid ho
  clear ho
  go_wp2_with (fail)
  refine (eqInstrS_any _ _ _ _ _ _ _ _ _ _ a1 a1 _ rfl rfl hlen1 (In.rs oq1.out) (In.rs os1.out) (by omega) (by omega) rfl).mono ?_
  rintro e w13 ⟨rfl, hb⟩
  have b13 := Lib.hid (b12.out.trans (hb.mono b12.out.size))
  have z13 := hb.size
  replace oW0 := Lib.hid (oW0.out.chg (Chg.ofBelow (lo := 0) (hi := 0) hb) (.inr (Nat.zero_le _)))
  replace oq0 := Lib.hid (oq0.out.chg (Chg.ofBelow (lo := 0) (hi := 0) hb) (.inr (Nat.zero_le _)))
  replace oq1 := Lib.hid (oq1.out.chg (Chg.ofBelow (lo := 0) (hi := 0) hb) (.inr (Nat.zero_le _)))
  replace oG0 := Lib.hid (oG0.out.chg (Chg.ofBelow (lo := 0) (hi := 0) hb) (.inr (Nat.zero_le _)))
  replace os1 := Lib.hid (os1.out.chg (Chg.ofBelow (lo := 0) (hi := 0) hb) (.inr (Nat.zero_le _)))
  clear hb
  go_wp2_with (fail)
  refine (markInstrS_any _ _ _ _ a0 (1) _ hlen0 (by omega) (by omega) oq0.out).mono ?_
  rintro e w14 ⟨rfl, _, hc⟩
  have b14 := Lib.hid (below_chg b13.out hc b13.out.size (by omega))
  have z14 := hc.size
  replace oW0 := Lib.hid (oW0.out.chg hc (by omega))
  replace oq1 := Lib.hid (oq1.out.chg hc (by omega))
  replace oG0 := Lib.hid (oG0.out.chg hc (by omega))
  clear hc
  go_wp2_with (fail)
  refine (markInstrS_any _ _ _ _ a1 (1 + 5 * (a0.length : Int)) _ hlen1 (by omega) (by omega) oq1.out).mono ?_
  rintro e w15 ⟨rfl, _, hc⟩
  have b15 := Lib.hid (below_chg b14.out hc b14.out.size (by omega))
  have z15 := hc.size
  replace oW0 := Lib.hid (oW0.out.chg hc (by omega))
  replace oG0 := Lib.hid (oG0.out.chg hc (by omega))
  clear hc
  have hk : (0 : Int) ≤ 1 + 5 * (a0.length : Int) + 5 * (a1.length : Int) := by omega
  go_wp2_with (fail)
  refine (eqIntS_any _ _ _ _ _ _ _ _ _ _ R0 R0 _ rfl rfl hR0 (OW.rs oG0.out) (OW.rs oW0.out) (by omega) (by omega) rfl).mono ?_
  rintro e w16 ⟨rfl, hb⟩
  have b16 := Lib.hid (b15.out.trans (hb.mono b15.out.size))
  have z16 := hb.size
  replace oW0 := Lib.hid (oW0.out.chg (Chg.ofBelow (lo := 0) (hi := 0) hb) (.inr (Nat.zero_le _)))
  replace oG0 := Lib.hid (oG0.out.chg (Chg.ofBelow (lo := 0) (hi := 0) hb) (.inr (Nat.zero_le _)))
  clear hb
  go_wp2_with (fail)
  refine (markIntS_c _ _ _ _ R0 (1) _ hR0 (by omega) (by omega) oG0.out).mono ?_
  rintro e w17 ⟨rfl, ho, hc⟩
  have b17 := Lib.hid (below_chg b16.out hc b16.out.size (by omega))
  have z17 := hc.size
  replace oW0 := Lib.hid (oW0.out.chg hc (by omega))
  clear hc
  replace oG0 := Lib.hid ho
  clear ho
  have hq : (0 : Int) ≤ 1 + (R0.length : Int) := by omega
  go_wp2_with (fail)
  refine (heldIntS_any _ _ _ _ _ 1 _ hR0 (by omega) (by omega) (OW.rs oG0.out) ).mono ?_
  rintro e w_ ⟨rfl, rfl⟩
  go_wp2_with (fail)
  refine (toInstrS_any 0 _ A0 c0 a0 _ hlen0 (E0.out.below b17.out (Nat.le_refl _)) b17.out.size).mono ?_
  rintro e w18 ⟨Ah0, ch0, rfl, ho, hb⟩
  have b18 := Lib.hid (b17.out.trans (hb.mono b17.out.size))
  have z18 := hb.size
  replace oW0 := Lib.hid (oW0.out.chg (Chg.ofBelow (lo := 0) (hi := 0) hb) (.inr (Nat.zero_le _)))
  replace oG0 := Lib.hid (oG0.out.chg (Chg.ofBelow (lo := 0) (hi := 0) hb) (.inr (Nat.zero_le _)))
  clear hb
  have oh0 := Lib.hid ho
  clear ho
  go_wp2_with (fail)
  refine (toInstrS_any 0 _ A1 c1 a1 _ hlen1 (E1.out.below b18.out (Nat.le_refl _)) b18.out.size).mono ?_
  rintro e w19 ⟨Ah1, ch1, rfl, ho, hb⟩
  have b19 := Lib.hid (b18.out.trans (hb.mono b18.out.size))
  have z19 := hb.size
  replace oW0 := Lib.hid (oW0.out.chg (Chg.ofBelow (lo := 0) (hi := 0) hb) (.inr (Nat.zero_le _)))
  replace oG0 := Lib.hid (oG0.out.chg (Chg.ofBelow (lo := 0) (hi := 0) hb) (.inr (Nat.zero_le _)))
  replace oh0 := Lib.hid (oh0.out.chg (Chg.ofBelow (lo := 0) (hi := 0) hb) (.inr (Nat.zero_le _)))
  clear hb
  have oh1 := Lib.hid ho
  clear ho
  go_wp2_with (fail)
  refine (I.out _ _ _ _ _ _ _ _ _ hlen0 (In.rs oh0.out) (by omega) hlen1 (In.rs oh1.out) (by omega)).mono ?_
  rintro e w20 ⟨AH0, cH0, rfl, ho0, hb⟩
  have b20 := Lib.hid (b19.out.trans (hb.mono b19.out.size))
  have z20 := hb.size
  replace oW0 := Lib.hid (oW0.out.chg (Chg.ofBelow (lo := 0) (hi := 0) hb) (.inr (Nat.zero_le _)))
  replace oG0 := Lib.hid (oG0.out.chg (Chg.ofBelow (lo := 0) (hi := 0) hb) (.inr (Nat.zero_le _)))
  replace oh0 := Lib.hid (oh0.out.chg (Chg.ofBelow (lo := 0) (hi := 0) hb) (.inr (Nat.zero_le _)))
  replace oh1 := Lib.hid (oh1.out.chg (Chg.ofBelow (lo := 0) (hi := 0) hb) (.inr (Nat.zero_le _)))
  clear hb
  have oH0 := Lib.hid ho0
  clear ho0
  go_wp2_with (fail)
  refine (eqIntS_any _ _ _ _ _ _ _ _ _ _ R0 R0 _ rfl rfl hR0 (OW.rs oH0.out) (OW.rs oW0.out) (by omega) (by omega) rfl).mono ?_
  rintro e w21 ⟨rfl, hb⟩
  have b21 := Lib.hid (b20.out.trans (hb.mono b20.out.size))
  have z21 := hb.size
  replace oW0 := Lib.hid (oW0.out.chg (Chg.ofBelow (lo := 0) (hi := 0) hb) (.inr (Nat.zero_le _)))
  replace oG0 := Lib.hid (oG0.out.chg (Chg.ofBelow (lo := 0) (hi := 0) hb) (.inr (Nat.zero_le _)))
  replace oh0 := Lib.hid (oh0.out.chg (Chg.ofBelow (lo := 0) (hi := 0) hb) (.inr (Nat.zero_le _)))
  replace oh1 := Lib.hid (oh1.out.chg (Chg.ofBelow (lo := 0) (hi := 0) hb) (.inr (Nat.zero_le _)))
  replace oH0 := Lib.hid (oH0.out.chg (Chg.ofBelow (lo := 0) (hi := 0) hb) (.inr (Nat.zero_le _)))
  clear hb
  go_wp2_with (fail)
  refine (heldIntS_any _ _ _ _ _ 1 _ hR0 (by omega) (by omega) (OW.rs oG0.out) ).mono ?_
  rintro e w_ ⟨rfl, rfl⟩
  go_wp2
  go_ret
  exact ⟨rfl, b21.out⟩

def ResBlockWitness (R0 : List (Int)) (R1 : Bool) (w : World) (e : Ending) (w' : World) : Prop := ∃ (A0 : Option Addr) (c0 : Nat), e = .returned (.tuple #[.slice A0 R0.length c0, .bool R1]) ∧ OW w' w.heap.size w'.heap.size (.slice A0 R0.length c0) R0 ∧ Below w.heap.size w w'
set_option maxHeartbeats 4000000 in
theorem lawBlockWitness (A0 : Option Addr) (c0 : Nat) (a0 : List In) (A1 : Option Addr) (c1 : Nat) (a1 : List In) (A2 : Option Addr) (c2 : Nat) (a2 : List Int) (w : World) (hl0 : a0.length ≤ 9223372036854775807) (h0 : RS In.enc 5 w 0 w.heap.size A0 a0) (hs0 : ∀ n ∈ a0, n.op.size ≤ 9223372036854775807) (hl1 : a1.length ≤ 9223372036854775807) (h1 : RS In.enc 5 w 0 w.heap.size A1 a1) (hs1 : ∀ n ∈ a1, n.op.size ≤ 9223372036854775807) (hl2 : a2.length ≤ 9223372036854775807) (h2 : IS w 0 w.heap.size A2 a2) (R0 : List (Int)) (R1 : Bool) (hR0 : R0.length ≤ 1048576)
    (hS : ∀ (L0 B0 : Nat) (A0 : Option Addr) (c0 : Nat) (L1 B1 : Nat) (A1 : Option Addr) (c1 : Nat) (L2 B2 : Nat) (A2 : Option Addr) (c2 : Nat) (w : World), a0.length ≤ 1048576 → RS In.enc 5 w L0 B0 A0 a0 → B0 ≤ w.heap.size → a1.length ≤ 1048576 → RS In.enc 5 w L1 B1 A1 a1 → B1 ≤ w.heap.size → a2.length ≤ 1048576 → IS w L2 B2 A2 a2 → B2 ≤ w.heap.size → Calls Try.prog 61 #[.slice A0 a0.length c0, .slice A1 a1.length c1, .slice A2 a2.length c2] w (ResBlockWitness R0 R1 w))
    (hI : ∀ (L0 B0 : Nat) (A0 : Option Addr) (c0 : Nat) (L1 B1 : Nat) (A1 : Option Addr) (c1 : Nat) (L2 B2 : Nat) (A2 : Option Addr) (c2 : Nat) (w : World), a0.length ≤ 1048576 → RS In.enc 5 w L0 B0 A0 a0 → B0 ≤ w.heap.size → a1.length ≤ 1048576 → RS In.enc 5 w L1 B1 A1 a1 → B1 ≤ w.heap.size → a2.length ≤ 1048576 → IS w L2 B2 A2 a2 → B2 ≤ w.heap.size → Calls Try.prog 62 #[.slice A0 a0.length c0, .slice A1 a1.length c1, .slice A2 a2.length c2] w (ResBlockWitness R0 R1 w)) :
    Calls Try.prog 15 #[.slice A0 a0.length c0, .slice A1 a1.length c1, .slice A2 a2.length c2] w fun e w' => e = .returned (.bool true) ∧ Below w.heap.size w w' := by
  have S := Lib.hid hS
  have I := Lib.hid hI
  have E0 := Lib.hid h0
  have E1 := Lib.hid h1
  have E2 := Lib.hid h2
  have Z0 := Lib.hid hs0
  have Z1 := Lib.hid hs1
  clear hS hI h0 h1 h2 hs0 hs1
  by_cases g2 : a2.length ≤ 1048576
  rotate_left
  · have g2' : (1048576 : Int) < (a2.length : Int) := by omega
    clear g2
    go_enter Try.func15, Try.ntmps15
    go_wp2
    go_ret
    exact ⟨rfl, Below.refl _ _⟩
  have b0 := Lib.hid (Below.refl w.heap.size w)
  go_enter Try.func15, Try.ntmps15
  go_wp2_with (fail)
  refine (szInstrS_any 0 _ A0 c0 a0 1048576 _ hl0 (E0.out.below b0.out (Nat.le_refl _)) b0.out.size Z0.out (by omega) (by omega)).mono ?_
  rintro e w1 ⟨r0, rfl, hr0a, hr0b, hr0c, hb⟩
  have b1 := Lib.hid (b0.out.trans (hb.mono b0.out.size))
  have z1 := hb.size
  clear hb
  by_cases hr0 : 0 ≤ r0
  rotate_left
  · go_wp2
    go_ret
    exact ⟨rfl, b1.out⟩
  have hlen0 : a0.length ≤ 1048576 := by have := hr0b hr0; omega
  clear hr0b
  go_wp2_with (fail)
  refine (szInstrS_any 0 _ A1 c1 a1 r0 _ hl1 (E1.out.below b1.out (Nat.le_refl _)) b1.out.size Z1.out (by omega) (by omega)).mono ?_
  rintro e w2 ⟨r1, rfl, hr1a, hr1b, hr1c, hb⟩
  have b2 := Lib.hid (b1.out.trans (hb.mono b1.out.size))
  have z2 := hb.size
  clear hb
  by_cases hr1 : 0 ≤ r1
  rotate_left
  · go_wp2
    go_ret
    exact ⟨rfl, b2.out⟩
  have hlen1 : a1.length ≤ 1048576 := by have := hr1b hr1; omega
  clear hr1b
  have hlen2 : a2.length ≤ 1048576 := g2
  have e1 : (R1 != R1) = false := by simp
  go_wp2_with (fail)
  refine (toInstrS_any 0 _ A0 c0 a0 _ hlen0 (E0.out.below b2.out (Nat.le_refl _)) b2.out.size).mono ?_
  rintro e w3 ⟨Ap0, cp0, rfl, ho, hb⟩
  have b3 := Lib.hid (b2.out.trans (hb.mono b2.out.size))
  have z3 := hb.size
  clear hb
  have op0 := Lib.hid ho
  clear ho
  go_wp2_with (fail)
  refine (toInstrS_any 0 _ A1 c1 a1 _ hlen1 (E1.out.below b3.out (Nat.le_refl _)) b3.out.size).mono ?_
  rintro e w4 ⟨Ap1, cp1, rfl, ho, hb⟩
  have b4 := Lib.hid (b3.out.trans (hb.mono b3.out.size))
  have z4 := hb.size
  replace op0 := Lib.hid (op0.out.chg (Chg.ofBelow (lo := 0) (hi := 0) hb) (.inr (Nat.zero_le _)))
  clear hb
  have op1 := Lib.hid ho
  clear ho
  go_wp2_with (fail)
  refine (toIntS_any 0 _ A2 c2 a2 _ hlen2 (E2.out.below b4.out (Nat.le_refl _)) b4.out.size).mono ?_
  rintro e w5 ⟨Ap2, cp2, rfl, ho, hb⟩
  have b5 := Lib.hid (b4.out.trans (hb.mono b4.out.size))
  have z5 := hb.size
  replace op0 := Lib.hid (op0.out.chg (Chg.ofBelow (lo := 0) (hi := 0) hb) (.inr (Nat.zero_le _)))
  replace op1 := Lib.hid (op1.out.chg (Chg.ofBelow (lo := 0) (hi := 0) hb) (.inr (Nat.zero_le _)))
  clear hb
  have op2 := Lib.hid ho
  clear ho
  go_wp2_with (fail)
  refine (S.out _ _ _ _ _ _ _ _ _ _ _ _ _ hlen0 (In.rs op0.out) (by omega) hlen1 (In.rs op1.out) (by omega) hlen2 (OW.rs op2.out) (by omega)).mono ?_
  rintro e w6 ⟨AW0, cW0, rfl, ho0, hb⟩
  have b6 := Lib.hid (b5.out.trans (hb.mono b5.out.size))
  have z6 := hb.size
  replace op0 := Lib.hid (op0.out.chg (Chg.ofBelow (lo := 0) (hi := 0) hb) (.inr (Nat.zero_le _)))
  replace op1 := Lib.hid (op1.out.chg (Chg.ofBelow (lo := 0) (hi := 0) hb) (.inr (Nat.zero_le _)))
  replace op2 := Lib.hid (op2.out.chg (Chg.ofBelow (lo := 0) (hi := 0) hb) (.inr (Nat.zero_le _)))
  clear hb
  have oW0 := Lib.hid ho0
  clear ho0
  go_wp2_with (fail)
  refine (toInstrS_any 0 _ A0 c0 a0 _ hlen0 (E0.out.below b6.out (Nat.le_refl _)) b6.out.size).mono ?_
  rintro e w7 ⟨Aq0, cq0, rfl, ho, hb⟩
  have b7 := Lib.hid (b6.out.trans (hb.mono b6.out.size))
  have z7 := hb.size
  replace oW0 := Lib.hid (oW0.out.chg (Chg.ofBelow (lo := 0) (hi := 0) hb) (.inr (Nat.zero_le _)))
  clear hb
  have oq0 := Lib.hid ho
  clear ho
  go_wp2_with (fail)
  refine (toInstrS_any 0 _ A1 c1 a1 _ hlen1 (E1.out.below b7.out (Nat.le_refl _)) b7.out.size).mono ?_
  rintro e w8 ⟨Aq1, cq1, rfl, ho, hb⟩
  have b8 := Lib.hid (b7.out.trans (hb.mono b7.out.size))
  have z8 := hb.size
  replace oW0 := Lib.hid (oW0.out.chg (Chg.ofBelow (lo := 0) (hi := 0) hb) (.inr (Nat.zero_le _)))
  replace oq0 := Lib.hid (oq0.out.chg (Chg.ofBelow (lo := 0) (hi := 0) hb) (.inr (Nat.zero_le _)))
  clear hb
  have oq1 := Lib.hid ho
  clear ho
  go_wp2_with (fail)
  refine (toIntS_any 0 _ A2 c2 a2 _ hlen2 (E2.out.below b8.out (Nat.le_refl _)) b8.out.size).mono ?_
  rintro e w9 ⟨Aq2, cq2, rfl, ho, hb⟩
  have b9 := Lib.hid (b8.out.trans (hb.mono b8.out.size))
  have z9 := hb.size
  replace oW0 := Lib.hid (oW0.out.chg (Chg.ofBelow (lo := 0) (hi := 0) hb) (.inr (Nat.zero_le _)))
  replace oq0 := Lib.hid (oq0.out.chg (Chg.ofBelow (lo := 0) (hi := 0) hb) (.inr (Nat.zero_le _)))
  replace oq1 := Lib.hid (oq1.out.chg (Chg.ofBelow (lo := 0) (hi := 0) hb) (.inr (Nat.zero_le _)))
  clear hb
  have oq2 := Lib.hid ho
  clear ho
  go_wp2_with (fail)
  refine (I.out _ _ _ _ _ _ _ _ _ _ _ _ _ hlen0 (In.rs oq0.out) (by omega) hlen1 (In.rs oq1.out) (by omega) hlen2 (OW.rs oq2.out) (by omega)).mono ?_
  rintro e w10 ⟨AG0, cG0, rfl, ho0, hb⟩
  have b10 := Lib.hid (b9.out.trans (hb.mono b9.out.size))
  have z10 := hb.size
  replace oW0 := Lib.hid (oW0.out.chg (Chg.ofBelow (lo := 0) (hi := 0) hb) (.inr (Nat.zero_le _)))
  replace oq0 := Lib.hid (oq0.out.chg (Chg.ofBelow (lo := 0) (hi := 0) hb) (.inr (Nat.zero_le _)))
  replace oq1 := Lib.hid (oq1.out.chg (Chg.ofBelow (lo := 0) (hi := 0) hb) (.inr (Nat.zero_le _)))
  replace oq2 := Lib.hid (oq2.out.chg (Chg.ofBelow (lo := 0) (hi := 0) hb) (.inr (Nat.zero_le _)))
  clear hb
  have oG0 := Lib.hid ho0
  clear ho0
  go_wp2_with (fail)
  refine (eqIntS_any _ _ _ _ _ _ _ _ _ _ R0 R0 _ rfl rfl hR0 (OW.rs oG0.out) (OW.rs oW0.out) (by omega) (by omega) rfl).mono ?_
  rintro e w11 ⟨rfl, hb⟩
  have b11 := Lib.hid (b10.out.trans (hb.mono b10.out.size))
  have z11 := hb.size
  replace oW0 := Lib.hid (oW0.out.chg (Chg.ofBelow (lo := 0) (hi := 0) hb) (.inr (Nat.zero_le _)))
  replace oq0 := Lib.hid (oq0.out.chg (Chg.ofBelow (lo := 0) (hi := 0) hb) (.inr (Nat.zero_le _)))
  replace oq1 := Lib.hid (oq1.out.chg (Chg.ofBelow (lo := 0) (hi := 0) hb) (.inr (Nat.zero_le _)))
  replace oq2 := Lib.hid (oq2.out.chg (Chg.ofBelow (lo := 0) (hi := 0) hb) (.inr (Nat.zero_le _)))
  replace oG0 := Lib.hid (oG0.out.chg (Chg.ofBelow (lo := 0) (hi := 0) hb) (.inr (Nat.zero_le _)))
  clear hb
  go_wp2_with (fail)
  refine (toInstrS_any 0 _ A0 c0 a0 _ hlen0 (E0.out.below b11.out (Nat.le_refl _)) b11.out.size).mono ?_
  rintro e w12 ⟨As0, cs0, rfl, ho, hb⟩
  have b12 := Lib.hid (b11.out.trans (hb.mono b11.out.size))
  have z12 := hb.size
  replace oW0 := Lib.hid (oW0.out.chg (Chg.ofBelow (lo := 0) (hi := 0) hb) (.inr (Nat.zero_le _)))
  replace oq0 := Lib.hid (oq0.out.chg (Chg.ofBelow (lo := 0) (hi := 0) hb) (.inr (Nat.zero_le _)))
  replace oq1 := Lib.hid (oq1.out.chg (Chg.ofBelow (lo := 0) (hi := 0) hb) (.inr (Nat.zero_le _)))
  replace oq2 := Lib.hid (oq2.out.chg (Chg.ofBelow (lo := 0) (hi := 0) hb) (.inr (Nat.zero_le _)))
  replace oG0 := Lib.hid (oG0.out.chg (Chg.ofBelow (lo := 0) (hi := 0) hb) (.inr (Nat.zero_le _)))
  clear hb
  have os0 := Lib.hid ho
  clear ho
  go_wp2_with (fail)
  refine (eqInstrS_any _ _ _ _ _ _ _ _ _ _ a0 a0 _ rfl rfl hlen0 (In.rs oq0.out) (In.rs os0.out) (by omega) (by omega) rfl).mono ?_
  rintro e w13 ⟨rfl, hb⟩
  have b13 := Lib.hid (b12.out.trans (hb.mono b12.out.size))
  have z13 := hb.size
  replace oW0 := Lib.hid (oW0.out.chg (Chg.ofBelow (lo := 0) (hi := 0) hb) (.inr (Nat.zero_le _)))
  replace oq0 := Lib.hid (oq0.out.chg (Chg.ofBelow (lo := 0) (hi := 0) hb) (.inr (Nat.zero_le _)))
  replace oq1 := Lib.hid (oq1.out.chg (Chg.ofBelow (lo := 0) (hi := 0) hb) (.inr (Nat.zero_le _)))
  replace oq2 := Lib.hid (oq2.out.chg (Chg.ofBelow (lo := 0) (hi := 0) hb) (.inr (Nat.zero_le _)))
  replace oG0 := Lib.hid (oG0.out.chg (Chg.ofBelow (lo := 0) (hi := 0) hb) (.inr (Nat.zero_le _)))
  replace os0 := Lib.hid (os0.out.chg (Chg.ofBelow (lo := 0) (hi := 0) hb) (.inr (Nat.zero_le _)))
  clear hb
  go_wp2_with (fail)
  refine (toInstrS_any 0 _ A1 c1 a1 _ hlen1 (E1.out.below b13.out (Nat.le_refl _)) b13.out.size).mono ?_
  rintro e w14 ⟨As1, cs1, rfl, ho, hb⟩
  have b14 := Lib.hid (b13.out.trans (hb.mono b13.out.size))
  have z14 := hb.size
  replace oW0 := Lib.hid (oW0.out.chg (Chg.ofBelow (lo := 0) (hi := 0) hb) (.inr (Nat.zero_le _)))
  replace oq0 := Lib.hid (oq0.out.chg (Chg.ofBelow (lo := 0) (hi := 0) hb) (.inr (Nat.zero_le _)))
  replace oq1 := Lib.hid (oq1.out.chg (Chg.ofBelow (lo := 0) (hi := 0) hb) (.inr (Nat.zero_le _)))
  replace oq2 := Lib.hid (oq2.out.chg (Chg.ofBelow (lo := 0) (hi := 0) hb) (.inr (Nat.zero_le _)))
  replace oG0 := Lib.hid (oG0.out.chg (Chg.ofBelow (lo := 0) (hi := 0) hb) (.inr (Nat.zero_le _)))
  clear hb
  have os1 := Lib.hid ho
  clear ho
  go_wp2_with (fail)
  refine (eqInstrS_any _ _ _ _ _ _ _ _ _ _ a1 a1 _ rfl rfl hlen1 (In.rs oq1.out) (In.rs os1.out) (by omega) (by omega) rfl).mono ?_
  rintro e w15 ⟨rfl, hb⟩
  have b15 := Lib.hid (b14.out.trans (hb.mono b14.out.size))
  have z15 := hb.size
  replace oW0 := Lib.hid (oW0.out.chg (Chg.ofBelow (lo := 0) (hi := 0) hb) (.inr (Nat.zero_le _)))
  replace oq0 := Lib.hid (oq0.out.chg (Chg.ofBelow (lo := 0) (hi := 0) hb) (.inr (Nat.zero_le _)))
  replace oq1 := Lib.hid (oq1.out.chg (Chg.ofBelow (lo := 0) (hi := 0) hb) (.inr (Nat.zero_le _)))
  replace oq2 := Lib.hid (oq2.out.chg (Chg.ofBelow (lo := 0) (hi := 0) hb) (.inr (Nat.zero_le _)))
  replace oG0 := Lib.hid (oG0.out.chg (Chg.ofBelow (lo := 0) (hi := 0) hb) (.inr (Nat.zero_le _)))
  replace os1 := Lib.hid (os1.out.chg (Chg.ofBelow (lo := 0) (hi := 0) hb) (.inr (Nat.zero_le _)))
  clear hb
  go_wp2_with (fail)
  refine (toIntS_any 0 _ A2 c2 a2 _ hlen2 (E2.out.below b15.out (Nat.le_refl _)) b15.out.size).mono ?_
  rintro e w16 ⟨As2, cs2, rfl, ho, hb⟩
  have b16 := Lib.hid (b15.out.trans (hb.mono b15.out.size))
  have z16 := hb.size
  replace oW0 := Lib.hid (oW0.out.chg (Chg.ofBelow (lo := 0) (hi := 0) hb) (.inr (Nat.zero_le _)))
  replace oq0 := Lib.hid (oq0.out.chg (Chg.ofBelow (lo := 0) (hi := 0) hb) (.inr (Nat.zero_le _)))
  replace oq1 := Lib.hid (oq1.out.chg (Chg.ofBelow (lo := 0) (hi := 0) hb) (.inr (Nat.zero_le _)))
  replace oq2 := Lib.hid (oq2.out.chg (Chg.ofBelow (lo := 0) (hi := 0) hb) (.inr (Nat.zero_le _)))
  replace oG0 := Lib.hid (oG0.out.chg (Chg.ofBelow (lo := 0) (hi := 0) hb) (.inr (Nat.zero_le _)))
  clear hb
  have os2 := Lib.hid ho
  clear ho
  go_wp2_with (fail)
  refine (eqIntS_any _ _ _ _ _ _ _ _ _ _ a2 a2 _ rfl rfl hlen2 (OW.rs oq2.out) (OW.rs os2.out) (by omega) (by omega) rfl).mono ?_
  rintro e w17 ⟨rfl, hb⟩
  have b17 := Lib.hid (b16.out.trans (hb.mono b16.out.size))
  have z17 := hb.size
  replace oW0 := Lib.hid (oW0.out.chg (Chg.ofBelow (lo := 0) (hi := 0) hb) (.inr (Nat.zero_le _)))
  replace oq0 := Lib.hid (oq0.out.chg (Chg.ofBelow (lo := 0) (hi := 0) hb) (.inr (Nat.zero_le _)))
  replace oq1 := Lib.hid (oq1.out.chg (Chg.ofBelow (lo := 0) (hi := 0) hb) (.inr (Nat.zero_le _)))
  replace oq2 := Lib.hid (oq2.out.chg (Chg.ofBelow (lo := 0) (hi := 0) hb) (.inr (Nat.zero_le _)))
  replace oG0 := Lib.hid (oG0.out.chg (Chg.ofBelow (lo := 0) (hi := 0) hb) (.inr (Nat.zero_le _)))
  replace os2 := Lib.hid (os2.out.chg (Chg.ofBelow (lo := 0) (hi := 0) hb) (.inr (Nat.zero_le _)))
  clear hb
  go_wp2_with (fail)
  refine (markInstrS_any _ _ _ _ a0 (1) _ hlen0 (by omega) (by omega) oq0.out).mono ?_
  rintro e w18 ⟨rfl, _, hc⟩
  have b18 := Lib.hid (below_chg b17.out hc b17.out.size (by omega))
  have z18 := hc.size
  replace oW0 := Lib.hid (oW0.out.chg hc (by omega))
  replace oq1 := Lib.hid (oq1.out.chg hc (by omega))
  replace oq2 := Lib.hid (oq2.out.chg hc (by omega))
  replace oG0 := Lib.hid (oG0.out.chg hc (by omega))
  clear hc
  go_wp2_with (fail)
  refine (markInstrS_any _ _ _ _ a1 (1 + 5 * (a0.length : Int)) _ hlen1 (by omega) (by omega) oq1.out).mono ?_
  rintro e w19 ⟨rfl, _, hc⟩
  have b19 := Lib.hid (below_chg b18.out hc b18.out.size (by omega))
  have z19 := hc.size
  replace oW0 := Lib.hid (oW0.out.chg hc (by omega))
  replace oq2 := Lib.hid (oq2.out.chg hc (by omega))
  replace oG0 := Lib.hid (oG0.out.chg hc (by omega))
  clear hc
  go_wp2_with (fail)
  refine (markIntS_c _ _ _ _ a2 (1 + 5 * (a0.length : Int) + 5 * (a1.length : Int)) _ hlen2 (by omega) (by omega) oq2.out).mono ?_
  rintro e w20 ⟨rfl, _, hc⟩
  have b20 := Lib.hid (below_chg b19.out hc b19.out.size (by omega))
  have z20 := hc.size
  replace oW0 := Lib.hid (oW0.out.chg hc (by omega))
  replace oG0 := Lib.hid (oG0.out.chg hc (by omega))
  clear hc
  have hk : (0 : Int) ≤ 1 + 5 * (a0.length : Int) + 5 * (a1.length : Int) + (a2.length : Int) := by omega
  go_wp2_with (fail)
  refine (eqIntS_any _ _ _ _ _ _ _ _ _ _ R0 R0 _ rfl rfl hR0 (OW.rs oG0.out) (OW.rs oW0.out) (by omega) (by omega) rfl).mono ?_
  rintro e w21 ⟨rfl, hb⟩
  have b21 := Lib.hid (b20.out.trans (hb.mono b20.out.size))
  have z21 := hb.size
  replace oW0 := Lib.hid (oW0.out.chg (Chg.ofBelow (lo := 0) (hi := 0) hb) (.inr (Nat.zero_le _)))
  replace oG0 := Lib.hid (oG0.out.chg (Chg.ofBelow (lo := 0) (hi := 0) hb) (.inr (Nat.zero_le _)))
  clear hb
  go_wp2_with (fail)
  refine (markIntS_c _ _ _ _ R0 (1) _ hR0 (by omega) (by omega) oG0.out).mono ?_
  rintro e w22 ⟨rfl, ho, hc⟩
  have b22 := Lib.hid (below_chg b21.out hc b21.out.size (by omega))
  have z22 := hc.size
  replace oW0 := Lib.hid (oW0.out.chg hc (by omega))
  clear hc
  replace oG0 := Lib.hid ho
  clear ho
  have hq : (0 : Int) ≤ 1 + (R0.length : Int) := by omega
  go_wp2_with (fail)
  refine (heldIntS_any _ _ _ _ _ 1 _ hR0 (by omega) (by omega) (OW.rs oG0.out) ).mono ?_
  rintro e w_ ⟨rfl, rfl⟩
  go_wp2_with (fail)
  refine (toInstrS_any 0 _ A0 c0 a0 _ hlen0 (E0.out.below b22.out (Nat.le_refl _)) b22.out.size).mono ?_
  rintro e w23 ⟨Ah0, ch0, rfl, ho, hb⟩
  have b23 := Lib.hid (b22.out.trans (hb.mono b22.out.size))
  have z23 := hb.size
  replace oW0 := Lib.hid (oW0.out.chg (Chg.ofBelow (lo := 0) (hi := 0) hb) (.inr (Nat.zero_le _)))
  replace oG0 := Lib.hid (oG0.out.chg (Chg.ofBelow (lo := 0) (hi := 0) hb) (.inr (Nat.zero_le _)))
  clear hb
  have oh0 := Lib.hid ho
  clear ho
  go_wp2_with (fail)
  refine (toInstrS_any 0 _ A1 c1 a1 _ hlen1 (E1.out.below b23.out (Nat.le_refl _)) b23.out.size).mono ?_
  rintro e w24 ⟨Ah1, ch1, rfl, ho, hb⟩
  have b24 := Lib.hid (b23.out.trans (hb.mono b23.out.size))
  have z24 := hb.size
  replace oW0 := Lib.hid (oW0.out.chg (Chg.ofBelow (lo := 0) (hi := 0) hb) (.inr (Nat.zero_le _)))
  replace oG0 := Lib.hid (oG0.out.chg (Chg.ofBelow (lo := 0) (hi := 0) hb) (.inr (Nat.zero_le _)))
  replace oh0 := Lib.hid (oh0.out.chg (Chg.ofBelow (lo := 0) (hi := 0) hb) (.inr (Nat.zero_le _)))
  clear hb
  have oh1 := Lib.hid ho
  clear ho
  go_wp2_with (fail)
  refine (toIntS_any 0 _ A2 c2 a2 _ hlen2 (E2.out.below b24.out (Nat.le_refl _)) b24.out.size).mono ?_
  rintro e w25 ⟨Ah2, ch2, rfl, ho, hb⟩
  have b25 := Lib.hid (b24.out.trans (hb.mono b24.out.size))
  have z25 := hb.size
  replace oW0 := Lib.hid (oW0.out.chg (Chg.ofBelow (lo := 0) (hi := 0) hb) (.inr (Nat.zero_le _)))
  replace oG0 := Lib.hid (oG0.out.chg (Chg.ofBelow (lo := 0) (hi := 0) hb) (.inr (Nat.zero_le _)))
  replace oh0 := Lib.hid (oh0.out.chg (Chg.ofBelow (lo := 0) (hi := 0) hb) (.inr (Nat.zero_le _)))
  replace oh1 := Lib.hid (oh1.out.chg (Chg.ofBelow (lo := 0) (hi := 0) hb) (.inr (Nat.zero_le _)))
  clear hb
  have oh2 := Lib.hid ho
  clear ho
  go_wp2_with (fail)
  refine (I.out _ _ _ _ _ _ _ _ _ _ _ _ _ hlen0 (In.rs oh0.out) (by omega) hlen1 (In.rs oh1.out) (by omega) hlen2 (OW.rs oh2.out) (by omega)).mono ?_
  rintro e w26 ⟨AH0, cH0, rfl, ho0, hb⟩
  have b26 := Lib.hid (b25.out.trans (hb.mono b25.out.size))
  have z26 := hb.size
  replace oW0 := Lib.hid (oW0.out.chg (Chg.ofBelow (lo := 0) (hi := 0) hb) (.inr (Nat.zero_le _)))
  replace oG0 := Lib.hid (oG0.out.chg (Chg.ofBelow (lo := 0) (hi := 0) hb) (.inr (Nat.zero_le _)))
  replace oh0 := Lib.hid (oh0.out.chg (Chg.ofBelow (lo := 0) (hi := 0) hb) (.inr (Nat.zero_le _)))
  replace oh1 := Lib.hid (oh1.out.chg (Chg.ofBelow (lo := 0) (hi := 0) hb) (.inr (Nat.zero_le _)))
  replace oh2 := Lib.hid (oh2.out.chg (Chg.ofBelow (lo := 0) (hi := 0) hb) (.inr (Nat.zero_le _)))
  clear hb
  have oH0 := Lib.hid ho0
  clear ho0
  go_wp2_with (fail)
  refine (eqIntS_any _ _ _ _ _ _ _ _ _ _ R0 R0 _ rfl rfl hR0 (OW.rs oH0.out) (OW.rs oW0.out) (by omega) (by omega) rfl).mono ?_
  rintro e w27 ⟨rfl, hb⟩
  have b27 := Lib.hid (b26.out.trans (hb.mono b26.out.size))
  have z27 := hb.size
  replace oW0 := Lib.hid (oW0.out.chg (Chg.ofBelow (lo := 0) (hi := 0) hb) (.inr (Nat.zero_le _)))
  replace oG0 := Lib.hid (oG0.out.chg (Chg.ofBelow (lo := 0) (hi := 0) hb) (.inr (Nat.zero_le _)))
  replace oh0 := Lib.hid (oh0.out.chg (Chg.ofBelow (lo := 0) (hi := 0) hb) (.inr (Nat.zero_le _)))
  replace oh1 := Lib.hid (oh1.out.chg (Chg.ofBelow (lo := 0) (hi := 0) hb) (.inr (Nat.zero_le _)))
  replace oh2 := Lib.hid (oh2.out.chg (Chg.ofBelow (lo := 0) (hi := 0) hb) (.inr (Nat.zero_le _)))
  replace oH0 := Lib.hid (oH0.out.chg (Chg.ofBelow (lo := 0) (hi := 0) hb) (.inr (Nat.zero_le _)))
  clear hb
  go_wp2_with (fail)
  refine (heldIntS_any _ _ _ _ _ 1 _ hR0 (by omega) (by omega) (OW.rs oG0.out) ).mono ?_
  rintro e w_ ⟨rfl, rfl⟩
  go_wp2
  go_ret
  exact ⟨rfl, b27.out⟩

def ResReachedWords (R0 : List (Int)) (R1 : Bool) (w : World) (e : Ending) (w' : World) : Prop := ∃ (A0 : Option Addr) (c0 : Nat), e = .returned (.tuple #[.slice A0 R0.length c0, .bool R1]) ∧ OW w' w.heap.size w'.heap.size (.slice A0 R0.length c0) R0 ∧ Below w.heap.size w w'
set_option maxHeartbeats 4000000 in
theorem lawReachedWords (A0 : Option Addr) (c0 : Nat) (a0 : List In) (a1 : Int) (w : World) (hl0 : a0.length ≤ 9223372036854775807) (h0 : RS In.enc 5 w 0 w.heap.size A0 a0) (hs0 : ∀ n ∈ a0, n.op.size ≤ 9223372036854775807) (R0 : List (Int)) (R1 : Bool) (hR0 : R0.length ≤ 1048576)
    (hS : ∀ (L0 B0 : Nat) (A0 : Option Addr) (c0 : Nat) (w : World), a0.length ≤ 1048576 → RS In.enc 5 w L0 B0 A0 a0 → B0 ≤ w.heap.size → Calls Try.prog 63 #[.slice A0 a0.length c0, .int .i64 a1] w (ResReachedWords R0 R1 w))
    (hI : ∀ (L0 B0 : Nat) (A0 : Option Addr) (c0 : Nat) (w : World), a0.length ≤ 1048576 → RS In.enc 5 w L0 B0 A0 a0 → B0 ≤ w.heap.size → Calls Try.prog 64 #[.slice A0 a0.length c0, .int .i64 a1] w (ResReachedWords R0 R1 w)) :
    Calls Try.prog 16 #[.slice A0 a0.length c0, .int .i64 a1] w fun e w' => e = .returned (.bool true) ∧ Below w.heap.size w w' := by
  have S := Lib.hid hS
  have I := Lib.hid hI
  have E0 := Lib.hid h0
  have Z0 := Lib.hid hs0
  clear hS hI h0 hs0
  have b0 := Lib.hid (Below.refl w.heap.size w)
  go_enter Try.func16, Try.ntmps16
  go_wp2_with (fail)
  refine (szInstrS_any 0 _ A0 c0 a0 1048576 _ hl0 (E0.out.below b0.out (Nat.le_refl _)) b0.out.size Z0.out (by omega) (by omega)).mono ?_
  rintro e w1 ⟨r0, rfl, hr0a, hr0b, hr0c, hb⟩
  have b1 := Lib.hid (b0.out.trans (hb.mono b0.out.size))
  have z1 := hb.size
  clear hb
  by_cases hr0 : 0 ≤ r0
  rotate_left
  · go_wp2
    go_ret
    exact ⟨rfl, b1.out⟩
  have hlen0 : a0.length ≤ 1048576 := by have := hr0b hr0; omega
  clear hr0b
  have e1 : (R1 != R1) = false := by simp
  go_wp2_with (fail)
  refine (toInstrS_any 0 _ A0 c0 a0 _ hlen0 (E0.out.below b1.out (Nat.le_refl _)) b1.out.size).mono ?_
  rintro e w2 ⟨Ap0, cp0, rfl, ho, hb⟩
  have b2 := Lib.hid (b1.out.trans (hb.mono b1.out.size))
  have z2 := hb.size
  clear hb
  have op0 := Lib.hid ho
  clear ho
  go_wp2_with (fail)
  refine (S.out _ _ _ _ _ hlen0 (In.rs op0.out) (by omega)).mono ?_
  rintro e w3 ⟨AW0, cW0, rfl, ho0, hb⟩
  have b3 := Lib.hid (b2.out.trans (hb.mono b2.out.size))
  have z3 := hb.size
  replace op0 := Lib.hid (op0.out.chg (Chg.ofBelow (lo := 0) (hi := 0) hb) (.inr (Nat.zero_le _)))
  clear hb
  have oW0 := Lib.hid ho0
  clear ho0
  go_wp2_with (fail)
  refine (toInstrS_any 0 _ A0 c0 a0 _ hlen0 (E0.out.below b3.out (Nat.le_refl _)) b3.out.size).mono ?_
  rintro e w4 ⟨Aq0, cq0, rfl, ho, hb⟩
  have b4 := Lib.hid (b3.out.trans (hb.mono b3.out.size))
  have z4 := hb.size
  replace oW0 := Lib.hid (oW0.out.chg (Chg.ofBelow (lo := 0) (hi := 0) hb) (.inr (Nat.zero_le _)))
  clear hb
  have oq0 := Lib.hid ho
  clear ho
  go_wp2_with (fail)
  refine (I.out _ _ _ _ _ hlen0 (In.rs oq0.out) (by omega)).mono ?_
  rintro e w5 ⟨AG0, cG0, rfl, ho0, hb⟩
  have b5 := Lib.hid (b4.out.trans (hb.mono b4.out.size))
  have z5 := hb.size
  replace oW0 := Lib.hid (oW0.out.chg (Chg.ofBelow (lo := 0) (hi := 0) hb) (.inr (Nat.zero_le _)))
  replace oq0 := Lib.hid (oq0.out.chg (Chg.ofBelow (lo := 0) (hi := 0) hb) (.inr (Nat.zero_le _)))
  clear hb
  have oG0 := Lib.hid ho0
  clear ho0
  go_wp2_with (fail)
  refine (eqIntS_any _ _ _ _ _ _ _ _ _ _ R0 R0 _ rfl rfl hR0 (OW.rs oG0.out) (OW.rs oW0.out) (by omega) (by omega) rfl).mono ?_
  rintro e w6 ⟨rfl, hb⟩
  have b6 := Lib.hid (b5.out.trans (hb.mono b5.out.size))
  have z6 := hb.size
  replace oW0 := Lib.hid (oW0.out.chg (Chg.ofBelow (lo := 0) (hi := 0) hb) (.inr (Nat.zero_le _)))
  replace oq0 := Lib.hid (oq0.out.chg (Chg.ofBelow (lo := 0) (hi := 0) hb) (.inr (Nat.zero_le _)))
  replace oG0 := Lib.hid (oG0.out.chg (Chg.ofBelow (lo := 0) (hi := 0) hb) (.inr (Nat.zero_le _)))
  clear hb
  go_wp2_with (fail)
  refine (toInstrS_any 0 _ A0 c0 a0 _ hlen0 (E0.out.below b6.out (Nat.le_refl _)) b6.out.size).mono ?_
  rintro e w7 ⟨As0, cs0, rfl, ho, hb⟩
  have b7 := Lib.hid (b6.out.trans (hb.mono b6.out.size))
  have z7 := hb.size
  replace oW0 := Lib.hid (oW0.out.chg (Chg.ofBelow (lo := 0) (hi := 0) hb) (.inr (Nat.zero_le _)))
  replace oq0 := Lib.hid (oq0.out.chg (Chg.ofBelow (lo := 0) (hi := 0) hb) (.inr (Nat.zero_le _)))
  replace oG0 := Lib.hid (oG0.out.chg (Chg.ofBelow (lo := 0) (hi := 0) hb) (.inr (Nat.zero_le _)))
  clear hb
  have os0 := Lib.hid ho
  clear ho
  go_wp2_with (fail)
  refine (eqInstrS_any _ _ _ _ _ _ _ _ _ _ a0 a0 _ rfl rfl hlen0 (In.rs oq0.out) (In.rs os0.out) (by omega) (by omega) rfl).mono ?_
  rintro e w8 ⟨rfl, hb⟩
  have b8 := Lib.hid (b7.out.trans (hb.mono b7.out.size))
  have z8 := hb.size
  replace oW0 := Lib.hid (oW0.out.chg (Chg.ofBelow (lo := 0) (hi := 0) hb) (.inr (Nat.zero_le _)))
  replace oq0 := Lib.hid (oq0.out.chg (Chg.ofBelow (lo := 0) (hi := 0) hb) (.inr (Nat.zero_le _)))
  replace oG0 := Lib.hid (oG0.out.chg (Chg.ofBelow (lo := 0) (hi := 0) hb) (.inr (Nat.zero_le _)))
  replace os0 := Lib.hid (os0.out.chg (Chg.ofBelow (lo := 0) (hi := 0) hb) (.inr (Nat.zero_le _)))
  clear hb
  go_wp2_with (fail)
  refine (markInstrS_any _ _ _ _ a0 (1) _ hlen0 (by omega) (by omega) oq0.out).mono ?_
  rintro e w9 ⟨rfl, _, hc⟩
  have b9 := Lib.hid (below_chg b8.out hc b8.out.size (by omega))
  have z9 := hc.size
  replace oW0 := Lib.hid (oW0.out.chg hc (by omega))
  replace oG0 := Lib.hid (oG0.out.chg hc (by omega))
  clear hc
  have hk : (0 : Int) ≤ 1 + 5 * (a0.length : Int) := by omega
  go_wp2_with (fail)
  refine (eqIntS_any _ _ _ _ _ _ _ _ _ _ R0 R0 _ rfl rfl hR0 (OW.rs oG0.out) (OW.rs oW0.out) (by omega) (by omega) rfl).mono ?_
  rintro e w10 ⟨rfl, hb⟩
  have b10 := Lib.hid (b9.out.trans (hb.mono b9.out.size))
  have z10 := hb.size
  replace oW0 := Lib.hid (oW0.out.chg (Chg.ofBelow (lo := 0) (hi := 0) hb) (.inr (Nat.zero_le _)))
  replace oG0 := Lib.hid (oG0.out.chg (Chg.ofBelow (lo := 0) (hi := 0) hb) (.inr (Nat.zero_le _)))
  clear hb
  go_wp2_with (fail)
  refine (markIntS_c _ _ _ _ R0 (1) _ hR0 (by omega) (by omega) oG0.out).mono ?_
  rintro e w11 ⟨rfl, ho, hc⟩
  have b11 := Lib.hid (below_chg b10.out hc b10.out.size (by omega))
  have z11 := hc.size
  replace oW0 := Lib.hid (oW0.out.chg hc (by omega))
  clear hc
  replace oG0 := Lib.hid ho
  clear ho
  have hq : (0 : Int) ≤ 1 + (R0.length : Int) := by omega
  go_wp2_with (fail)
  refine (heldIntS_any _ _ _ _ _ 1 _ hR0 (by omega) (by omega) (OW.rs oG0.out) ).mono ?_
  rintro e w_ ⟨rfl, rfl⟩
  go_wp2_with (fail)
  refine (toInstrS_any 0 _ A0 c0 a0 _ hlen0 (E0.out.below b11.out (Nat.le_refl _)) b11.out.size).mono ?_
  rintro e w12 ⟨Ah0, ch0, rfl, ho, hb⟩
  have b12 := Lib.hid (b11.out.trans (hb.mono b11.out.size))
  have z12 := hb.size
  replace oW0 := Lib.hid (oW0.out.chg (Chg.ofBelow (lo := 0) (hi := 0) hb) (.inr (Nat.zero_le _)))
  replace oG0 := Lib.hid (oG0.out.chg (Chg.ofBelow (lo := 0) (hi := 0) hb) (.inr (Nat.zero_le _)))
  clear hb
  have oh0 := Lib.hid ho
  clear ho
  go_wp2_with (fail)
  refine (I.out _ _ _ _ _ hlen0 (In.rs oh0.out) (by omega)).mono ?_
  rintro e w13 ⟨AH0, cH0, rfl, ho0, hb⟩
  have b13 := Lib.hid (b12.out.trans (hb.mono b12.out.size))
  have z13 := hb.size
  replace oW0 := Lib.hid (oW0.out.chg (Chg.ofBelow (lo := 0) (hi := 0) hb) (.inr (Nat.zero_le _)))
  replace oG0 := Lib.hid (oG0.out.chg (Chg.ofBelow (lo := 0) (hi := 0) hb) (.inr (Nat.zero_le _)))
  replace oh0 := Lib.hid (oh0.out.chg (Chg.ofBelow (lo := 0) (hi := 0) hb) (.inr (Nat.zero_le _)))
  clear hb
  have oH0 := Lib.hid ho0
  clear ho0
  go_wp2_with (fail)
  refine (eqIntS_any _ _ _ _ _ _ _ _ _ _ R0 R0 _ rfl rfl hR0 (OW.rs oH0.out) (OW.rs oW0.out) (by omega) (by omega) rfl).mono ?_
  rintro e w14 ⟨rfl, hb⟩
  have b14 := Lib.hid (b13.out.trans (hb.mono b13.out.size))
  have z14 := hb.size
  replace oW0 := Lib.hid (oW0.out.chg (Chg.ofBelow (lo := 0) (hi := 0) hb) (.inr (Nat.zero_le _)))
  replace oG0 := Lib.hid (oG0.out.chg (Chg.ofBelow (lo := 0) (hi := 0) hb) (.inr (Nat.zero_le _)))
  replace oh0 := Lib.hid (oh0.out.chg (Chg.ofBelow (lo := 0) (hi := 0) hb) (.inr (Nat.zero_le _)))
  replace oH0 := Lib.hid (oH0.out.chg (Chg.ofBelow (lo := 0) (hi := 0) hb) (.inr (Nat.zero_le _)))
  clear hb
  go_wp2_with (fail)
  refine (heldIntS_any _ _ _ _ _ 1 _ hR0 (by omega) (by omega) (OW.rs oG0.out) ).mono ?_
  rintro e w_ ⟨rfl, rfl⟩
  go_wp2
  go_ret
  exact ⟨rfl, b14.out⟩
end Go.Proofs.Ythjfedidpjfboaa

/- An own slice's length is within its capacity. -/
namespace Go.Proofs.Ythjfedidpjfboaa
open Go.RowKit
theorem OK.cap {α : Type} {enc : α → List Value} {k : Nat} {t : TypeId} {w : World} {lo hi n c : Nat} {A : Option Addr} {xs : List α} (h : OK enc k t w lo hi (.slice A n c) xs) : n ≤ c := by
  rcases h.1.2 with ⟨hv, _⟩ | ⟨g, cap, cur, hv, _, _, h1, _⟩
  · injection hv with _ h2 h3; omega
  · injection hv with _ h2 h3; omega
end Go.Proofs.Ythjfedidpjfboaa

/- (*swapper).swap of the program. -/
namespace Go.Proofs.Ythjfedidpjfboaa
open Go.RowKit
set_option linter.unusedVariables false
set_option maxRecDepth 100000

theorem grownBy_setCell1 (W : World) (b : Nat) (v : Value) : W.grownBy (W.setCell ⟨b, 1, none⟩ v) (some b) :=
  ⟨rfl, rfl, rfl, (KeepsWalks.setCell W _ v).size, fun k _ hk => Below.heap_setCell _ _ _ k (fun e => hk (by rw [e]))⟩
theorem own_ne_cb {w : World} {base size m b : Nat} {e t : TypeId} {v : Value} {cur xs : List Value} (h : w.ownsRow base e size v m xs) (hb : CB t w b cur) (hne : e ≠ t) : v.ownBlock ≠ some b := by
  intro hv
  rcases h.2 with ⟨rfl, _⟩ | ⟨g, cap, cur', rfl, _, hh, _⟩
  · simp [Value.ownBlock] at hv
  · have e1 : g = b := by simpa [Value.ownBlock] using hv
    subst e1
    unfold CB at hb
    rw [hh] at hb
    injection hb with hb
    injection hb with _ h9
    exact hne h9
theorem row_ne2 {w : World} {L1 L2 k1 k2 n1 n2 : Nat} {t1 t2 : TypeId} {v1 v2 : Value} {x1 x2 : List Value} (h1 : w.ownsRow L1 t1 k1 v1 n1 x1) (h2 : w.ownsRow L2 t2 k2 v2 n2 x2) (ht : t1 ≠ t2) : ∀ j, v1.ownBlock = some j → v2.ownBlock ≠ some j := by
  intro j e1 e2
  rcases h1.2 with ⟨rfl, _⟩ | ⟨g, cap, cur, rfl, _, hh, _⟩
  · simp [Value.ownBlock] at e1
  · rcases h2.2 with ⟨rfl, _⟩ | ⟨g', cap', cur', rfl, _, hh', _⟩
    · simp [Value.ownBlock] at e2
    · have a1 : g = j := by simpa [Value.ownBlock] using e1
      have a2 : g' = j := by simpa [Value.ownBlock] using e2
      subst a1; subst a2
      rw [hh] at hh'; injection hh' with hh'; injection hh' with _ h9
      exact ht h9
/-- Code that is read: an argument's (below n0), or one of the call's own. -/
def CodeAt (w : World) (n0 : Nat) (o : Bool) (V : Value) (es : List In) : Prop := ∃ A c, V = .slice A es.length c ∧ es.length ≤ c ∧ ((o = false ∧ RS In.enc 5 w 0 n0 A es) ∨ OK In.enc 5 90 w n0 w.heap.size V es)
theorem CodeAt.form {w : World} {n0 : Nat} {o : Bool} {V : Value} {es : List In} (h : CodeAt w n0 o V es) (hn : n0 ≤ w.heap.size) : ∃ A c, V = .slice A es.length c ∧ RS In.enc 5 w 0 w.heap.size A es ∧ es.length ≤ c := by
  obtain ⟨A, c, rfl, hcap, ⟨ho, h⟩ | h⟩ := h
  · exact ⟨A, c, rfl, h.more (Nat.le_refl _) hn, hcap⟩
  · obtain ⟨A', c', e, hr⟩ := h.form In.hk
    injection e with e1 e2 e3
    subst e1
    exact ⟨A, c, rfl, hr.more (Nat.zero_le _) (Nat.le_refl _), hcap⟩
theorem CodeAt.own {w : World} {n0 : Nat} {V : Value} {es : List In} (h : CodeAt w n0 true V es) : ∃ A c, V = .slice A es.length c ∧ OK In.enc 5 90 w n0 w.heap.size V es := by
  obtain ⟨A, c, rfl, hcap, ⟨ho, h⟩ | h⟩ := h
  · cases ho
  · exact ⟨A, c, rfl, h⟩
theorem CodeAt.below {w w' : World} {n0 : Nat} {o : Bool} {V : Value} {es : List In} (h : CodeAt w n0 o V es) (hn : n0 ≤ w.heap.size) (hb : Below w.heap.size w w') : CodeAt w' n0 o V es := by
  obtain ⟨A, c, rfl, hcap, ⟨ho, h⟩ | h⟩ := h
  · exact ⟨A, c, rfl, hcap, .inl ⟨ho, h.below hb hn⟩⟩
  · exact ⟨A, c, rfl, hcap, .inr ((h.below hb (Nat.le_refl _)).more hb.size)⟩
/-- One block turns, or grows, that is not the code's own. -/
theorem CodeAt.grown {w w' : World} {n0 : Nat} {o : Bool} {V : Value} {es : List In} {row : Option Nat} (h : CodeAt w n0 o V es) (hn : n0 ≤ w.heap.size) (hg : w.grownBy w' row) (h0 : ∀ j, row = some j → n0 ≤ j) (hne : ∀ (L : Nat) (n : Nat) (xs : List Value), w.ownsRow L 90 5 V n xs → V.ownBlock = none ∨ V.ownBlock ≠ row) : CodeAt w' n0 o V es := by
  obtain ⟨A, c, rfl, hcap, ⟨ho, h⟩ | h⟩ := h
  · exact ⟨A, c, rfl, hcap, .inl ⟨ho, h.keep fun p _ hp => World.cell?_of_block (w := w) (hg.block _ (by omega) (fun e => by have := h0 _ e.symm; omega))⟩⟩
  · exact ⟨A, c, rfl, hcap, .inr (OK.more ⟨h.1.kept hg (hne _ _ _ h.1), h.2⟩ hg.size)⟩

/-- A swapper in its box: the code, and the path of the call's own. -/
structure SwSt (w0 : World) (g : Nat) (o : Bool) (V P : Value) (es : List In) (p : List Int) (w : World) : Prop where
  hg : w0.heap.size ≤ g
  bx : CB 94 w g [V, P]
  code : CodeAt w w0.heap.size o V es
  path : OW w (g + 1) w.heap.size P p
  be : Below w0.heap.size w0 w
theorem SwSt.below {w0 w w' : World} {g : Nat} {o : Bool} {V P : Value} {es : List In} {p : List Int} (h : SwSt w0 g o V P es p w) (hb : Below w.heap.size w w') : SwSt w0 g o V P es p w' :=
  ⟨h.hg, h.bx.below hb h.bx.lt, h.code.below h.be.size hb, (h.path.below hb (Nat.le_refl _)).more hb.size, h.be.trans (hb.mono h.be.size)⟩
theorem SwSt.setCode {w0 w : World} {g : Nat} {o o' : Bool} {V P V' : Value} {es es' : List In} {p : List Int} (h : SwSt w0 g o V P es p w) (hc : CodeAt w w0.heap.size o' V' es') : SwSt w0 g o' V' P es' p (w.setCell ⟨g, 0, none⟩ V') := by
  have hg := h.hg
  have gr := grownBy_setCell' w g V'
  have hz : (w.setCell ⟨g, 0, none⟩ V').heap.size = w.heap.size := World.size_setCell _ _ _
  have hx := h.bx.set 0 V'
  refine ⟨hg, by simpa using hx, ?_, ?_, h.be.setCell (p := ⟨g, 0, none⟩) hg V'⟩
  · have := hc.grown h.be.size gr (fun j e => by cases e; exact hg) (fun L n xs ho => .inr (own_ne_cb ho h.bx (by decide)))
    exact this
  · have := h.path.chg ((Chg.refl g (g + 1) w).setCell (p := ⟨g, 0, none⟩) ⟨Nat.le_refl _, Nat.lt_succ_self _⟩ V') (.inr (Nat.le_refl _))
    rw [hz]; exact this
theorem SwSt.push {w0 w w' : World} {g : Nat} {o : Bool} {V P P' : Value} {es : List In} {p : List Int} {i : Int} (h : SwSt w0 g o V P es p w) (hown : w'.ownsRow (g + 1) 3 1 P' (p.length + 1) (p.map (Value.int .i64) ++ [.int .i64 i])) (hgr : w.grownBy w' P.ownBlock) : SwSt w0 g o V P' es (p ++ [i]) (w'.setCell ⟨g, 1, none⟩ P') := by
  have hg := h.hg
  have hlo := h.path.lo
  have hne : P.ownBlock ≠ some g := own_ne_cb h.path.1 h.bx (by decide)
  have hb1 : CB 94 w' g [V, P] := (hgr.block g h.bx.lt (fun e => hne e.symm)).trans h.bx
  have hc1 : CodeAt w' w0.heap.size o V es := h.code.grown h.be.size hgr (fun j e => by have := (hlo j e).1; omega) (fun L n xs ho => by
    rcases hV : V.ownBlock with _ | j
    · exact .inl rfl
    · exact .inr (fun e => row_ne2 ho h.path.1 (by decide) j hV e.symm))
  have hz : (w'.setCell ⟨g, 1, none⟩ P').heap.size = w'.heap.size := World.size_setCell _ _ _
  have hbe := h.be.grown hgr h.be.size (fun j e => by have := (hlo j e).1; omega)
  have hx := hb1.set 1 P'
  refine ⟨hg, by simpa using hx, ?_, ?_, hbe.setCell (p := ⟨g, 1, none⟩) hg P'⟩
  · exact hc1.grown hbe.size (grownBy_setCell1 w' g P') (fun j e => by cases e; exact hg) (fun L n xs ho => .inr (own_ne_cb ho hb1 (by decide)))
  · have := (OW.push hown).chg ((Chg.refl g (g + 1) w').setCell (p := ⟨g, 1, none⟩) ⟨Nat.le_refl _, Nat.lt_succ_self _⟩ P') (.inr (Nat.le_refl _))
    rw [hz]; exact this

def SwRet (w0 : World) (g : Nat) (o : Option Mv) (e : Ending) (w' : World) : Prop := e = .returned (.bool o.isSome) ∧ Below w0.heap.size w0 w' ∧ ∀ s, o = some s → ∃ V' P', SwSt w0 g true V' P' s.1 s.2 w'
theorem mvS_no {st : Mv} {i : Int} (h : swOk st.1 i = false) : mvS st i = none := by unfold mvS; rw [if_neg]; rintro ⟨h1, _⟩; rw [h] at h1; cases h1
theorem mvS_full {st : Mv} {i : Int} (h : st.2.length = 100) : mvS st i = none := by unfold mvS; rw [if_neg]; rintro ⟨_, h1⟩; exact h1 h
theorem mvS_yes {st : Mv} {i : Int} (h : swOk st.1 i = true) (h2 : st.2.length ≠ 100) : mvS st i = some (swapR st.1 i, st.2 ++ [i]) := by unfold mvS; rw [if_pos ⟨h, h2⟩]

set_option maxHeartbeats 4000000 in
theorem swap_any (w0 : World) (g : Nat) (o : Bool) (V P : Value) (es : List In) (p : List Int) (i : Int) (w : World) (hl : es.length ≤ 1048576) (hp : p.length ≤ 100) (h : SwSt w0 g o V P es p w) :
    Calls Try.prog 85 #[.pointer (some ⟨g, 0, none⟩), .int .i64 i] w (SwRet w0 g (mvS (es, p) i)) := by
  obtain ⟨i0, hi, hz0, hz1, hz2⟩ := info_parts Try.infoInt
  have hI := Lib.hid hi
  have hZ0 := Lib.hid hz0
  have hZ1 := Lib.hid hz1
  have hZ2 := Lib.hid hz2
  clear hi hz0 hz1 hz2
  obtain ⟨A, c, rfl, hrs, _⟩ := h.code.form h.be.size
  obtain ⟨PA, pc, rfl, _⟩ := h.path.form
  have hSw := Lib.hid (iSwap_any 0 w.heap.size A c es i w hl hrs (Nat.le_refl _))
  have hSt := Lib.hid h
  have u0 := h.bx.cell 0
  simp only [List.getElem?_cons_zero] at u0
  clear h hrs
  go_enter Try.func85, Try.ntmps85
  go_wp2_with (fail)
  refine hSw.out.mono ?_
  rintro e w1 ⟨A1, c1, rfl, ho1, hb1⟩
  have h1 := hSt.out.below hb1
  have hBe := Lib.hid h1.be
  have hS1 := Lib.hid h1
  have hC1 : Hid (CodeAt w1 w0.heap.size true (.slice A1 (swapR es i).length c1) (swapR es i)) := ⟨A1, c1, rfl, OK.cap ho1, .inr (ho1.lower hSt.out.be.size)⟩
  have v1 := h1.bx.cell 1
  have v0 := h1.bx.cell 0
  have f0 := h1.bx.frozen 0
  have f1 := h1.bx.frozen 1
  simp only [List.getElem?_cons_zero, List.getElem?_cons_succ] at v1 v0
  clear u0 hSw ho1 hb1 h1 hSt
  cases hs : swOk es i
  · have hN := Lib.hid (mvS_no (st := (es, p)) hs)
    clear hs
    go_wp2
    go_ret
    exact ⟨by rw [hN.out]; rfl, hBe.out, fun s e => by rw [hN.out] at e; cases e⟩
  by_cases h100 : p.length = 100
  · have hN := Lib.hid (mvS_full (st := (es, p)) (i := i) h100)
    have hq : ((p.length : Int) == 100) = true := by simp; omega
    clear hs h100
    go_wp2
    go_ret
    exact ⟨by rw [hN.out]; rfl, hBe.out, fun s e => by rw [hN.out] at e; cases e⟩
  have hN := Lib.hid (mvS_yes (st := (es, p)) hs h100)
  have hq : ((p.length : Int) == 100) = false := by simp; omega
  have hS2 := Lib.hid (hS1.out.setCode hC1.out)
  have hpl : p.length < 100 := by omega
  clear hs h100 v1 v0 f0 f1
  have v1 := hS1.out.bx.cell 1
  have v0 := hS1.out.bx.cell 0
  have f0 := hS1.out.bx.frozen 0
  have w1' := hS2.out.bx.cell 1
  have g1 := hS2.out.bx.frozen 1
  simp only [List.getElem?_cons_zero, List.getElem?_cons_succ] at v1 v0 w1'
  have A3 := (Below.refl (w1.setCell ⟨g, 0, none⟩ (.slice A1 (swapR es i).length c1)).heap.size _).alloc (Nat.le_refl _) (.cells #[.int .i64 i] 3)
  have hS3 := Lib.hid (hS2.out.below A3)
  have hO3 := Lib.hid hS3.out.path.1
  have hBx3 := Lib.hid hS3.out.bx
  have hzz : Hid (g + 1 ≤ ((w1.setCell ⟨g, 0, none⟩ (.slice A1 (swapR es i).length c1)).alloc (.cells #[.int .i64 i] 3)).heap.size) := hS3.out.bx.lt
  clear A3
  go_wp2_with (at_builtin; go_loud (refine wpList_append_own _ rfl _ _ 32 rfl (g + 1) 3 i0 (.int .i64 0) 1 8 Try.underlying32 hI.out hZ0.out hZ1.out hZ2.out rfl (by decide) _ p.length _ rfl hO3.out ⟨w1.heap.size, 0, none⟩ 1 1 [.int .i64 i] rfl rfl (new1 (World.size_setCell _ _ _)) (one1 _) (by unfold maxLen; omega) (by omega) hzz.out ?_); intro v' w4 hown4 hgr4 _; have hb4 : CB 94 w4 g [.slice A1 (swapR es i).length c1, .slice PA p.length pc] := (hgr4.block g hBx3.out.lt (fun e => own_ne_cb hO3.out hBx3.out (by decide) e.symm)).trans hBx3.out; have f4 := hb4.frozen 1; have x4 := hb4.cell 1; simp only [List.getElem?_cons_zero, List.getElem?_cons_succ] at x4; obtain ⟨ga, ca, rfl⟩ := ownsRow_succ hown4)
  have hFin := Lib.hid (hS3.out.push hown4 hgr4)
  clear hown4 hgr4 hb4
  go_ret
  refine ⟨by rw [hN.out]; rfl, hFin.out.be, fun s e => ?_⟩
  rw [hN.out] at e
  injection e with e
  subst e
  exact ⟨_, _, hFin.out⟩
end Go.Proofs.Ythjfedidpjfboaa

namespace Go.Proofs.Ythjfedidpjfboaa
open Go.RowKit
set_option linter.unusedVariables false

def ResFollowPath (R0 : List (In)) (R1 : Bool) (w : World) (e : Ending) (w' : World) : Prop := ∃ (A0 : Option Addr) (c0 : Nat), e = .returned (.tuple #[.slice A0 R0.length c0, .bool R1]) ∧ OK In.enc 5 90 w' w.heap.size w'.heap.size (.slice A0 R0.length c0) R0 ∧ Below w.heap.size w w'
set_option maxHeartbeats 4000000 in
theorem lawFollowPath (A0 : Option Addr) (c0 : Nat) (a0 : List In) (A1 : Option Addr) (c1 : Nat) (a1 : List Int) (w : World) (hl0 : a0.length ≤ 9223372036854775807) (h0 : RS In.enc 5 w 0 w.heap.size A0 a0) (hs0 : ∀ n ∈ a0, n.op.size ≤ 9223372036854775807) (hl1 : a1.length ≤ 9223372036854775807) (h1 : IS w 0 w.heap.size A1 a1) (R0 : List (In)) (R1 : Bool) (hR0 : R0.length ≤ 1048576)
    (hS : ∀ (L0 B0 : Nat) (A0 : Option Addr) (c0 : Nat) (L1 B1 : Nat) (A1 : Option Addr) (c1 : Nat) (w : World), a0.length ≤ 1048576 → RS In.enc 5 w L0 B0 A0 a0 → B0 ≤ w.heap.size → a1.length ≤ 1048576 → IS w L1 B1 A1 a1 → B1 ≤ w.heap.size → Calls Try.prog 26 #[.slice A0 a0.length c0, .slice A1 a1.length c1] w (ResFollowPath R0 R1 w))
    (hI : ∀ (L0 B0 : Nat) (A0 : Option Addr) (c0 : Nat) (L1 B1 : Nat) (A1 : Option Addr) (c1 : Nat) (w : World), a0.length ≤ 1048576 → RS In.enc 5 w L0 B0 A0 a0 → B0 ≤ w.heap.size → a1.length ≤ 1048576 → IS w L1 B1 A1 a1 → B1 ≤ w.heap.size → Calls Try.prog 29 #[.slice A0 a0.length c0, .slice A1 a1.length c1] w (ResFollowPath R0 R1 w)) :
    Calls Try.prog 4 #[.slice A0 a0.length c0, .slice A1 a1.length c1] w fun e w' => e = .returned (.bool true) ∧ Below w.heap.size w w' := by
  have S := Lib.hid hS
  have I := Lib.hid hI
  have E0 := Lib.hid h0
  have E1 := Lib.hid h1
  have Z0 := Lib.hid hs0
  clear hS hI h0 h1 hs0
  by_cases g1 : a1.length ≤ 1048576
  rotate_left
  · have g1' : (1048576 : Int) < (a1.length : Int) := by omega
    clear g1
    go_enter Try.func4, Try.ntmps4
    go_wp2
    go_ret
    exact ⟨rfl, Below.refl _ _⟩
  have b0 := Lib.hid (Below.refl w.heap.size w)
  go_enter Try.func4, Try.ntmps4
  go_wp2_with (fail)
  refine (szInstrS_any 0 _ A0 c0 a0 1048576 _ hl0 (E0.out.below b0.out (Nat.le_refl _)) b0.out.size Z0.out (by omega) (by omega)).mono ?_
  rintro e w1 ⟨r0, rfl, hr0a, hr0b, hr0c, hb⟩
  have b1 := Lib.hid (b0.out.trans (hb.mono b0.out.size))
  have z1 := hb.size
  clear hb
  by_cases hr0 : 0 ≤ r0
  rotate_left
  · go_wp2
    go_ret
    exact ⟨rfl, b1.out⟩
  have hlen0 : a0.length ≤ 1048576 := by have := hr0b hr0; omega
  clear hr0b
  have hlen1 : a1.length ≤ 1048576 := g1
  have e1 : (R1 != R1) = false := by simp
  go_wp2_with (fail)
  refine (toInstrS_any 0 _ A0 c0 a0 _ hlen0 (E0.out.below b1.out (Nat.le_refl _)) b1.out.size).mono ?_
  rintro e w2 ⟨Ap0, cp0, rfl, ho, hb⟩
  have b2 := Lib.hid (b1.out.trans (hb.mono b1.out.size))
  have z2 := hb.size
  clear hb
  have op0 := Lib.hid ho
  clear ho
  go_wp2_with (fail)
  refine (toIntS_any 0 _ A1 c1 a1 _ hlen1 (E1.out.below b2.out (Nat.le_refl _)) b2.out.size).mono ?_
  rintro e w3 ⟨Ap1, cp1, rfl, ho, hb⟩
  have b3 := Lib.hid (b2.out.trans (hb.mono b2.out.size))
  have z3 := hb.size
  replace op0 := Lib.hid (op0.out.chg (Chg.ofBelow (lo := 0) (hi := 0) hb) (.inr (Nat.zero_le _)))
  clear hb
  have op1 := Lib.hid ho
  clear ho
  go_wp2_with (fail)
  refine (S.out _ _ _ _ _ _ _ _ _ hlen0 (In.rs op0.out) (by omega) hlen1 (OW.rs op1.out) (by omega)).mono ?_
  rintro e w4 ⟨AW0, cW0, rfl, ho0, hb⟩
  have b4 := Lib.hid (b3.out.trans (hb.mono b3.out.size))
  have z4 := hb.size
  replace op0 := Lib.hid (op0.out.chg (Chg.ofBelow (lo := 0) (hi := 0) hb) (.inr (Nat.zero_le _)))
  replace op1 := Lib.hid (op1.out.chg (Chg.ofBelow (lo := 0) (hi := 0) hb) (.inr (Nat.zero_le _)))
  clear hb
  have oW0 := Lib.hid ho0
  clear ho0
  go_wp2_with (fail)
  refine (toInstrS_any 0 _ A0 c0 a0 _ hlen0 (E0.out.below b4.out (Nat.le_refl _)) b4.out.size).mono ?_
  rintro e w5 ⟨Aq0, cq0, rfl, ho, hb⟩
  have b5 := Lib.hid (b4.out.trans (hb.mono b4.out.size))
  have z5 := hb.size
  replace oW0 := Lib.hid (oW0.out.chg (Chg.ofBelow (lo := 0) (hi := 0) hb) (.inr (Nat.zero_le _)))
  clear hb
  have oq0 := Lib.hid ho
  clear ho
  go_wp2_with (fail)
  refine (toIntS_any 0 _ A1 c1 a1 _ hlen1 (E1.out.below b5.out (Nat.le_refl _)) b5.out.size).mono ?_
  rintro e w6 ⟨Aq1, cq1, rfl, ho, hb⟩
  have b6 := Lib.hid (b5.out.trans (hb.mono b5.out.size))
  have z6 := hb.size
  replace oW0 := Lib.hid (oW0.out.chg (Chg.ofBelow (lo := 0) (hi := 0) hb) (.inr (Nat.zero_le _)))
  replace oq0 := Lib.hid (oq0.out.chg (Chg.ofBelow (lo := 0) (hi := 0) hb) (.inr (Nat.zero_le _)))
  clear hb
  have oq1 := Lib.hid ho
  clear ho
  go_wp2_with (fail)
  refine (I.out _ _ _ _ _ _ _ _ _ hlen0 (In.rs oq0.out) (by omega) hlen1 (OW.rs oq1.out) (by omega)).mono ?_
  rintro e w7 ⟨AG0, cG0, rfl, ho0, hb⟩
  have b7 := Lib.hid (b6.out.trans (hb.mono b6.out.size))
  have z7 := hb.size
  replace oW0 := Lib.hid (oW0.out.chg (Chg.ofBelow (lo := 0) (hi := 0) hb) (.inr (Nat.zero_le _)))
  replace oq0 := Lib.hid (oq0.out.chg (Chg.ofBelow (lo := 0) (hi := 0) hb) (.inr (Nat.zero_le _)))
  replace oq1 := Lib.hid (oq1.out.chg (Chg.ofBelow (lo := 0) (hi := 0) hb) (.inr (Nat.zero_le _)))
  clear hb
  have oG0 := Lib.hid ho0
  clear ho0
  go_wp2_with (fail)
  refine (eqInstrS_any _ _ _ _ _ _ _ _ _ _ R0 R0 _ rfl rfl hR0 (In.rs oG0.out) (In.rs oW0.out) (by omega) (by omega) rfl).mono ?_
  rintro e w8 ⟨rfl, hb⟩
  have b8 := Lib.hid (b7.out.trans (hb.mono b7.out.size))
  have z8 := hb.size
  replace oW0 := Lib.hid (oW0.out.chg (Chg.ofBelow (lo := 0) (hi := 0) hb) (.inr (Nat.zero_le _)))
  replace oq0 := Lib.hid (oq0.out.chg (Chg.ofBelow (lo := 0) (hi := 0) hb) (.inr (Nat.zero_le _)))
  replace oq1 := Lib.hid (oq1.out.chg (Chg.ofBelow (lo := 0) (hi := 0) hb) (.inr (Nat.zero_le _)))
  replace oG0 := Lib.hid (oG0.out.chg (Chg.ofBelow (lo := 0) (hi := 0) hb) (.inr (Nat.zero_le _)))
  clear hb
  go_wp2_with (fail)
  refine (toInstrS_any 0 _ A0 c0 a0 _ hlen0 (E0.out.below b8.out (Nat.le_refl _)) b8.out.size).mono ?_
  rintro e w9 ⟨As0, cs0, rfl, ho, hb⟩
  have b9 := Lib.hid (b8.out.trans (hb.mono b8.out.size))
  have z9 := hb.size
  replace oW0 := Lib.hid (oW0.out.chg (Chg.ofBelow (lo := 0) (hi := 0) hb) (.inr (Nat.zero_le _)))
  replace oq0 := Lib.hid (oq0.out.chg (Chg.ofBelow (lo := 0) (hi := 0) hb) (.inr (Nat.zero_le _)))
  replace oq1 := Lib.hid (oq1.out.chg (Chg.ofBelow (lo := 0) (hi := 0) hb) (.inr (Nat.zero_le _)))
  replace oG0 := Lib.hid (oG0.out.chg (Chg.ofBelow (lo := 0) (hi := 0) hb) (.inr (Nat.zero_le _)))
  clear hb
  have os0 := Lib.hid ho
  clear ho
  go_wp2_with (fail)
  refine (eqInstrS_any _ _ _ _ _ _ _ _ _ _ a0 a0 _ rfl rfl hlen0 (In.rs oq0.out) (In.rs os0.out) (by omega) (by omega) rfl).mono ?_
  rintro e w10 ⟨rfl, hb⟩
  have b10 := Lib.hid (b9.out.trans (hb.mono b9.out.size))
  have z10 := hb.size
  replace oW0 := Lib.hid (oW0.out.chg (Chg.ofBelow (lo := 0) (hi := 0) hb) (.inr (Nat.zero_le _)))
  replace oq0 := Lib.hid (oq0.out.chg (Chg.ofBelow (lo := 0) (hi := 0) hb) (.inr (Nat.zero_le _)))
  replace oq1 := Lib.hid (oq1.out.chg (Chg.ofBelow (lo := 0) (hi := 0) hb) (.inr (Nat.zero_le _)))
  replace oG0 := Lib.hid (oG0.out.chg (Chg.ofBelow (lo := 0) (hi := 0) hb) (.inr (Nat.zero_le _)))
  replace os0 := Lib.hid (os0.out.chg (Chg.ofBelow (lo := 0) (hi := 0) hb) (.inr (Nat.zero_le _)))
  clear hb
  go_wp2_with (fail)
  refine (toIntS_any 0 _ A1 c1 a1 _ hlen1 (E1.out.below b10.out (Nat.le_refl _)) b10.out.size).mono ?_
  rintro e w11 ⟨As1, cs1, rfl, ho, hb⟩
  have b11 := Lib.hid (b10.out.trans (hb.mono b10.out.size))
  have z11 := hb.size
  replace oW0 := Lib.hid (oW0.out.chg (Chg.ofBelow (lo := 0) (hi := 0) hb) (.inr (Nat.zero_le _)))
  replace oq0 := Lib.hid (oq0.out.chg (Chg.ofBelow (lo := 0) (hi := 0) hb) (.inr (Nat.zero_le _)))
  replace oq1 := Lib.hid (oq1.out.chg (Chg.ofBelow (lo := 0) (hi := 0) hb) (.inr (Nat.zero_le _)))
  replace oG0 := Lib.hid (oG0.out.chg (Chg.ofBelow (lo := 0) (hi := 0) hb) (.inr (Nat.zero_le _)))
  clear hb
  have os1 := Lib.hid ho
  clear ho
  go_wp2_with (fail)
  refine (eqIntS_any _ _ _ _ _ _ _ _ _ _ a1 a1 _ rfl rfl hlen1 (OW.rs oq1.out) (OW.rs os1.out) (by omega) (by omega) rfl).mono ?_
  rintro e w12 ⟨rfl, hb⟩
  have b12 := Lib.hid (b11.out.trans (hb.mono b11.out.size))
  have z12 := hb.size
  replace oW0 := Lib.hid (oW0.out.chg (Chg.ofBelow (lo := 0) (hi := 0) hb) (.inr (Nat.zero_le _)))
  replace oq0 := Lib.hid (oq0.out.chg (Chg.ofBelow (lo := 0) (hi := 0) hb) (.inr (Nat.zero_le _)))
  replace oq1 := Lib.hid (oq1.out.chg (Chg.ofBelow (lo := 0) (hi := 0) hb) (.inr (Nat.zero_le _)))
  replace oG0 := Lib.hid (oG0.out.chg (Chg.ofBelow (lo := 0) (hi := 0) hb) (.inr (Nat.zero_le _)))
  replace os1 := Lib.hid (os1.out.chg (Chg.ofBelow (lo := 0) (hi := 0) hb) (.inr (Nat.zero_le _)))
  clear hb
  go_wp2_with (fail)
  refine (markInstrS_any _ _ _ _ a0 (1) _ hlen0 (by omega) (by omega) oq0.out).mono ?_
  rintro e w13 ⟨rfl, _, hc⟩
  have b13 := Lib.hid (below_chg b12.out hc b12.out.size (by omega))
  have z13 := hc.size
  replace oW0 := Lib.hid (oW0.out.chg hc (by omega))
  replace oq1 := Lib.hid (oq1.out.chg hc (by omega))
  replace oG0 := Lib.hid (oG0.out.chg hc (by omega))
  clear hc
  go_wp2_with (fail)
  refine (markIntS_c _ _ _ _ a1 (1 + 5 * (a0.length : Int)) _ hlen1 (by omega) (by omega) oq1.out).mono ?_
  rintro e w14 ⟨rfl, _, hc⟩
  have b14 := Lib.hid (below_chg b13.out hc b13.out.size (by omega))
  have z14 := hc.size
  replace oW0 := Lib.hid (oW0.out.chg hc (by omega))
  replace oG0 := Lib.hid (oG0.out.chg hc (by omega))
  clear hc
  have hk : (0 : Int) ≤ 1 + 5 * (a0.length : Int) + (a1.length : Int) := by omega
  go_wp2_with (fail)
  refine (eqInstrS_any _ _ _ _ _ _ _ _ _ _ R0 R0 _ rfl rfl hR0 (In.rs oG0.out) (In.rs oW0.out) (by omega) (by omega) rfl).mono ?_
  rintro e w15 ⟨rfl, hb⟩
  have b15 := Lib.hid (b14.out.trans (hb.mono b14.out.size))
  have z15 := hb.size
  replace oW0 := Lib.hid (oW0.out.chg (Chg.ofBelow (lo := 0) (hi := 0) hb) (.inr (Nat.zero_le _)))
  replace oG0 := Lib.hid (oG0.out.chg (Chg.ofBelow (lo := 0) (hi := 0) hb) (.inr (Nat.zero_le _)))
  clear hb
  go_wp2_with (fail)
  refine (markInstrS_any _ _ _ _ R0 (1) _ hR0 (by omega) (by omega) oG0.out).mono ?_
  rintro e w16 ⟨rfl, ho, hc⟩
  have b16 := Lib.hid (below_chg b15.out hc b15.out.size (by omega))
  have z16 := hc.size
  replace oW0 := Lib.hid (oW0.out.chg hc (by omega))
  clear hc
  replace oG0 := Lib.hid ho
  clear ho
  have hq : (0 : Int) ≤ 1 + 5 * (R0.length : Int) := by omega
  go_wp2_with (fail)
  refine (heldInstrS_any _ _ _ _ _ 1 _ hR0 (by omega) (by omega) (In.rs oG0.out) (by omega)).mono ?_
  rintro e w17 ⟨rfl, hb⟩
  have b17 := Lib.hid (b16.out.trans (hb.mono b16.out.size))
  have z17 := hb.size
  replace oW0 := Lib.hid (oW0.out.chg (Chg.ofBelow (lo := 0) (hi := 0) hb) (.inr (Nat.zero_le _)))
  replace oG0 := Lib.hid (oG0.out.chg (Chg.ofBelow (lo := 0) (hi := 0) hb) (.inr (Nat.zero_le _)))
  clear hb
  go_wp2_with (fail)
  refine (toInstrS_any 0 _ A0 c0 a0 _ hlen0 (E0.out.below b17.out (Nat.le_refl _)) b17.out.size).mono ?_
  rintro e w18 ⟨Ah0, ch0, rfl, ho, hb⟩
  have b18 := Lib.hid (b17.out.trans (hb.mono b17.out.size))
  have z18 := hb.size
  replace oW0 := Lib.hid (oW0.out.chg (Chg.ofBelow (lo := 0) (hi := 0) hb) (.inr (Nat.zero_le _)))
  replace oG0 := Lib.hid (oG0.out.chg (Chg.ofBelow (lo := 0) (hi := 0) hb) (.inr (Nat.zero_le _)))
  clear hb
  have oh0 := Lib.hid ho
  clear ho
  go_wp2_with (fail)
  refine (toIntS_any 0 _ A1 c1 a1 _ hlen1 (E1.out.below b18.out (Nat.le_refl _)) b18.out.size).mono ?_
  rintro e w19 ⟨Ah1, ch1, rfl, ho, hb⟩
  have b19 := Lib.hid (b18.out.trans (hb.mono b18.out.size))
  have z19 := hb.size
  replace oW0 := Lib.hid (oW0.out.chg (Chg.ofBelow (lo := 0) (hi := 0) hb) (.inr (Nat.zero_le _)))
  replace oG0 := Lib.hid (oG0.out.chg (Chg.ofBelow (lo := 0) (hi := 0) hb) (.inr (Nat.zero_le _)))
  replace oh0 := Lib.hid (oh0.out.chg (Chg.ofBelow (lo := 0) (hi := 0) hb) (.inr (Nat.zero_le _)))
  clear hb
  have oh1 := Lib.hid ho
  clear ho
  go_wp2_with (fail)
  refine (I.out _ _ _ _ _ _ _ _ _ hlen0 (In.rs oh0.out) (by omega) hlen1 (OW.rs oh1.out) (by omega)).mono ?_
  rintro e w20 ⟨AH0, cH0, rfl, ho0, hb⟩
  have b20 := Lib.hid (b19.out.trans (hb.mono b19.out.size))
  have z20 := hb.size
  replace oW0 := Lib.hid (oW0.out.chg (Chg.ofBelow (lo := 0) (hi := 0) hb) (.inr (Nat.zero_le _)))
  replace oG0 := Lib.hid (oG0.out.chg (Chg.ofBelow (lo := 0) (hi := 0) hb) (.inr (Nat.zero_le _)))
  replace oh0 := Lib.hid (oh0.out.chg (Chg.ofBelow (lo := 0) (hi := 0) hb) (.inr (Nat.zero_le _)))
  replace oh1 := Lib.hid (oh1.out.chg (Chg.ofBelow (lo := 0) (hi := 0) hb) (.inr (Nat.zero_le _)))
  clear hb
  have oH0 := Lib.hid ho0
  clear ho0
  go_wp2_with (fail)
  refine (eqInstrS_any _ _ _ _ _ _ _ _ _ _ R0 R0 _ rfl rfl hR0 (In.rs oH0.out) (In.rs oW0.out) (by omega) (by omega) rfl).mono ?_
  rintro e w21 ⟨rfl, hb⟩
  have b21 := Lib.hid (b20.out.trans (hb.mono b20.out.size))
  have z21 := hb.size
  replace oW0 := Lib.hid (oW0.out.chg (Chg.ofBelow (lo := 0) (hi := 0) hb) (.inr (Nat.zero_le _)))
  replace oG0 := Lib.hid (oG0.out.chg (Chg.ofBelow (lo := 0) (hi := 0) hb) (.inr (Nat.zero_le _)))
  replace oh0 := Lib.hid (oh0.out.chg (Chg.ofBelow (lo := 0) (hi := 0) hb) (.inr (Nat.zero_le _)))
  replace oh1 := Lib.hid (oh1.out.chg (Chg.ofBelow (lo := 0) (hi := 0) hb) (.inr (Nat.zero_le _)))
  replace oH0 := Lib.hid (oH0.out.chg (Chg.ofBelow (lo := 0) (hi := 0) hb) (.inr (Nat.zero_le _)))
  clear hb
  go_wp2_with (fail)
  refine (heldInstrS_any _ _ _ _ _ 1 _ hR0 (by omega) (by omega) (In.rs oG0.out) (by omega)).mono ?_
  rintro e w22 ⟨rfl, hb⟩
  have b22 := Lib.hid (b21.out.trans (hb.mono b21.out.size))
  have z22 := hb.size
  replace oW0 := Lib.hid (oW0.out.chg (Chg.ofBelow (lo := 0) (hi := 0) hb) (.inr (Nat.zero_le _)))
  replace oG0 := Lib.hid (oG0.out.chg (Chg.ofBelow (lo := 0) (hi := 0) hb) (.inr (Nat.zero_le _)))
  replace oh0 := Lib.hid (oh0.out.chg (Chg.ofBelow (lo := 0) (hi := 0) hb) (.inr (Nat.zero_le _)))
  replace oh1 := Lib.hid (oh1.out.chg (Chg.ofBelow (lo := 0) (hi := 0) hb) (.inr (Nat.zero_le _)))
  replace oH0 := Lib.hid (oH0.out.chg (Chg.ofBelow (lo := 0) (hi := 0) hb) (.inr (Nat.zero_le _)))
  clear hb
  go_wp2
  go_ret
  exact ⟨rfl, b22.out⟩

def ResSwapPath (R0 : List (Int)) (R1 : Bool) (w : World) (e : Ending) (w' : World) : Prop := ∃ (A0 : Option Addr) (c0 : Nat), e = .returned (.tuple #[.slice A0 R0.length c0, .bool R1]) ∧ OW w' w.heap.size w'.heap.size (.slice A0 R0.length c0) R0 ∧ Below w.heap.size w w'
set_option maxHeartbeats 4000000 in
theorem lawSwapPath (A0 : Option Addr) (c0 : Nat) (a0 : List In) (A1 : Option Addr) (c1 : Nat) (a1 : List In) (w : World) (hl0 : a0.length ≤ 9223372036854775807) (h0 : RS In.enc 5 w 0 w.heap.size A0 a0) (hs0 : ∀ n ∈ a0, n.op.size ≤ 9223372036854775807) (hl1 : a1.length ≤ 9223372036854775807) (h1 : RS In.enc 5 w 0 w.heap.size A1 a1) (hs1 : ∀ n ∈ a1, n.op.size ≤ 9223372036854775807) (R0 : List (Int)) (R1 : Bool) (hR0 : R0.length ≤ 1048576)
    (hS : ∀ (L0 B0 : Nat) (A0 : Option Addr) (c0 : Nat) (L1 B1 : Nat) (A1 : Option Addr) (c1 : Nat) (w : World), a0.length ≤ 1048576 → RS In.enc 5 w L0 B0 A0 a0 → B0 ≤ w.heap.size → a1.length ≤ 1048576 → RS In.enc 5 w L1 B1 A1 a1 → B1 ≤ w.heap.size → Calls Try.prog 35 #[.slice A0 a0.length c0, .slice A1 a1.length c1] w (ResSwapPath R0 R1 w))
    (hI : ∀ (L0 B0 : Nat) (A0 : Option Addr) (c0 : Nat) (L1 B1 : Nat) (A1 : Option Addr) (c1 : Nat) (w : World), a0.length ≤ 1048576 → RS In.enc 5 w L0 B0 A0 a0 → B0 ≤ w.heap.size → a0.length ≤ c0 → a1.length ≤ 1048576 → RS In.enc 5 w L1 B1 A1 a1 → B1 ≤ w.heap.size → Calls Try.prog 36 #[.slice A0 a0.length c0, .slice A1 a1.length c1] w (ResSwapPath R0 R1 w)) :
    Calls Try.prog 5 #[.slice A0 a0.length c0, .slice A1 a1.length c1] w fun e w' => e = .returned (.bool true) ∧ Below w.heap.size w w' := by
  have S := Lib.hid hS
  have I := Lib.hid hI
  have E0 := Lib.hid h0
  have E1 := Lib.hid h1
  have Z0 := Lib.hid hs0
  have Z1 := Lib.hid hs1
  clear hS hI h0 h1 hs0 hs1
  have b0 := Lib.hid (Below.refl w.heap.size w)
  go_enter Try.func5, Try.ntmps5
  go_wp2_with (fail)
  refine (szInstrS_any 0 _ A0 c0 a0 1048576 _ hl0 (E0.out.below b0.out (Nat.le_refl _)) b0.out.size Z0.out (by omega) (by omega)).mono ?_
  rintro e w1 ⟨r0, rfl, hr0a, hr0b, hr0c, hb⟩
  have b1 := Lib.hid (b0.out.trans (hb.mono b0.out.size))
  have z1 := hb.size
  clear hb
  by_cases hr0 : 0 ≤ r0
  rotate_left
  · go_wp2
    go_ret
    exact ⟨rfl, b1.out⟩
  have hlen0 : a0.length ≤ 1048576 := by have := hr0b hr0; omega
  clear hr0b
  go_wp2_with (fail)
  refine (szInstrS_any 0 _ A1 c1 a1 r0 _ hl1 (E1.out.below b1.out (Nat.le_refl _)) b1.out.size Z1.out (by omega) (by omega)).mono ?_
  rintro e w2 ⟨r1, rfl, hr1a, hr1b, hr1c, hb⟩
  have b2 := Lib.hid (b1.out.trans (hb.mono b1.out.size))
  have z2 := hb.size
  clear hb
  by_cases hr1 : 0 ≤ r1
  rotate_left
  · go_wp2
    go_ret
    exact ⟨rfl, b2.out⟩
  have hlen1 : a1.length ≤ 1048576 := by have := hr1b hr1; omega
  clear hr1b
  have e1 : (R1 != R1) = false := by simp
  go_wp2_with (fail)
  refine (toInstrS_any 0 _ A0 c0 a0 _ hlen0 (E0.out.below b2.out (Nat.le_refl _)) b2.out.size).mono ?_
  rintro e w3 ⟨Ap0, cp0, rfl, ho, hb⟩
  have b3 := Lib.hid (b2.out.trans (hb.mono b2.out.size))
  have z3 := hb.size
  clear hb
  have op0 := Lib.hid ho
  clear ho
  go_wp2_with (fail)
  refine (toInstrS_any 0 _ A1 c1 a1 _ hlen1 (E1.out.below b3.out (Nat.le_refl _)) b3.out.size).mono ?_
  rintro e w4 ⟨Ap1, cp1, rfl, ho, hb⟩
  have b4 := Lib.hid (b3.out.trans (hb.mono b3.out.size))
  have z4 := hb.size
  replace op0 := Lib.hid (op0.out.chg (Chg.ofBelow (lo := 0) (hi := 0) hb) (.inr (Nat.zero_le _)))
  clear hb
  have op1 := Lib.hid ho
  clear ho
  go_wp2_with (fail)
  refine (S.out _ _ _ _ _ _ _ _ _ hlen0 (In.rs op0.out) (by omega) hlen1 (In.rs op1.out) (by omega)).mono ?_
  rintro e w5 ⟨AW0, cW0, rfl, ho0, hb⟩
  have b5 := Lib.hid (b4.out.trans (hb.mono b4.out.size))
  have z5 := hb.size
  replace op0 := Lib.hid (op0.out.chg (Chg.ofBelow (lo := 0) (hi := 0) hb) (.inr (Nat.zero_le _)))
  replace op1 := Lib.hid (op1.out.chg (Chg.ofBelow (lo := 0) (hi := 0) hb) (.inr (Nat.zero_le _)))
  clear hb
  have oW0 := Lib.hid ho0
  clear ho0
  go_wp2_with (fail)
  refine (toInstrS_any 0 _ A0 c0 a0 _ hlen0 (E0.out.below b5.out (Nat.le_refl _)) b5.out.size).mono ?_
  rintro e w6 ⟨Aq0, cq0, rfl, ho, hb⟩
  have b6 := Lib.hid (b5.out.trans (hb.mono b5.out.size))
  have z6 := hb.size
  replace oW0 := Lib.hid (oW0.out.chg (Chg.ofBelow (lo := 0) (hi := 0) hb) (.inr (Nat.zero_le _)))
  clear hb
  have oq0 := Lib.hid ho
  clear ho
  go_wp2_with (fail)
  refine (toInstrS_any 0 _ A1 c1 a1 _ hlen1 (E1.out.below b6.out (Nat.le_refl _)) b6.out.size).mono ?_
  rintro e w7 ⟨Aq1, cq1, rfl, ho, hb⟩
  have b7 := Lib.hid (b6.out.trans (hb.mono b6.out.size))
  have z7 := hb.size
  replace oW0 := Lib.hid (oW0.out.chg (Chg.ofBelow (lo := 0) (hi := 0) hb) (.inr (Nat.zero_le _)))
  replace oq0 := Lib.hid (oq0.out.chg (Chg.ofBelow (lo := 0) (hi := 0) hb) (.inr (Nat.zero_le _)))
  clear hb
  have oq1 := Lib.hid ho
  clear ho
  go_wp2_with (fail)
  refine (I.out _ _ _ _ _ _ _ _ _ hlen0 (In.rs oq0.out) (by omega) (OK.cap oq0.out) hlen1 (In.rs oq1.out) (by omega)).mono ?_
  rintro e w8 ⟨AG0, cG0, rfl, ho0, hb⟩
  have b8 := Lib.hid (b7.out.trans (hb.mono b7.out.size))
  have z8 := hb.size
  replace oW0 := Lib.hid (oW0.out.chg (Chg.ofBelow (lo := 0) (hi := 0) hb) (.inr (Nat.zero_le _)))
  replace oq0 := Lib.hid (oq0.out.chg (Chg.ofBelow (lo := 0) (hi := 0) hb) (.inr (Nat.zero_le _)))
  replace oq1 := Lib.hid (oq1.out.chg (Chg.ofBelow (lo := 0) (hi := 0) hb) (.inr (Nat.zero_le _)))
  clear hb
  have oG0 := Lib.hid ho0
  clear ho0
  go_wp2_with (fail)
  refine (eqIntS_any _ _ _ _ _ _ _ _ _ _ R0 R0 _ rfl rfl hR0 (OW.rs oG0.out) (OW.rs oW0.out) (by omega) (by omega) rfl).mono ?_
  rintro e w9 ⟨rfl, hb⟩
  have b9 := Lib.hid (b8.out.trans (hb.mono b8.out.size))
  have z9 := hb.size
  replace oW0 := Lib.hid (oW0.out.chg (Chg.ofBelow (lo := 0) (hi := 0) hb) (.inr (Nat.zero_le _)))
  replace oq0 := Lib.hid (oq0.out.chg (Chg.ofBelow (lo := 0) (hi := 0) hb) (.inr (Nat.zero_le _)))
  replace oq1 := Lib.hid (oq1.out.chg (Chg.ofBelow (lo := 0) (hi := 0) hb) (.inr (Nat.zero_le _)))
  replace oG0 := Lib.hid (oG0.out.chg (Chg.ofBelow (lo := 0) (hi := 0) hb) (.inr (Nat.zero_le _)))
  clear hb
  go_wp2_with (fail)
  refine (toInstrS_any 0 _ A0 c0 a0 _ hlen0 (E0.out.below b9.out (Nat.le_refl _)) b9.out.size).mono ?_
  rintro e w10 ⟨As0, cs0, rfl, ho, hb⟩
  have b10 := Lib.hid (b9.out.trans (hb.mono b9.out.size))
  have z10 := hb.size
  replace oW0 := Lib.hid (oW0.out.chg (Chg.ofBelow (lo := 0) (hi := 0) hb) (.inr (Nat.zero_le _)))
  replace oq0 := Lib.hid (oq0.out.chg (Chg.ofBelow (lo := 0) (hi := 0) hb) (.inr (Nat.zero_le _)))
  replace oq1 := Lib.hid (oq1.out.chg (Chg.ofBelow (lo := 0) (hi := 0) hb) (.inr (Nat.zero_le _)))
  replace oG0 := Lib.hid (oG0.out.chg (Chg.ofBelow (lo := 0) (hi := 0) hb) (.inr (Nat.zero_le _)))
  clear hb
  have os0 := Lib.hid ho
  clear ho
  go_wp2_with (fail)
  refine (eqInstrS_any _ _ _ _ _ _ _ _ _ _ a0 a0 _ rfl rfl hlen0 (In.rs oq0.out) (In.rs os0.out) (by omega) (by omega) rfl).mono ?_
  rintro e w11 ⟨rfl, hb⟩
  have b11 := Lib.hid (b10.out.trans (hb.mono b10.out.size))
  have z11 := hb.size
  replace oW0 := Lib.hid (oW0.out.chg (Chg.ofBelow (lo := 0) (hi := 0) hb) (.inr (Nat.zero_le _)))
  replace oq0 := Lib.hid (oq0.out.chg (Chg.ofBelow (lo := 0) (hi := 0) hb) (.inr (Nat.zero_le _)))
  replace oq1 := Lib.hid (oq1.out.chg (Chg.ofBelow (lo := 0) (hi := 0) hb) (.inr (Nat.zero_le _)))
  replace oG0 := Lib.hid (oG0.out.chg (Chg.ofBelow (lo := 0) (hi := 0) hb) (.inr (Nat.zero_le _)))
  replace os0 := Lib.hid (os0.out.chg (Chg.ofBelow (lo := 0) (hi := 0) hb) (.inr (Nat.zero_le _)))
  clear hb
  go_wp2_with (fail)
  refine (toInstrS_any 0 _ A1 c1 a1 _ hlen1 (E1.out.below b11.out (Nat.le_refl _)) b11.out.size).mono ?_
  rintro e w12 ⟨As1, cs1, rfl, ho, hb⟩
  have b12 := Lib.hid (b11.out.trans (hb.mono b11.out.size))
  have z12 := hb.size
  replace oW0 := Lib.hid (oW0.out.chg (Chg.ofBelow (lo := 0) (hi := 0) hb) (.inr (Nat.zero_le _)))
  replace oq0 := Lib.hid (oq0.out.chg (Chg.ofBelow (lo := 0) (hi := 0) hb) (.inr (Nat.zero_le _)))
  replace oq1 := Lib.hid (oq1.out.chg (Chg.ofBelow (lo := 0) (hi := 0) hb) (.inr (Nat.zero_le _)))
  replace oG0 := Lib.hid (oG0.out.chg (Chg.ofBelow (lo := 0) (hi := 0) hb) (.inr (Nat.zero_le _)))
  clear hb
  have os1 := Lib.hid ho
  clear ho
  go_wp2_with (fail)
  refine (eqInstrS_any _ _ _ _ _ _ _ _ _ _ a1 a1 _ rfl rfl hlen1 (In.rs oq1.out) (In.rs os1.out) (by omega) (by omega) rfl).mono ?_
  rintro e w13 ⟨rfl, hb⟩
  have b13 := Lib.hid (b12.out.trans (hb.mono b12.out.size))
  have z13 := hb.size
  replace oW0 := Lib.hid (oW0.out.chg (Chg.ofBelow (lo := 0) (hi := 0) hb) (.inr (Nat.zero_le _)))
  replace oq0 := Lib.hid (oq0.out.chg (Chg.ofBelow (lo := 0) (hi := 0) hb) (.inr (Nat.zero_le _)))
  replace oq1 := Lib.hid (oq1.out.chg (Chg.ofBelow (lo := 0) (hi := 0) hb) (.inr (Nat.zero_le _)))
  replace oG0 := Lib.hid (oG0.out.chg (Chg.ofBelow (lo := 0) (hi := 0) hb) (.inr (Nat.zero_le _)))
  replace os1 := Lib.hid (os1.out.chg (Chg.ofBelow (lo := 0) (hi := 0) hb) (.inr (Nat.zero_le _)))
  clear hb
  go_wp2_with (fail)
  refine (markInstrS_any _ _ _ _ a0 (1) _ hlen0 (by omega) (by omega) oq0.out).mono ?_
  rintro e w14 ⟨rfl, _, hc⟩
  have b14 := Lib.hid (below_chg b13.out hc b13.out.size (by omega))
  have z14 := hc.size
  replace oW0 := Lib.hid (oW0.out.chg hc (by omega))
  replace oq1 := Lib.hid (oq1.out.chg hc (by omega))
  replace oG0 := Lib.hid (oG0.out.chg hc (by omega))
  clear hc
  go_wp2_with (fail)
  refine (markInstrS_any _ _ _ _ a1 (1 + 5 * (a0.length : Int)) _ hlen1 (by omega) (by omega) oq1.out).mono ?_
  rintro e w15 ⟨rfl, _, hc⟩
  have b15 := Lib.hid (below_chg b14.out hc b14.out.size (by omega))
  have z15 := hc.size
  replace oW0 := Lib.hid (oW0.out.chg hc (by omega))
  replace oG0 := Lib.hid (oG0.out.chg hc (by omega))
  clear hc
  have hk : (0 : Int) ≤ 1 + 5 * (a0.length : Int) + 5 * (a1.length : Int) := by omega
  go_wp2_with (fail)
  refine (eqIntS_any _ _ _ _ _ _ _ _ _ _ R0 R0 _ rfl rfl hR0 (OW.rs oG0.out) (OW.rs oW0.out) (by omega) (by omega) rfl).mono ?_
  rintro e w16 ⟨rfl, hb⟩
  have b16 := Lib.hid (b15.out.trans (hb.mono b15.out.size))
  have z16 := hb.size
  replace oW0 := Lib.hid (oW0.out.chg (Chg.ofBelow (lo := 0) (hi := 0) hb) (.inr (Nat.zero_le _)))
  replace oG0 := Lib.hid (oG0.out.chg (Chg.ofBelow (lo := 0) (hi := 0) hb) (.inr (Nat.zero_le _)))
  clear hb
  go_wp2_with (fail)
  refine (markIntS_c _ _ _ _ R0 (1) _ hR0 (by omega) (by omega) oG0.out).mono ?_
  rintro e w17 ⟨rfl, ho, hc⟩
  have b17 := Lib.hid (below_chg b16.out hc b16.out.size (by omega))
  have z17 := hc.size
  replace oW0 := Lib.hid (oW0.out.chg hc (by omega))
  clear hc
  replace oG0 := Lib.hid ho
  clear ho
  have hq : (0 : Int) ≤ 1 + (R0.length : Int) := by omega
  go_wp2_with (fail)
  refine (heldIntS_any _ _ _ _ _ 1 _ hR0 (by omega) (by omega) (OW.rs oG0.out) ).mono ?_
  rintro e w_ ⟨rfl, rfl⟩
  go_wp2_with (fail)
  refine (toInstrS_any 0 _ A0 c0 a0 _ hlen0 (E0.out.below b17.out (Nat.le_refl _)) b17.out.size).mono ?_
  rintro e w18 ⟨Ah0, ch0, rfl, ho, hb⟩
  have b18 := Lib.hid (b17.out.trans (hb.mono b17.out.size))
  have z18 := hb.size
  replace oW0 := Lib.hid (oW0.out.chg (Chg.ofBelow (lo := 0) (hi := 0) hb) (.inr (Nat.zero_le _)))
  replace oG0 := Lib.hid (oG0.out.chg (Chg.ofBelow (lo := 0) (hi := 0) hb) (.inr (Nat.zero_le _)))
  clear hb
  have oh0 := Lib.hid ho
  clear ho
  go_wp2_with (fail)
  refine (toInstrS_any 0 _ A1 c1 a1 _ hlen1 (E1.out.below b18.out (Nat.le_refl _)) b18.out.size).mono ?_
  rintro e w19 ⟨Ah1, ch1, rfl, ho, hb⟩
  have b19 := Lib.hid (b18.out.trans (hb.mono b18.out.size))
  have z19 := hb.size
  replace oW0 := Lib.hid (oW0.out.chg (Chg.ofBelow (lo := 0) (hi := 0) hb) (.inr (Nat.zero_le _)))
  replace oG0 := Lib.hid (oG0.out.chg (Chg.ofBelow (lo := 0) (hi := 0) hb) (.inr (Nat.zero_le _)))
  replace oh0 := Lib.hid (oh0.out.chg (Chg.ofBelow (lo := 0) (hi := 0) hb) (.inr (Nat.zero_le _)))
  clear hb
  have oh1 := Lib.hid ho
  clear ho
  go_wp2_with (fail)
  refine (I.out _ _ _ _ _ _ _ _ _ hlen0 (In.rs oh0.out) (by omega) (OK.cap oh0.out) hlen1 (In.rs oh1.out) (by omega)).mono ?_
  rintro e w20 ⟨AH0, cH0, rfl, ho0, hb⟩
  have b20 := Lib.hid (b19.out.trans (hb.mono b19.out.size))
  have z20 := hb.size
  replace oW0 := Lib.hid (oW0.out.chg (Chg.ofBelow (lo := 0) (hi := 0) hb) (.inr (Nat.zero_le _)))
  replace oG0 := Lib.hid (oG0.out.chg (Chg.ofBelow (lo := 0) (hi := 0) hb) (.inr (Nat.zero_le _)))
  replace oh0 := Lib.hid (oh0.out.chg (Chg.ofBelow (lo := 0) (hi := 0) hb) (.inr (Nat.zero_le _)))
  replace oh1 := Lib.hid (oh1.out.chg (Chg.ofBelow (lo := 0) (hi := 0) hb) (.inr (Nat.zero_le _)))
  clear hb
  have oH0 := Lib.hid ho0
  clear ho0
  go_wp2_with (fail)
  refine (eqIntS_any _ _ _ _ _ _ _ _ _ _ R0 R0 _ rfl rfl hR0 (OW.rs oH0.out) (OW.rs oW0.out) (by omega) (by omega) rfl).mono ?_
  rintro e w21 ⟨rfl, hb⟩
  have b21 := Lib.hid (b20.out.trans (hb.mono b20.out.size))
  have z21 := hb.size
  replace oW0 := Lib.hid (oW0.out.chg (Chg.ofBelow (lo := 0) (hi := 0) hb) (.inr (Nat.zero_le _)))
  replace oG0 := Lib.hid (oG0.out.chg (Chg.ofBelow (lo := 0) (hi := 0) hb) (.inr (Nat.zero_le _)))
  replace oh0 := Lib.hid (oh0.out.chg (Chg.ofBelow (lo := 0) (hi := 0) hb) (.inr (Nat.zero_le _)))
  replace oh1 := Lib.hid (oh1.out.chg (Chg.ofBelow (lo := 0) (hi := 0) hb) (.inr (Nat.zero_le _)))
  replace oH0 := Lib.hid (oH0.out.chg (Chg.ofBelow (lo := 0) (hi := 0) hb) (.inr (Nat.zero_le _)))
  clear hb
  go_wp2_with (fail)
  refine (heldIntS_any _ _ _ _ _ 1 _ hR0 (by omega) (by omega) (OW.rs oG0.out) ).mono ?_
  rintro e w_ ⟨rfl, rfl⟩
  go_wp2
  go_ret
  exact ⟨rfl, b21.out⟩
end Go.Proofs.Ythjfedidpjfboaa

/- isBlock, FollowPath of the program. -/
namespace Go.Proofs.Ythjfedidpjfboaa
open Go.RowKit
set_option linter.unusedVariables false
set_option maxRecDepth 100000

theorem isBlock_any (L B : Nat) (A : Option Addr) (c : Nat) (es : List In) (w : World) (hl : es.length ≤ 1048576) (hes : RS In.enc 5 w L B A es) (hB : B ≤ w.heap.size) :
    Calls Try.prog 83 #[.slice A es.length c] w fun e w' => e = .returned (.bool (blkOk es)) ∧ Below w.heap.size w w' := by
  have H := Lib.hid (IsCode_any L B A c es w hl hes hB)
  have hk : Hid (blkOk es = (decide (es.length ≤ 20) && okCode es)) := rfl
  have b0 := Lib.hid (Below.refl w.heap.size w)
  clear hes
  generalize blkOk es = r at *
  generalize okCode es = q at *
  by_cases h20 : es.length ≤ 20
  · have h1 : (es.length : Int) ≤ 20 := by omega
    have h2 : decide (es.length ≤ 20) = true := decide_eq_true h20
    rw [h2] at hk
    clear h2
    go_enter Try.func83, Try.ntmps83
    go_wp2_with (fail)
    refine H.out.mono ?_
    rintro e w1 ⟨rfl, hb⟩
    have hbh := Lib.hid hb
    clear hb
    go_wp2
    go_ret
    exact ⟨by rw [hk.out]; rfl, hbh.out⟩
  · have h1 : ¬ (es.length : Int) ≤ 20 := by omega
    have h2 : decide (es.length ≤ 20) = false := decide_eq_false h20
    rw [h2] at hk
    clear h2
    go_enter Try.func83, Try.ntmps83
    go_wp2
    go_ret
    exact ⟨by rw [hk.out]; rfl, b0.out⟩
set_option maxHeartbeats 1000000 in
theorem CloneC_all (L B : Nat) (A : Option Addr) (c : Nat) (xs : List In) (w : World) (hl : xs.length ≤ 1048576) (hx : RS In.enc 5 w L B A xs) (hB : B ≤ w.heap.size) :
    Calls Try.prog 84 #[.slice A xs.length c] w (FreshInstr w xs) := by
  have b0 := Lib.hid (Below.refl w.heap.size w)
  rcases A with _ | ad
  · have h0 : xs = [] := by
      rcases xs with _ | ⟨x, xs⟩
      · rfl
      · obtain ⟨b, o, e, _⟩ := hx (by simp)
        cases e
    subst h0
    have heq := Lib.run_eql_slice_nil (P := Try.prog) w 34 90 none 0 c 0 0 Try.underlying34
    simp only [Option.isNone_none] at heq
    go_enter Try.func84, Try.ntmps84
    go_wp2
    go_ret
    exact ⟨none, 0, rfl, OK.nil _ _ _ _, b0.out⟩
  obtain ⟨i0, hi, hz0, hz1, hz2⟩ := info_parts Try.infoInstr
  have hb0 := Lib.hid ((Below.refl w.heap.size w).alloc (Nat.le_refl _) (.cells #[] 90))
  have hnews := Lib.hid (show ∀ j u, (xs.flatMap In.enc)[j]? = some u → (w.alloc (.cells #[] 90)).cell? (ad.add j) = some u from fun j u hu => by
    have h0 : 0 < xs.length := by
      rcases xs with _ | ⟨x, xs⟩
      · simp at hu
      · simp
    obtain ⟨a, e, h⟩ := (hx.below hb0.out hB).news In.hk h0
    injection e with e; subst e
    exact h j u hu)
  have hown := Lib.hid (World.ownsRow_made (base := w.heap.size) (e := 90) (size := 5) w #[] 0 (Nat.le_refl _) (by unfold maxLen; omega) (by simp))
  clear hx
  have heq := Lib.run_eql_slice_nil (P := Try.prog) w 34 90 (some ad) xs.length c 0 0 Try.underlying34
  simp only [Option.isNone_some] at heq
  go_enter Try.func84, Try.ntmps84
  go_wp2_with (at_builtin; refine wpList_append_src rfl _ _ 34 rfl w.heap.size 90 i0 _ 5 48 Try.underlying34 hi hz0 hz1 hz2 rfl (by decide) _ 0 [] rfl hown.out (some ad) xs.length c (xs.flatMap In.enc) rfl (kflat_len In.hk xs) (fun _ => ⟨ad, rfl, hnews.out⟩) (five_ones xs) (by unfold maxLen; omega) (by omega) (by simp) ?_; intro v' w1 hown' hgrow _)
  simp only [Nat.zero_add, List.nil_append] at hown'
  have ho : Hid (OK In.enc 5 90 w1 w.heap.size w1.heap.size v' xs) := OK.ofRow hown' rfl
  have hb : Hid (Below w.heap.size w w1) := hb0.out.grown hgrow (by simp) (fun k hk => by cases hk; exact Nat.le_refl _)
  obtain ⟨A', c', rfl, _⟩ := OK.form In.hk ho.out
  clear hown' hgrow
  go_wp2
  go_ret
  exact ⟨_, _, rfl, ho.out, hb.out⟩

set_option maxHeartbeats 4000000 in
theorem iFollowPath_any (L B : Nat) (A : Option Addr) (c : Nat) (es : List In) (L' B' : Nat) (A' : Option Addr) (c' : Nat) (path : List Int) (w : World) (hl : es.length ≤ 1048576) (hes : RS In.enc 5 w L B A es) (hB : B ≤ w.heap.size) (hn : path.length ≤ 1048576) (hns : IS w L' B' A' path) (hB' : B' ≤ w.heap.size) :
    Calls Try.prog 29 #[.slice A es.length c, .slice A' path.length c'] w (ResFollowPath (folC es path) (folB es path) w) := by
  have H := Lib.hid (isBlock_any L B A c es w hl hes hB)
  cases hb : blkOk es
  · have hN := Lib.hid (fol_none (folR_no path hb))
    rw [hb] at H
    clear hb hes hns
    go_enter Try.func29, Try.ntmps29
    go_wp2_with (fail)
    refine H.out.mono ?_
    rintro e w1 ⟨rfl, hb1⟩
    have hbh := Lib.hid hb1
    clear hb1
    go_wp2
    go_ret2
    rw [hN.out.1, hN.out.2]
    exact ⟨none, 0, rfl, OK.nil _ _ _ _, hbh.out⟩
  have hFR := Lib.hid (folR_yes path hb)
  have hok := (blkOk_parts hb).2
  have hSt := Lib.hid (MvInv.start hok)
  have hSucc := Lib.hid fun (k : Nat) (h : k < path.length) => folS_succ (es, []) h
  have hNo := Lib.hid fun (k : Nat) (h : folS (es, []) (path.take k) = none) => folS_no h
  have hInv := Lib.hid fun (k : Nat) (s : Mv) (h : folS (es, []) (path.take k) = some s) => (MvInv.fol _ hSt.out h).1
  have hL20 := okCode_len hok
  have hCl := Lib.hid fun (W : World) (hW : Below w.heap.size w W) => CloneC_all L B A c es W hl (hes.below hW hB) (Nat.le_trans hB hW.size)
  have hPa := Lib.hid fun (W : World) (hW : Below w.heap.size w W) => hns.below hW hB'
  have hBB' := Lib.hid hB'
  rw [hb] at H
  clear hb hes hns hok
  go_enter Try.func29, Try.ntmps29
  go_wp2_with (fail)
  refine H.out.mono ?_
  rintro e w1 ⟨rfl, hb1⟩
  have hbh := Lib.hid hb1
  clear hb1
  go_wp2_with (fail)
  refine (hCl.out _ hbh.out).mono ?_
  rintro e w2 ⟨A2, c2, rfl, ho2, hb2⟩
  have hB2 := hbh.out.trans (hb2.mono hbh.out.size)
  have A3 := (Below.refl w2.heap.size w2).alloc (Nat.le_refl _) (.cells #[.slice A2 es.length c2, .slice none 0 0] 94)
  have S0 : Hid (SwSt w w2.heap.size true (.slice A2 es.length c2) (.slice none 0 0) es [] (w2.alloc (.cells #[.slice A2 es.length c2, .slice none 0 0] 94))) :=
    ⟨hB2.size, heap_alloc_new w2 _, ⟨A2, c2, rfl, OK.cap ho2, .inr (((ho2.lower hbh.out.size).below A3 (Nat.le_refl _)).more A3.size)⟩, OW.nil _ _ _, hB2.alloc hB2.size _⟩
  have hB2h := Lib.hid hB2
  clear A3 ho2 hb2 hB2
  go_wp2
  obtain ⟨W3, hW3⟩ : ∃ W3, W3 = w2.alloc (.cells #[.slice A2 es.length c2, .slice none 0 0] 94) := ⟨_, rfl⟩
  rw [← hW3] at S0 ⊢
  obtain ⟨g, hg⟩ : ∃ g, g = w2.heap.size := ⟨_, rfl⟩
  rw [← hg] at S0 ⊢
  clear hW3 hg
  go_loopw [17] (fun i wr => ∃ (k : Nat) (s : Mv) (V P : Value), k ≤ path.length ∧ i = .int .i64 k ∧ folS (es, []) (path.take k) = some s ∧ SwSt w g true V P s.1 s.2 wr) (fun i _ => path.length - (intOf i).toNat)
  case atStart => exact ⟨0, (es, []), _, _, Nat.zero_le _, rfl, rfl, S0.out⟩
  case round =>
    obtain ⟨k, s, V, P, hk, rfl, hs, hst⟩ := hrel
    have hI := hInv.out k s hs
    obtain ⟨cs, p⟩ := s
    have hSS := Lib.hid hst
    have hS := Lib.hid hs
    have hlc := hI.len
    have hlp := hI.most
    dsimp only at hlc hlp
    clear hI hs
    by_cases hlt : k < path.length
    · obtain ⟨pb, po, rfl, ⟨_, hpb⟩, hcc⟩ := (hPa.out _ hst.be) (by omega)
      have y1 := hcc k hlt
      have hsu := Lib.hid (hSucc.out k hlt)
      clear hcc hst
      generalize path[k] = pk at *
      have hSw := Lib.hid (swap_any w g true V P cs p pk wr (by omega) hlp hSS.out)
      go_wp2_with (fail)
      refine hSw.out.mono ?_
      rintro e w4 ⟨rfl, hb4, hnx⟩
      have hN4 := Lib.hid hnx
      have hB4 := Lib.hid hb4
      have hsu2 : Hid (folS (es, []) (path.take (k + 1)) = mvS (cs, p) pk) := by rw [Hid, hsu.out, hS.out]; rfl
      clear hnx hb4 hsu hSw
      cases hm : mvS (cs, p) pk with
      | none =>
        rw [hm] at hsu2
        have hF := Lib.hid (fol_none (hFR.out.trans (hNo.out _ hsu2.out)))
        clear hm hN4 hsu2
        dsimp only [Option.isSome_none]
        go_wp2
        go_ret2
        rw [hF.out.1, hF.out.2]
        exact ⟨none, 0, rfl, OK.nil _ _ _ _, hB4.out⟩
      | some s2 =>
        rw [hm] at hsu2
        obtain ⟨V2, P2, h2⟩ := hN4.out s2 hm
        have H2 := Lib.hid h2
        clear h2 hm hN4
        dsimp only [Option.isSome_some]
        go_wp2
        go_roundw
        case rel => exact ⟨k + 1, s2, V2, P2, by omega, by go_num, hsu2.out, H2.out⟩
        case measure => simp [intOf]; omega
    · obtain rfl : k = path.length := by omega
      have hF := Lib.hid (fol_some (hFR.out.trans (by rw [← hS.out, List.take_length])))
      obtain ⟨A5, c5, rfl, hO5⟩ := hst.code.own
      have u0 := hst.bx.cell 0
      simp only [List.getElem?_cons_zero] at u0
      have hO5h := Lib.hid hO5
      dsimp only at u0 hO5h hF
      clear hst hO5
      go_wp2
      go_ret2
      rw [hF.out.1, hF.out.2]
      exact ⟨A5, c5, by rw [show cs.length = es.length from hlc]; rfl, hO5h.out, hSS.out.be⟩
end Go.Proofs.Ythjfedidpjfboaa

/- The first inputs and the least register in which machines differ: plain, and witnessOf of the program. -/
namespace Go.Proofs.Ythjfedidpjfboaa
open Go.RowKit
set_option linter.unusedVariables false
set_option maxRecDepth 100000

def wt2 (ra rb out : List Int) : Option Int := out.find? fun r => ra.getD r.toNat 0 != rb.getD r.toNat 0
theorem wt2_none {ra rb out : List Int} (h : ∀ j, j < out.length → ra.getD (out.getD j 0).toNat 0 = rb.getD (out.getD j 0).toNat 0) : wt2 ra rb out = none := by
  unfold wt2
  rw [List.find?_eq_none]
  intro r hr
  obtain ⟨j, hj, e⟩ := List.mem_iff_getElem.1 hr
  have := h j hj
  have e9 : out.getD j 0 = r := by rw [List.getD_eq_getElem?_getD, List.getElem?_eq_getElem hj, ← e]; rfl
  rw [e9] at this
  rw [this]; simp
theorem wt2_some {ra rb out : List Int} {k : Nat} (hk : k < out.length) (hd : ra.getD out[k].toNat 0 ≠ rb.getD out[k].toNat 0) (h : ∀ j, j < k → ra.getD (out.getD j 0).toNat 0 = rb.getD (out.getD j 0).toNat 0) : wt2 ra rb out = some out[k] := by
  unfold wt2
  rw [List.find?_eq_some_iff_append]
  refine ⟨by simpa using hd, out.take k, out.drop (k + 1), ?_, fun r hr => ?_⟩
  · rw [← List.drop_eq_getElem_cons hk, List.take_append_drop]
  · obtain ⟨j, hj, e⟩ := List.mem_iff_getElem.1 hr
    rw [List.length_take] at hj
    have hj1 := Nat.lt_of_lt_of_le hj (Nat.min_le_left _ _)
    have hj2 := Nat.lt_of_lt_of_le hj (Nat.min_le_right _ _)
    have := h j hj1
    rw [List.getElem_take] at e
    have e9 : out.getD j 0 = r := by rw [List.getD_eq_getElem?_getD, List.getElem?_eq_getElem hj2, ← e]; rfl
    rw [e9] at this
    rw [this]; simp
def wtS (n : Nat) (RA RB : Nat → List Int) (out : List Int) : Option (Nat × Int) := (List.range n).findSome? fun i => (wt2 (RA i) (RB i) out).map fun r => (i, r)
theorem wtS_none {n : Nat} {RA RB : Nat → List Int} {out : List Int} (h : ∀ i, i < n → wt2 (RA i) (RB i) out = none) : wtS n RA RB out = none := by
  unfold wtS
  rw [List.findSome?_eq_none_iff]
  intro i hi
  rw [h i (List.mem_range.1 hi)]; rfl
theorem wtS_some {n k : Nat} {RA RB : Nat → List Int} {out : List Int} {r : Int} (hk : k < n) (hr : wt2 (RA k) (RB k) out = some r) (h : ∀ i, i < k → wt2 (RA i) (RB i) out = none) : wtS n RA RB out = some (k, r) := by
  unfold wtS
  obtain ⟨m, rfl⟩ : ∃ m, n = k + (1 + m) := ⟨n - k - 1, by omega⟩
  rw [List.range_add, List.findSome?_append]
  have h1 : (List.range k).findSome? (fun i => (wt2 (RA i) (RB i) out).map fun r => (i, r)) = none := by
    rw [List.findSome?_eq_none_iff]
    intro i hi
    rw [h i (List.mem_range.1 hi)]; rfl
  rw [h1, Nat.add_comm 1 m, List.range_succ_eq_map, List.map_cons, List.findSome?_cons, Nat.add_zero, hr]; rfl
def wtL (o : Option (Nat × Int)) : List Int := match o with
  | some (i, r) => [(i : Int) / 64, (i : Int) % 64, r]
  | none => []
theorem wtL_len (o : Option (Nat × Int)) : (wtL o).length ≤ 3 := by unfold wtL; split <;> simp
def WitGot (w : World) (o : Option (Nat × Int)) (e : Ending) (w' : World) : Prop := ∃ A c, e = .returned (.slice A (wtL o).length c) ∧ A.isNone = o.isNone ∧ OW w' w.heap.size w'.heap.size (.slice A (wtL o).length c) (wtL o) ∧ Below w.heap.size w w'

set_option maxHeartbeats 4000000 in
theorem witnessOf_any (gA gB : Nat) (RA RB : Nat → List Int) (L B : Nat) (A : Option Addr) (c : Nat) (out : List Int) (w : World) (hl : out.length ≤ 1048576) (hin : ∀ r ∈ out, In6 r) (hA : MB w gA RA) (hBm : MB w gB RB) (hx : IS w L B A out) (hB : B ≤ w.heap.size) :
    Calls Try.prog 121 #[.slice (some ⟨gA, 0, none⟩) 4096 4096, .slice (some ⟨gB, 0, none⟩) 4096 4096, .slice A out.length c] w (WitGot w (wtS 4096 RA RB out)) := by
  have hMA := Lib.hid hA
  have hMB := Lib.hid hBm
  have hgA := hA.lt
  have hgB := hBm.lt
  have hX := Lib.hid fun (W : World) (hW : Below w.heap.size w W) => hx.below hW hB
  have hI := Lib.hid hin
  have hIn := Lib.hid inputsAtV_any
  have hNone : Hid ((∀ i, i < 4096 → wt2 (RA i) (RB i) out = none) → wtS 4096 RA RB out = none) := fun h => wtS_none h
  have hSome : Hid (∀ (k : Nat) (r : Int), k < 4096 → wt2 (RA k) (RB k) out = some r → (∀ i, i < k → wt2 (RA i) (RB i) out = none) → wtS 4096 RA RB out = some (k, r)) := fun k r h1 h2 h3 => wtS_some h1 h2 h3
  clear hA hBm hx hB hin
  generalize wtS 4096 RA RB out = O at *
  go_enter Try.func121, Try.ntmps121
  go_wp2
  go_loopw [14] (fun i wr => ∃ k : Nat, k ≤ 4096 ∧ i = .int .i64 k ∧ (∀ i, i < k → wt2 (RA i) (RB i) out = none) ∧ Below w.heap.size w wr) (fun i _ => 4096 - (intOf i).toNat)
  case atStart => exact ⟨0, by omega, rfl, fun i hi => by omega, Below.refl _ _⟩
  case round =>
    obtain ⟨k, hk, rfl, hno, hbel⟩ := hrel
    have hNo := Lib.hid hno
    have hBL := Lib.hid hbel
    clear hno
    by_cases hlt : k < 4096
    · have hki : (k : Int) < 4096 := by omega
      have hk0 : (0 : Int) ≤ (k : Int) := by omega
      clear hbel
      obtain ⟨wo, hwo⟩ : ∃ wo : World, wo = wr := ⟨_, rfl⟩
      rw [← hwo] at hBL ⊢
      clear hwo
      go_wp2
      go_loopw [19] (fun q wr => ∃ j : Nat, j ≤ out.length ∧ q = .int .i64 j ∧ (∀ i, i < j → (RA k).getD (out.getD i 0).toNat 0 = (RB k).getD (out.getD i 0).toNat 0) ∧ Below w.heap.size w wr) (fun q _ => out.length - (intOf q).toNat)
      case atStart => exact ⟨0, Nat.zero_le _, rfl, fun i hi => by omega, hBL.out⟩
      case round =>
        obtain ⟨j, hj, rfl, hnj, hbel⟩ := hrel
        have hNj := Lib.hid hnj
        have hBj := Lib.hid hbel
        clear hnj
        by_cases hlj : j < out.length
        · obtain ⟨xb, xo, rfl, _, hc⟩ := (hX.out _ hbel) (by omega)
          have y1 := hc j hlj
          have hri := hI.out out[j] (List.getElem_mem hlj)
          have hgd : Hid (out.getD j 0 = out[j]) := by rw [Hid, List.getD_eq_getElem?_getD, List.getElem?_eq_getElem hlj]; rfl
          have hW2 : Hid ((RA k).getD out[j].toNat 0 ≠ (RB k).getD out[j].toNat 0 → wt2 (RA k) (RB k) out = some out[j]) := fun h => wt2_some hlj h hNj.out
          generalize out[j] = r at *
          unfold In6 at hri
          obtain ⟨n, rfl⟩ := Int.eq_ofNat_of_zero_le hri.1
          rw [Int.toNat_natCast] at hW2
          have hn6 : n < 6 := by omega
          have hn6i : (n : Int) < 6 := by omega
          have hn0 : (0 : Int) ≤ (n : Int) := by omega
          have cA := MB.cellM (IB.below hMA.out hbel hgA) hlt hn6
          have cB := MB.cellM (IB.below hMB.out hbel hgB) hlt hn6
          have hSj : Hid ((RA k).getD n 0 = (RB k).getD n 0 → ∀ i, i < j + 1 → (RA k).getD (out.getD i 0).toNat 0 = (RB k).getD (out.getD i 0).toNat 0) := fun h i hi => by
            by_cases e : i = j
            · subst e; rw [hgd.out, Int.toNat_natCast]; exact h
            · exact hNj.out i (by omega)
          clear hc hbel hri
          generalize (RA k).getD n 0 = ya at *
          generalize (RB k).getD n 0 = yb at *
          by_cases hy : ya = yb
          · have hq : (ya != yb) = false := by simpa using hy
            have hS2 := Lib.hid (hSj.out hy)
            clear hy hW2
            go_wp2_with (fail)
            go_quiet (fail)
            all_goals go_wp2
            all_goals go_roundw
            case rel => exact ⟨j + 1, by omega, by go_num, hS2.out, below_drewN hBj.out _⟩
            case measure => simp [intOf]; omega
          · have hq : (ya != yb) = true := by simpa using hy
            have hO := Lib.hid (hSome.out k _ hlt (hW2.out hy) hNo.out)
            clear hy hW2 hSj
            go_wp2_with (fail)
            go_quiet (fail)
            all_goals
              have hBd := Lib.hid (below_drewN hBj.out nq)
              generalize wr.drewN nq = W6 at *
              go_wp2_with (fail)
              refine (hIn.out k _ hlt).mono ?_
              rintro e w7 ⟨rfl, rfl⟩
              have hnew : IB (W6.alloc (.cells #[.int .i64 ((k : Int) / 64), .int .i64 ((k : Int) % 64), .int .i64 (n : Int)] 3)) W6.heap.size 3 [(k : Int) / 64, (k : Int) % 64, (n : Int)] := heap_alloc_new W6 _
              have hOW := Lib.hid (OW.ofIB hnew (by simp) (Nat.le_trans hBd.out.size (Nat.le_refl _)) (by simp) : OW _ w.heap.size (W6.alloc (.cells #[.int .i64 ((k : Int) / 64), .int .i64 ((k : Int) % 64), .int .i64 (n : Int)] 3)).heap.size _ _)
              have hB8 := Lib.hid (hBd.out.alloc hBd.out.size (.cells #[.int .i64 ((k : Int) / 64), .int .i64 ((k : Int) % 64), .int .i64 (n : Int)] 3))
              clear hnew cA cB y1
              go_wp2
              go_ret
              rw [hO.out]
              exact ⟨_, 3, rfl, rfl, hOW.out, hB8.out⟩
        · obtain rfl : j = out.length := by omega
          have hNk := Lib.hid (show ∀ i, i < k + 1 → wt2 (RA i) (RB i) out = none from fun i hi => by
            by_cases e : i = k
            · subst e; exact wt2_none hNj.out
            · exact hNo.out i (by omega))
          clear hbel
          go_wp2
          go_roundw
          case rel => exact ⟨k + 1, by omega, by go_num, hNk.out, hBj.out⟩
          case measure => simp [intOf]; omega
    · obtain rfl : k = 4096 := by omega
      have hO := Lib.hid (hNone.out hNo.out)
      clear hbel
      go_wp2
      go_ret
      rw [hO.out]
      exact ⟨none, 0, rfl, rfl, OW.nil _ _ _, hBL.out⟩
end Go.Proofs.Ythjfedidpjfboaa
