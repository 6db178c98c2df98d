import Derived.Test.YtjnbgnnlpeoaoaaKMInstr
import Derived.WalkKit
import Derived.WalkSpells
import Derived.WalkLawsBesides
import Derived.Lib.Hide
namespace Go.Proofs.Ytjnbgnnlpeoaoaa
open Go.RowKit
set_option linter.unusedVariables false

def ResIsInstr (R0 : Bool) (w : World) (e : Ending) (w' : World) : Prop := e = .returned (.bool R0) ∧ Below w.heap.size w w'
set_option maxHeartbeats 4000000 in
theorem lawIsInstr (a0 : In) (w : World) (hs0 : a0.op.size ≤ 9223372036854775807) (R0 : Bool)
    (hS : ∀ (w : World),  Calls Try.prog 21 #[.agg #[.string a0.op, .int .i64 a0.d, .int .i64 a0.a, .int .i64 a0.b, .int .i64 a0.m]] w (ResIsInstr R0 w))
    (hI : ∀ (w : World),  Calls Try.prog 23 #[.agg #[.string a0.op, .int .i64 a0.d, .int .i64 a0.a, .int .i64 a0.b, .int .i64 a0.m]] w (ResIsInstr R0 w)) :
    Calls Try.prog 3 #[.agg #[.string a0.op, .int .i64 a0.d, .int .i64 a0.a, .int .i64 a0.b, .int .i64 a0.m]] w fun e w' => e = .returned (.bool true) ∧ Below w.heap.size w w' := by
  have S := Lib.hid hS
  have I := Lib.hid hI
  clear hS hI
  obtain ⟨op0, d0, x0, y0, m0⟩ := a0
  simp only at hs0 S I ⊢
  have b0 := Lib.hid (Below.refl w.heap.size w)
  go_enter Try.func3, Try.ntmps3
  go_wp2_with (fail)
  refine (szInstr_any op0 d0 x0 y0 m0 1048576 _ hs0 (by omega) (by omega)).mono ?_
  rintro e w1 ⟨r0, rfl, hr0a, hr0b, hr0c, hb⟩
  have bx := ((Below.refl w.heap.size w).alloc (by simp) (.cells #[.string op0, .int .i64 d0, .int .i64 x0, .int .i64 y0, .int .i64 m0] 23))
  have b1 := Lib.hid (bx.trans (hb.mono bx.size))
  have X0 := Lib.hid ((show RS In.enc 5 _ w.heap.size (w.heap.size + 1) (some ⟨w.heap.size, 0, none⟩) [(⟨op0, d0, x0, y0, m0⟩ : In)] from In.boxed _).below hb (by simp))
  have z1 : w.heap.size + 1 ≤ w1.heap.size := by have := hb.size; simp at this; omega
  clear bx hb
  by_cases hr0 : 0 ≤ r0
  rotate_left
  · go_wp2
    go_ret
    exact ⟨rfl, b1.out⟩
  clear hr0b
  have e0 : (R0 != R0) = false := by simp
  obtain ⟨xa0, xb0, xc0, xd0, xe0⟩ := In.box X0.out
  go_wp2_with (fail)
  refine (toInstr_any op0 d0 x0 y0 m0 _).mono ?_
  rintro e w2 ⟨rfl, hb⟩
  clear xa0 xb0 xc0 xd0 xe0
  have b2 := Lib.hid (b1.out.trans (hb.mono b1.out.size))
  have z2 := hb.size
  have X0 := Lib.hid (X0.out.below hb (by omega))
  clear hb
  go_wp2_with (fail)
  refine (S.out  _ ).mono ?_
  rintro e w3 ⟨rfl, hb⟩
  have b3 := Lib.hid (b2.out.trans (hb.mono b2.out.size))
  have z3 := hb.size
  have X0 := Lib.hid (X0.out.below hb (by omega))
  clear hb
  obtain ⟨xa0, xb0, xc0, xd0, xe0⟩ := In.box X0.out
  go_wp2_with (fail)
  refine (toInstr_any op0 d0 x0 y0 m0 _).mono ?_
  rintro e w4 ⟨rfl, hb⟩
  clear xa0 xb0 xc0 xd0 xe0
  have b4 := Lib.hid (b3.out.trans (hb.mono b3.out.size))
  have z4 := hb.size
  have X0 := Lib.hid (X0.out.below hb (by omega))
  clear hb
  go_wp2_with (fail)
  refine (I.out  _ ).mono ?_
  rintro e w5 ⟨rfl, hb⟩
  have b5 := Lib.hid (b4.out.trans (hb.mono b4.out.size))
  have z5 := hb.size
  have X0 := Lib.hid (X0.out.below hb (by omega))
  clear hb
  go_wp2
  go_ret
  exact ⟨rfl, b5.out⟩

def ResIsCode (R0 : Bool) (w : World) (e : Ending) (w' : World) : Prop := e = .returned (.bool R0) ∧ Below w.heap.size w w'
set_option maxHeartbeats 4000000 in
theorem lawIsCode (A0 : Option Addr) (c0 : Nat) (a0 : List In) (w : World) (hl0 : a0.length ≤ 9223372036854775807) (h0 : RS In.enc 5 w 0 w.heap.size A0 a0) (hs0 : ∀ n ∈ a0, n.op.size ≤ 9223372036854775807) (R0 : Bool)
    (hS : ∀ (L0 B0 : Nat) (A0 : Option Addr) (c0 : Nat) (w : World), a0.length ≤ 1048576 → RS In.enc 5 w L0 B0 A0 a0 → B0 ≤ w.heap.size → Calls Try.prog 25 #[.slice A0 a0.length c0] w (ResIsCode R0 w))
    (hI : ∀ (L0 B0 : Nat) (A0 : Option Addr) (c0 : Nat) (w : World), a0.length ≤ 1048576 → RS In.enc 5 w L0 B0 A0 a0 → B0 ≤ w.heap.size → Calls Try.prog 27 #[.slice A0 a0.length c0] w (ResIsCode R0 w)) :
    Calls Try.prog 4 #[.slice A0 a0.length c0] w fun e w' => e = .returned (.bool true) ∧ Below w.heap.size w w' := by
  have S := Lib.hid hS
  have I := Lib.hid hI
  have E0 := Lib.hid h0
  have Z0 := Lib.hid hs0
  clear hS hI h0 hs0
  have b0 := Lib.hid (Below.refl w.heap.size w)
  go_enter Try.func4, Try.ntmps4
  go_wp2_with (fail)
  refine (szInstrS_any 0 _ A0 c0 a0 1048576 _ hl0 (E0.out.below b0.out (Nat.le_refl _)) b0.out.size Z0.out (by omega) (by omega)).mono ?_
  rintro e w1 ⟨r0, rfl, hr0a, hr0b, hr0c, hb⟩
  have b1 := Lib.hid (b0.out.trans (hb.mono b0.out.size))
  have z1 := hb.size
  clear hb
  by_cases hr0 : 0 ≤ r0
  rotate_left
  · go_wp2
    go_ret
    exact ⟨rfl, b1.out⟩
  have hlen0 : a0.length ≤ 1048576 := by have := hr0b hr0; omega
  clear hr0b
  have e0 : (R0 != R0) = false := by simp
  go_wp2_with (fail)
  refine (toInstrS_any 0 _ A0 c0 a0 _ hlen0 (E0.out.below b1.out (Nat.le_refl _)) b1.out.size).mono ?_
  rintro e w2 ⟨Ap0, cp0, rfl, ho, hb⟩
  have b2 := Lib.hid (b1.out.trans (hb.mono b1.out.size))
  have z2 := hb.size
  clear hb
  have op0 := Lib.hid ho
  clear ho
  go_wp2_with (fail)
  refine (S.out _ _ _ _ _ hlen0 (In.rs op0.out) (by omega)).mono ?_
  rintro e w3 ⟨rfl, hb⟩
  have b3 := Lib.hid (b2.out.trans (hb.mono b2.out.size))
  have z3 := hb.size
  have op0 := Lib.hid (op0.out.chg (Chg.ofBelow (lo := 0) (hi := 0) hb) (.inr (Nat.zero_le _)))
  clear hb
  go_wp2_with (fail)
  refine (toInstrS_any 0 _ A0 c0 a0 _ hlen0 (E0.out.below b3.out (Nat.le_refl _)) b3.out.size).mono ?_
  rintro e w4 ⟨Aq0, cq0, rfl, ho, hb⟩
  have b4 := Lib.hid (b3.out.trans (hb.mono b3.out.size))
  have z4 := hb.size
  clear hb
  have oq0 := Lib.hid ho
  clear ho
  go_wp2_with (fail)
  refine (I.out _ _ _ _ _ hlen0 (In.rs oq0.out) (by omega)).mono ?_
  rintro e w5 ⟨rfl, hb⟩
  have b5 := Lib.hid (b4.out.trans (hb.mono b4.out.size))
  have z5 := hb.size
  have oq0 := Lib.hid (oq0.out.chg (Chg.ofBelow (lo := 0) (hi := 0) hb) (.inr (Nat.zero_le _)))
  clear hb
  go_wp2_with (fail)
  refine (toInstrS_any 0 _ A0 c0 a0 _ hlen0 (E0.out.below b5.out (Nat.le_refl _)) b5.out.size).mono ?_
  rintro e w6 ⟨As0, cs0, rfl, ho, hb⟩
  have b6 := Lib.hid (b5.out.trans (hb.mono b5.out.size))
  have z6 := hb.size
  have oq0 := Lib.hid (oq0.out.chg (Chg.ofBelow (lo := 0) (hi := 0) hb) (.inr (Nat.zero_le _)))
  clear hb
  have os0 := Lib.hid ho
  clear ho
  go_wp2_with (fail)
  refine (eqInstrS_any _ _ _ _ _ _ _ _ _ _ a0 a0 _ rfl rfl hlen0 (In.rs oq0.out) (In.rs os0.out) (by omega) (by omega) rfl).mono ?_
  rintro e w7 ⟨rfl, hb⟩
  have b7 := Lib.hid (b6.out.trans (hb.mono b6.out.size))
  have z7 := hb.size
  have oq0 := Lib.hid (oq0.out.chg (Chg.ofBelow (lo := 0) (hi := 0) hb) (.inr (Nat.zero_le _)))
  have os0 := Lib.hid (os0.out.chg (Chg.ofBelow (lo := 0) (hi := 0) hb) (.inr (Nat.zero_le _)))
  clear hb
  go_wp2
  go_ret
  exact ⟨rfl, b7.out⟩

def ResCostOfInstr (R0 : Int) (R1 : Bool) (w : World) (e : Ending) (w' : World) : Prop := e = .returned (.tuple #[.int .i64 R0, .bool R1]) ∧ Below w.heap.size w w'
set_option maxHeartbeats 4000000 in
theorem lawCostOfInstr (a0 : In) (w : World) (hs0 : a0.op.size ≤ 9223372036854775807) (R0 : Int) (R1 : Bool)
    (hS : ∀ (w : World),  Calls Try.prog 29 #[.agg #[.string a0.op, .int .i64 a0.d, .int .i64 a0.a, .int .i64 a0.b, .int .i64 a0.m]] w (ResCostOfInstr R0 R1 w))
    (hI : ∀ (w : World),  Calls Try.prog 30 #[.agg #[.string a0.op, .int .i64 a0.d, .int .i64 a0.a, .int .i64 a0.b, .int .i64 a0.m]] w (ResCostOfInstr R0 R1 w)) :
    Calls Try.prog 5 #[.agg #[.string a0.op, .int .i64 a0.d, .int .i64 a0.a, .int .i64 a0.b, .int .i64 a0.m]] w fun e w' => e = .returned (.bool true) ∧ Below w.heap.size w w' := by
  have S := Lib.hid hS
  have I := Lib.hid hI
  clear hS hI
  obtain ⟨op0, d0, x0, y0, m0⟩ := a0
  simp only at hs0 S I ⊢
  have b0 := Lib.hid (Below.refl w.heap.size w)
  go_enter Try.func5, Try.ntmps5
  go_wp2_with (fail)
  refine (szInstr_any op0 d0 x0 y0 m0 1048576 _ hs0 (by omega) (by omega)).mono ?_
  rintro e w1 ⟨r0, rfl, hr0a, hr0b, hr0c, hb⟩
  have bx := ((Below.refl w.heap.size w).alloc (by simp) (.cells #[.string op0, .int .i64 d0, .int .i64 x0, .int .i64 y0, .int .i64 m0] 23))
  have b1 := Lib.hid (bx.trans (hb.mono bx.size))
  have X0 := Lib.hid ((show RS In.enc 5 _ w.heap.size (w.heap.size + 1) (some ⟨w.heap.size, 0, none⟩) [(⟨op0, d0, x0, y0, m0⟩ : In)] from In.boxed _).below hb (by simp))
  have z1 : w.heap.size + 1 ≤ w1.heap.size := by have := hb.size; simp at this; omega
  clear bx hb
  by_cases hr0 : 0 ≤ r0
  rotate_left
  · go_wp2
    go_ret
    exact ⟨rfl, b1.out⟩
  clear hr0b
  have e0 : (R0 != R0) = false := by simp
  have e1 : (R1 != R1) = false := by simp
  obtain ⟨xa0, xb0, xc0, xd0, xe0⟩ := In.box X0.out
  go_wp2_with (fail)
  refine (toInstr_any op0 d0 x0 y0 m0 _).mono ?_
  rintro e w2 ⟨rfl, hb⟩
  clear xa0 xb0 xc0 xd0 xe0
  have b2 := Lib.hid (b1.out.trans (hb.mono b1.out.size))
  have z2 := hb.size
  have X0 := Lib.hid (X0.out.below hb (by omega))
  clear hb
  go_wp2_with (fail)
  refine (S.out  _ ).mono ?_
  rintro e w3 ⟨rfl, hb⟩
  have b3 := Lib.hid (b2.out.trans (hb.mono b2.out.size))
  have z3 := hb.size
  have X0 := Lib.hid (X0.out.below hb (by omega))
  clear hb
  obtain ⟨xa0, xb0, xc0, xd0, xe0⟩ := In.box X0.out
  go_wp2_with (fail)
  refine (toInstr_any op0 d0 x0 y0 m0 _).mono ?_
  rintro e w4 ⟨rfl, hb⟩
  clear xa0 xb0 xc0 xd0 xe0
  have b4 := Lib.hid (b3.out.trans (hb.mono b3.out.size))
  have z4 := hb.size
  have X0 := Lib.hid (X0.out.below hb (by omega))
  clear hb
  go_wp2_with (fail)
  refine (I.out  _ ).mono ?_
  rintro e w5 ⟨rfl, hb⟩
  have b5 := Lib.hid (b4.out.trans (hb.mono b4.out.size))
  have z5 := hb.size
  have X0 := Lib.hid (X0.out.below hb (by omega))
  clear hb
  go_wp2
  go_ret
  exact ⟨rfl, b5.out⟩

def ResCodeCost (R0 : Int) (R1 : Bool) (w : World) (e : Ending) (w' : World) : Prop := e = .returned (.tuple #[.int .i64 R0, .bool R1]) ∧ Below w.heap.size w w'
set_option maxHeartbeats 4000000 in
theorem lawCodeCost (A0 : Option Addr) (c0 : Nat) (a0 : List In) (w : World) (hl0 : a0.length ≤ 9223372036854775807) (h0 : RS In.enc 5 w 0 w.heap.size A0 a0) (hs0 : ∀ n ∈ a0, n.op.size ≤ 9223372036854775807) (R0 : Int) (R1 : Bool)
    (hS : ∀ (L0 B0 : Nat) (A0 : Option Addr) (c0 : Nat) (w : World), a0.length ≤ 1048576 → RS In.enc 5 w L0 B0 A0 a0 → B0 ≤ w.heap.size → Calls Try.prog 31 #[.slice A0 a0.length c0] w (ResCodeCost R0 R1 w))
    (hI : ∀ (L0 B0 : Nat) (A0 : Option Addr) (c0 : Nat) (w : World), a0.length ≤ 1048576 → RS In.enc 5 w L0 B0 A0 a0 → B0 ≤ w.heap.size → Calls Try.prog 32 #[.slice A0 a0.length c0] w (ResCodeCost R0 R1 w)) :
    Calls Try.prog 6 #[.slice A0 a0.length c0] w fun e w' => e = .returned (.bool true) ∧ Below w.heap.size w w' := by
  have S := Lib.hid hS
  have I := Lib.hid hI
  have E0 := Lib.hid h0
  have Z0 := Lib.hid hs0
  clear hS hI h0 hs0
  have b0 := Lib.hid (Below.refl w.heap.size w)
  go_enter Try.func6, Try.ntmps6
  go_wp2_with (fail)
  refine (szInstrS_any 0 _ A0 c0 a0 1048576 _ hl0 (E0.out.below b0.out (Nat.le_refl _)) b0.out.size Z0.out (by omega) (by omega)).mono ?_
  rintro e w1 ⟨r0, rfl, hr0a, hr0b, hr0c, hb⟩
  have b1 := Lib.hid (b0.out.trans (hb.mono b0.out.size))
  have z1 := hb.size
  clear hb
  by_cases hr0 : 0 ≤ r0
  rotate_left
  · go_wp2
    go_ret
    exact ⟨rfl, b1.out⟩
  have hlen0 : a0.length ≤ 1048576 := by have := hr0b hr0; omega
  clear hr0b
  have e0 : (R0 != R0) = false := by simp
  have e1 : (R1 != R1) = false := by simp
  go_wp2_with (fail)
  refine (toInstrS_any 0 _ A0 c0 a0 _ hlen0 (E0.out.below b1.out (Nat.le_refl _)) b1.out.size).mono ?_
  rintro e w2 ⟨Ap0, cp0, rfl, ho, hb⟩
  have b2 := Lib.hid (b1.out.trans (hb.mono b1.out.size))
  have z2 := hb.size
  clear hb
  have op0 := Lib.hid ho
  clear ho
  go_wp2_with (fail)
  refine (S.out _ _ _ _ _ hlen0 (In.rs op0.out) (by omega)).mono ?_
  rintro e w3 ⟨rfl, hb⟩
  have b3 := Lib.hid (b2.out.trans (hb.mono b2.out.size))
  have z3 := hb.size
  have op0 := Lib.hid (op0.out.chg (Chg.ofBelow (lo := 0) (hi := 0) hb) (.inr (Nat.zero_le _)))
  clear hb
  go_wp2_with (fail)
  refine (toInstrS_any 0 _ A0 c0 a0 _ hlen0 (E0.out.below b3.out (Nat.le_refl _)) b3.out.size).mono ?_
  rintro e w4 ⟨Aq0, cq0, rfl, ho, hb⟩
  have b4 := Lib.hid (b3.out.trans (hb.mono b3.out.size))
  have z4 := hb.size
  clear hb
  have oq0 := Lib.hid ho
  clear ho
  go_wp2_with (fail)
  refine (I.out _ _ _ _ _ hlen0 (In.rs oq0.out) (by omega)).mono ?_
  rintro e w5 ⟨rfl, hb⟩
  have b5 := Lib.hid (b4.out.trans (hb.mono b4.out.size))
  have z5 := hb.size
  have oq0 := Lib.hid (oq0.out.chg (Chg.ofBelow (lo := 0) (hi := 0) hb) (.inr (Nat.zero_le _)))
  clear hb
  go_wp2_with (fail)
  refine (toInstrS_any 0 _ A0 c0 a0 _ hlen0 (E0.out.below b5.out (Nat.le_refl _)) b5.out.size).mono ?_
  rintro e w6 ⟨As0, cs0, rfl, ho, hb⟩
  have b6 := Lib.hid (b5.out.trans (hb.mono b5.out.size))
  have z6 := hb.size
  have oq0 := Lib.hid (oq0.out.chg (Chg.ofBelow (lo := 0) (hi := 0) hb) (.inr (Nat.zero_le _)))
  clear hb
  have os0 := Lib.hid ho
  clear ho
  go_wp2_with (fail)
  refine (eqInstrS_any _ _ _ _ _ _ _ _ _ _ a0 a0 _ rfl rfl hlen0 (In.rs oq0.out) (In.rs os0.out) (by omega) (by omega) rfl).mono ?_
  rintro e w7 ⟨rfl, hb⟩
  have b7 := Lib.hid (b6.out.trans (hb.mono b6.out.size))
  have z7 := hb.size
  have oq0 := Lib.hid (oq0.out.chg (Chg.ofBelow (lo := 0) (hi := 0) hb) (.inr (Nat.zero_le _)))
  have os0 := Lib.hid (os0.out.chg (Chg.ofBelow (lo := 0) (hi := 0) hb) (.inr (Nat.zero_le _)))
  clear hb
  go_wp2
  go_ret
  exact ⟨rfl, b7.out⟩
end Go.Proofs.Ytjnbgnnlpeoaoaa
