import Derived.Test.YtekjgngkipbefaaKMNode
import Derived.Test.YtekjgngkipbefaaKNode
import Derived.Test.YtekjgngkipbefaaLI
import Derived.WalkKit
import Derived.WalkSpells
import Derived.WalkLawsBesides
import Derived.Lib.Hide
namespace Go.Proofs.Ytekjgngkipbefaa
open Go.RowKit
set_option linter.unusedVariables false

def ResCostOfExpr (R0 : Int) (R1 : Bool) (w : World) (e : Ending) (w' : World) : Prop := e = .returned (.tuple #[.int .i64 R0, .bool R1]) ∧ Below w.heap.size w w'
set_option maxHeartbeats 4000000 in
theorem lawCostOfExpr (A0 : Option Addr) (c0 : Nat) (a0 : List Nd) (w : World) (hl0 : a0.length ≤ 9223372036854775807) (h0 : RS Nd.enc 4 w 0 w.heap.size A0 a0) (hs0 : ∀ n ∈ a0, n.op.size ≤ 9223372036854775807) (R0 : Int) (R1 : Bool)
    (hS : ∀ (L0 B0 : Nat) (A0 : Option Addr) (c0 : Nat) (w : World), a0.length ≤ 1048576 → RS Nd.enc 4 w L0 B0 A0 a0 → B0 ≤ w.heap.size → Calls Try.prog 43 #[.slice A0 a0.length c0] w (ResCostOfExpr R0 R1 w))
    (hI : ∀ (L0 B0 : Nat) (A0 : Option Addr) (c0 : Nat) (w : World), a0.length ≤ 1048576 → RS Nd.enc 4 w L0 B0 A0 a0 → B0 ≤ w.heap.size → Calls Try.prog 44 #[.slice A0 a0.length c0] w (ResCostOfExpr R0 R1 w)) :
    Calls Try.prog 12 #[.slice A0 a0.length c0] w fun e w' => e = .returned (.bool true) ∧ Below w.heap.size w w' := by
  have S := Lib.hid hS
  have I := Lib.hid hI
  have E0 := Lib.hid h0
  have Z0 := Lib.hid hs0
  clear hS hI h0 hs0
  have b0 := Lib.hid (Below.refl w.heap.size w)
  go_enter Try.func12, Try.ntmps12
  go_wp2_with (fail)
  refine (szNodeS_k 0 _ A0 c0 a0 1048576 _ hl0 (E0.out.below b0.out (Nat.le_refl _)) b0.out.size Z0.out (by omega) (by omega)).mono ?_
  rintro e w1 ⟨r0, rfl, hr0a, hr0b, hr0c, hb⟩
  have b1 := Lib.hid (b0.out.trans (hb.mono b0.out.size))
  have z1 := hb.size
  clear hb
  by_cases hr0 : 0 ≤ r0
  rotate_left
  · go_wp2
    go_ret
    exact ⟨rfl, b1.out⟩
  have hlen0 : a0.length ≤ 1048576 := by have := hr0b hr0; omega
  clear hr0b
  have e0 : (R0 != R0) = false := by simp
  have e1 : (R1 != R1) = false := by simp
  go_wp2_with (fail)
  refine (toNodeS_k 0 _ A0 c0 a0 _ hlen0 (E0.out.below b1.out (Nat.le_refl _)) b1.out.size).mono ?_
  rintro e w2 ⟨Ap0, cp0, rfl, ho, hb⟩
  have b2 := Lib.hid (b1.out.trans (hb.mono b1.out.size))
  have z2 := hb.size
  clear hb
  have op0 := Lib.hid ho
  clear ho
  go_wp2_with (fail)
  refine (S.out _ _ _ _ _ hlen0 (Nd.rs op0.out) (by omega)).mono ?_
  rintro e w3 ⟨rfl, hb⟩
  have b3 := Lib.hid (b2.out.trans (hb.mono b2.out.size))
  have z3 := hb.size
  replace op0 := Lib.hid (op0.out.chg (Chg.ofBelow (lo := 0) (hi := 0) hb) (.inr (Nat.zero_le _)))
  clear hb
  go_wp2_with (fail)
  refine (toNodeS_k 0 _ A0 c0 a0 _ hlen0 (E0.out.below b3.out (Nat.le_refl _)) b3.out.size).mono ?_
  rintro e w4 ⟨Aq0, cq0, rfl, ho, hb⟩
  have b4 := Lib.hid (b3.out.trans (hb.mono b3.out.size))
  have z4 := hb.size
  clear hb
  have oq0 := Lib.hid ho
  clear ho
  go_wp2_with (fail)
  refine (I.out _ _ _ _ _ hlen0 (Nd.rs oq0.out) (by omega)).mono ?_
  rintro e w5 ⟨rfl, hb⟩
  have b5 := Lib.hid (b4.out.trans (hb.mono b4.out.size))
  have z5 := hb.size
  replace oq0 := Lib.hid (oq0.out.chg (Chg.ofBelow (lo := 0) (hi := 0) hb) (.inr (Nat.zero_le _)))
  clear hb
  go_wp2_with (fail)
  refine (toNodeS_k 0 _ A0 c0 a0 _ hlen0 (E0.out.below b5.out (Nat.le_refl _)) b5.out.size).mono ?_
  rintro e w6 ⟨As0, cs0, rfl, ho, hb⟩
  have b6 := Lib.hid (b5.out.trans (hb.mono b5.out.size))
  have z6 := hb.size
  replace oq0 := Lib.hid (oq0.out.chg (Chg.ofBelow (lo := 0) (hi := 0) hb) (.inr (Nat.zero_le _)))
  clear hb
  have os0 := Lib.hid ho
  clear ho
  go_wp2_with (fail)
  refine (eqNodeS_k _ _ _ _ _ _ _ _ _ _ a0 a0 _ rfl rfl hlen0 (Nd.rs oq0.out) (Nd.rs os0.out) (by omega) (by omega) rfl).mono ?_
  rintro e w7 ⟨rfl, hb⟩
  have b7 := Lib.hid (b6.out.trans (hb.mono b6.out.size))
  have z7 := hb.size
  replace oq0 := Lib.hid (oq0.out.chg (Chg.ofBelow (lo := 0) (hi := 0) hb) (.inr (Nat.zero_le _)))
  replace os0 := Lib.hid (os0.out.chg (Chg.ofBelow (lo := 0) (hi := 0) hb) (.inr (Nat.zero_le _)))
  clear hb
  go_wp2
  go_ret
  exact ⟨rfl, b7.out⟩
end Go.Proofs.Ytekjgngkipbefaa
