import Derived.Test.YthjfedidpjfboaaKMInstr
import Derived.Test.YthjfedidpjfboaaKInstr
import Derived.Test.YthjfedidpjfboaaLI
import Derived.WalkKit
import Derived.WalkSpells
import Derived.WalkLawsBesides
import Derived.Lib.Hide
import Derived.StillTailTactics
import Derived.Deep.QuietTactic
import Derived.BigQuiet
import Derived.Deep.AppendLies
/- ReachedWords' law, for answers whose capacity the slice does not bear (slices.Clip). -/
namespace Go.Proofs.Ythjfedidpjfboaa
open Go.RowKit
set_option linter.unusedVariables false

theorem markIntS_w (lo hi : Nat) (A : Option Addr) (c0 c : Nat) (xs : List Int) (k0 : Int) (w : World) (hl : xs.length ≤ 1048576) (hk0 : 0 ≤ k0) (hk1 : k0 ≤ 1000000000) (hx : OW w lo hi (.slice A xs.length c) xs) :
    Calls Try.prog 33 #[.slice A xs.length c0, .int .i64 k0] w (MarkedIs w lo hi (.slice A xs.length c) xs k0) := by
  have hX0 : Hid (OW w lo hi (.slice A xs.length c) (markedTo xs k0 0)) := hx
  have hG0 := Lib.hid (World.grownBy.refl w (Value.slice A xs.length c).ownBlock)
  clear hx
  go_enter Try.func33, Try.ntmps33
  go_wp2
  go_loopw [1, 5] (fun q i wr => ∃ k : Nat, k ≤ xs.length ∧ i = .int .i64 k ∧ q = .int .i64 (k0 + k) ∧ OW wr lo hi (.slice A xs.length c) (markedTo xs k0 k) ∧ w.grownBy wr (Value.slice A xs.length c).ownBlock) (fun _ i _ => xs.length - (intOf i).toNat)
  case atStart => exact ⟨0, Nat.zero_le _, rfl, by simp, hX0.out, hG0.out⟩
  case round =>
    obtain ⟨k, hk, rfl, rfl, how, hgr⟩ := hrel
    have hOW := Lib.hid how
    have hGR := Lib.hid hgr
    clear how hgr
    by_cases hlt : k < xs.length
    · obtain ⟨A', c', hv, his⟩ := hOW.out.form
      rw [markedTo_len hk] at hv
      obtain ⟨rfl, rfl⟩ : A = A' ∧ c = c' := by injection hv with a b c; exact ⟨a, c⟩
      obtain ⟨g, hA⟩ : ∃ g, A = some ⟨g, 0, none⟩ := by
        rcases hOW.out.1.2 with ⟨h1, h0⟩ | ⟨g, cap, cur, h1, _⟩
        · rw [markedTo_len hk] at h0; omega
        · injection h1 with a _ _; exact ⟨g, a⟩
      subst hA
      have hown := hOW.out.1
      rw [markedTo_len hk] at hown
      have hst := hown.stored k (.int .i64 (k0 + k))
      have hcell := hown.cellAt k (by omega)
      have hfr := hown.frozenAt k
      rw [List.getElem?_map, List.getElem?_eq_getElem (by rw [markedTo_len hk]; exact hlt)] at hcell
      simp only [Option.map_some] at hcell
      generalize (markedTo xs k0 k)[k]'(by rw [markedTo_len hk]; exact hlt) = z at *
      have hN : Hid (OW (wr.setCell ⟨g, k, none⟩ (.int .i64 (k0 + k))) lo hi (.slice (some ⟨g, 0, none⟩) xs.length c) (markedTo xs k0 (k + 1))) := by
        refine ⟨?_, hOW.out.2⟩
        have h1 := hst.1
        rw [← List.map_set, markedTo_succ hlt] at h1
        rw [markedTo_len (by omega)]; exact h1
      have hG2 : Hid (w.grownBy (wr.setCell ⟨g, k, none⟩ (.int .i64 (k0 + k))) (Value.slice (some ⟨g, 0, none⟩) xs.length c).ownBlock) := by
        have h1 := hst.2
        exact ⟨h1.os.trans hGR.out.os, h1.tape.trans hGR.out.tape, h1.output.trans hGR.out.output, Nat.le_trans hGR.out.size h1.size, fun j hj hne => (h1.block j (Nat.lt_of_lt_of_le hj hGR.out.size) hne).trans (hGR.out.block j hj hne)⟩
      clear hst hown his hv
      go_wp2
      go_roundw
      case rel => exact ⟨k + 1, by omega, by go_num, by go_num, hN.out, hG2.out⟩
      case measure => simp [intOf]; omega
    · obtain rfl : k = xs.length := by omega
      have hN : Hid (OW wr lo hi (.slice A xs.length c) (marks k0 xs.length)) := by
        have := hOW.out; rwa [show markedTo xs k0 xs.length = marks k0 xs.length by simp [markedTo]] at this
      go_wp2
      go_ret
      exact ⟨rfl, hN.out, hGR.out⟩

theorem markIntS_v (lo hi : Nat) (A : Option Addr) (c0 c : Nat) (xs : List Int) (k0 : Int) (w : World) (hl : xs.length ≤ 1048576) (hk0 : 0 ≤ k0) (hk1 : k0 ≤ 1000000000) (hx : OW w lo hi (.slice A xs.length c) xs) :
    Calls Try.prog 33 #[.slice A xs.length c0, .int .i64 k0] w (MarkedI w lo hi (.slice A xs.length c) xs.length k0) :=
  (markIntS_w lo hi A c0 c xs k0 w hl hk0 hk1 hx).mono fun _ _ h => ⟨h.1, h.2.1, h.chg hx⟩

def ResReachedWordsV (R0 : List (Int)) (R1 : Bool) (w : World) (e : Ending) (w' : World) : Prop := ∃ (A0 : Option Addr) (c0 c9 : Nat), e = .returned (.tuple #[.slice A0 R0.length c0, .bool R1]) ∧ OW w' w.heap.size w'.heap.size (.slice A0 R0.length c9) R0 ∧ Below w.heap.size w w'
set_option maxHeartbeats 4000000 in
theorem lawReachedWordsV (A0 : Option Addr) (c0 : Nat) (a0 : List In) (a1 : Int) (w : World) (hl0 : a0.length ≤ 9223372036854775807) (h0 : RS In.enc 5 w 0 w.heap.size A0 a0) (hs0 : ∀ n ∈ a0, n.op.size ≤ 9223372036854775807) (R0 : List (Int)) (R1 : Bool) (hR0 : R0.length ≤ 1048576)
    (hS : ∀ (L0 B0 : Nat) (A0 : Option Addr) (c0 : Nat) (w : World), a0.length ≤ 1048576 → RS In.enc 5 w L0 B0 A0 a0 → B0 ≤ w.heap.size → Calls Try.prog 63 #[.slice A0 a0.length c0, .int .i64 a1] w (ResReachedWordsV R0 R1 w))
    (hI : ∀ (L0 B0 : Nat) (A0 : Option Addr) (c0 : Nat) (w : World), a0.length ≤ 1048576 → RS In.enc 5 w L0 B0 A0 a0 → B0 ≤ w.heap.size → Calls Try.prog 64 #[.slice A0 a0.length c0, .int .i64 a1] w (ResReachedWordsV R0 R1 w)) :
    Calls Try.prog 16 #[.slice A0 a0.length c0, .int .i64 a1] w fun e w' => e = .returned (.bool true) ∧ Below w.heap.size w w' := by
  have S := Lib.hid hS
  have I := Lib.hid hI
  have E0 := Lib.hid h0
  have Z0 := Lib.hid hs0
  clear hS hI h0 hs0
  have b0 := Lib.hid (Below.refl w.heap.size w)
  go_enter Try.func16, Try.ntmps16
  go_wp2_with (fail)
  refine (szInstrS_any 0 _ A0 c0 a0 1048576 _ hl0 (E0.out.below b0.out (Nat.le_refl _)) b0.out.size Z0.out (by omega) (by omega)).mono ?_
  rintro e w1 ⟨r0, rfl, hr0a, hr0b, hr0c, hb⟩
  have b1 := Lib.hid (b0.out.trans (hb.mono b0.out.size))
  have z1 := hb.size
  clear hb
  by_cases hr0 : 0 ≤ r0
  rotate_left
  · go_wp2
    go_ret
    exact ⟨rfl, b1.out⟩
  have hlen0 : a0.length ≤ 1048576 := by have := hr0b hr0; omega
  clear hr0b
  have e1 : (R1 != R1) = false := by simp
  go_wp2_with (fail)
  refine (toInstrS_any 0 _ A0 c0 a0 _ hlen0 (E0.out.below b1.out (Nat.le_refl _)) b1.out.size).mono ?_
  rintro e w2 ⟨Ap0, cp0, rfl, ho, hb⟩
  have b2 := Lib.hid (b1.out.trans (hb.mono b1.out.size))
  have z2 := hb.size
  clear hb
  have op0 := Lib.hid ho
  clear ho
  go_wp2_with (fail)
  refine (S.out _ _ _ _ _ hlen0 (In.rs op0.out) (by omega)).mono ?_
  rintro e w3 ⟨AW0, cW0, xW0, rfl, ho0, hb⟩
  have b3 := Lib.hid (b2.out.trans (hb.mono b2.out.size))
  have z3 := hb.size
  replace op0 := Lib.hid (op0.out.chg (Chg.ofBelow (lo := 0) (hi := 0) hb) (.inr (Nat.zero_le _)))
  clear hb
  have oW0 := Lib.hid ho0
  clear ho0
  go_wp2_with (fail)
  refine (toInstrS_any 0 _ A0 c0 a0 _ hlen0 (E0.out.below b3.out (Nat.le_refl _)) b3.out.size).mono ?_
  rintro e w4 ⟨Aq0, cq0, rfl, ho, hb⟩
  have b4 := Lib.hid (b3.out.trans (hb.mono b3.out.size))
  have z4 := hb.size
  replace oW0 := Lib.hid (oW0.out.chg (Chg.ofBelow (lo := 0) (hi := 0) hb) (.inr (Nat.zero_le _)))
  clear hb
  have oq0 := Lib.hid ho
  clear ho
  go_wp2_with (fail)
  refine (I.out _ _ _ _ _ hlen0 (In.rs oq0.out) (by omega)).mono ?_
  rintro e w5 ⟨AG0, cG0, xG0, rfl, ho0, hb⟩
  have b5 := Lib.hid (b4.out.trans (hb.mono b4.out.size))
  have z5 := hb.size
  replace oW0 := Lib.hid (oW0.out.chg (Chg.ofBelow (lo := 0) (hi := 0) hb) (.inr (Nat.zero_le _)))
  replace oq0 := Lib.hid (oq0.out.chg (Chg.ofBelow (lo := 0) (hi := 0) hb) (.inr (Nat.zero_le _)))
  clear hb
  have oG0 := Lib.hid ho0
  clear ho0
  go_wp2_with (fail)
  refine (eqIntS_any _ _ _ _ _ _ _ _ _ _ R0 R0 _ rfl rfl hR0 (OW.rs oG0.out) (OW.rs oW0.out) (by omega) (by omega) rfl).mono ?_
  rintro e w6 ⟨rfl, hb⟩
  have b6 := Lib.hid (b5.out.trans (hb.mono b5.out.size))
  have z6 := hb.size
  replace oW0 := Lib.hid (oW0.out.chg (Chg.ofBelow (lo := 0) (hi := 0) hb) (.inr (Nat.zero_le _)))
  replace oq0 := Lib.hid (oq0.out.chg (Chg.ofBelow (lo := 0) (hi := 0) hb) (.inr (Nat.zero_le _)))
  replace oG0 := Lib.hid (oG0.out.chg (Chg.ofBelow (lo := 0) (hi := 0) hb) (.inr (Nat.zero_le _)))
  clear hb
  go_wp2_with (fail)
  refine (toInstrS_any 0 _ A0 c0 a0 _ hlen0 (E0.out.below b6.out (Nat.le_refl _)) b6.out.size).mono ?_
  rintro e w7 ⟨As0, cs0, rfl, ho, hb⟩
  have b7 := Lib.hid (b6.out.trans (hb.mono b6.out.size))
  have z7 := hb.size
  replace oW0 := Lib.hid (oW0.out.chg (Chg.ofBelow (lo := 0) (hi := 0) hb) (.inr (Nat.zero_le _)))
  replace oq0 := Lib.hid (oq0.out.chg (Chg.ofBelow (lo := 0) (hi := 0) hb) (.inr (Nat.zero_le _)))
  replace oG0 := Lib.hid (oG0.out.chg (Chg.ofBelow (lo := 0) (hi := 0) hb) (.inr (Nat.zero_le _)))
  clear hb
  have os0 := Lib.hid ho
  clear ho
  go_wp2_with (fail)
  refine (eqInstrS_any _ _ _ _ _ _ _ _ _ _ a0 a0 _ rfl rfl hlen0 (In.rs oq0.out) (In.rs os0.out) (by omega) (by omega) rfl).mono ?_
  rintro e w8 ⟨rfl, hb⟩
  have b8 := Lib.hid (b7.out.trans (hb.mono b7.out.size))
  have z8 := hb.size
  replace oW0 := Lib.hid (oW0.out.chg (Chg.ofBelow (lo := 0) (hi := 0) hb) (.inr (Nat.zero_le _)))
  replace oq0 := Lib.hid (oq0.out.chg (Chg.ofBelow (lo := 0) (hi := 0) hb) (.inr (Nat.zero_le _)))
  replace oG0 := Lib.hid (oG0.out.chg (Chg.ofBelow (lo := 0) (hi := 0) hb) (.inr (Nat.zero_le _)))
  replace os0 := Lib.hid (os0.out.chg (Chg.ofBelow (lo := 0) (hi := 0) hb) (.inr (Nat.zero_le _)))
  clear hb
  go_wp2_with (fail)
  refine (markInstrS_any _ _ _ _ a0 (1) _ hlen0 (by omega) (by omega) oq0.out).mono ?_
  rintro e w9 ⟨rfl, _, hc⟩
  have b9 := Lib.hid (below_chg b8.out hc b8.out.size (by omega))
  have z9 := hc.size
  replace oW0 := Lib.hid (oW0.out.chg hc (by omega))
  replace oG0 := Lib.hid (oG0.out.chg hc (by omega))
  clear hc
  have hk : (0 : Int) ≤ 1 + 5 * (a0.length : Int) := by omega
  go_wp2_with (fail)
  refine (eqIntS_any _ _ _ _ _ _ _ _ _ _ R0 R0 _ rfl rfl hR0 (OW.rs oG0.out) (OW.rs oW0.out) (by omega) (by omega) rfl).mono ?_
  rintro e w10 ⟨rfl, hb⟩
  have b10 := Lib.hid (b9.out.trans (hb.mono b9.out.size))
  have z10 := hb.size
  replace oW0 := Lib.hid (oW0.out.chg (Chg.ofBelow (lo := 0) (hi := 0) hb) (.inr (Nat.zero_le _)))
  replace oG0 := Lib.hid (oG0.out.chg (Chg.ofBelow (lo := 0) (hi := 0) hb) (.inr (Nat.zero_le _)))
  clear hb
  go_wp2_with (fail)
  refine (markIntS_v _ _ _ _ _ R0 (1) _ hR0 (by omega) (by omega) oG0.out).mono ?_
  rintro e w11 ⟨rfl, ho, hc⟩
  have b11 := Lib.hid (below_chg b10.out hc b10.out.size (by omega))
  have z11 := hc.size
  replace oW0 := Lib.hid (oW0.out.chg hc (by omega))
  clear hc
  replace oG0 := Lib.hid ho
  clear ho
  have hq : (0 : Int) ≤ 1 + (R0.length : Int) := by omega
  go_wp2_with (fail)
  refine (heldIntS_any _ _ _ _ _ 1 _ hR0 (by omega) (by omega) (OW.rs oG0.out) ).mono ?_
  rintro e w_ ⟨rfl, rfl⟩
  go_wp2_with (fail)
  refine (toInstrS_any 0 _ A0 c0 a0 _ hlen0 (E0.out.below b11.out (Nat.le_refl _)) b11.out.size).mono ?_
  rintro e w12 ⟨Ah0, ch0, rfl, ho, hb⟩
  have b12 := Lib.hid (b11.out.trans (hb.mono b11.out.size))
  have z12 := hb.size
  replace oW0 := Lib.hid (oW0.out.chg (Chg.ofBelow (lo := 0) (hi := 0) hb) (.inr (Nat.zero_le _)))
  replace oG0 := Lib.hid (oG0.out.chg (Chg.ofBelow (lo := 0) (hi := 0) hb) (.inr (Nat.zero_le _)))
  clear hb
  have oh0 := Lib.hid ho
  clear ho
  go_wp2_with (fail)
  refine (I.out _ _ _ _ _ hlen0 (In.rs oh0.out) (by omega)).mono ?_
  rintro e w13 ⟨AH0, cH0, xH0, rfl, ho0, hb⟩
  have b13 := Lib.hid (b12.out.trans (hb.mono b12.out.size))
  have z13 := hb.size
  replace oW0 := Lib.hid (oW0.out.chg (Chg.ofBelow (lo := 0) (hi := 0) hb) (.inr (Nat.zero_le _)))
  replace oG0 := Lib.hid (oG0.out.chg (Chg.ofBelow (lo := 0) (hi := 0) hb) (.inr (Nat.zero_le _)))
  replace oh0 := Lib.hid (oh0.out.chg (Chg.ofBelow (lo := 0) (hi := 0) hb) (.inr (Nat.zero_le _)))
  clear hb
  have oH0 := Lib.hid ho0
  clear ho0
  go_wp2_with (fail)
  refine (eqIntS_any _ _ _ _ _ _ _ _ _ _ R0 R0 _ rfl rfl hR0 (OW.rs oH0.out) (OW.rs oW0.out) (by omega) (by omega) rfl).mono ?_
  rintro e w14 ⟨rfl, hb⟩
  have b14 := Lib.hid (b13.out.trans (hb.mono b13.out.size))
  have z14 := hb.size
  replace oW0 := Lib.hid (oW0.out.chg (Chg.ofBelow (lo := 0) (hi := 0) hb) (.inr (Nat.zero_le _)))
  replace oG0 := Lib.hid (oG0.out.chg (Chg.ofBelow (lo := 0) (hi := 0) hb) (.inr (Nat.zero_le _)))
  replace oh0 := Lib.hid (oh0.out.chg (Chg.ofBelow (lo := 0) (hi := 0) hb) (.inr (Nat.zero_le _)))
  replace oH0 := Lib.hid (oH0.out.chg (Chg.ofBelow (lo := 0) (hi := 0) hb) (.inr (Nat.zero_le _)))
  clear hb
  go_wp2_with (fail)
  refine (heldIntS_any _ _ _ _ _ 1 _ hR0 (by omega) (by omega) (OW.rs oG0.out) ).mono ?_
  rintro e w_ ⟨rfl, rfl⟩
  go_wp2
  go_ret
  exact ⟨rfl, b14.out⟩
end Go.Proofs.Ythjfedidpjfboaa
