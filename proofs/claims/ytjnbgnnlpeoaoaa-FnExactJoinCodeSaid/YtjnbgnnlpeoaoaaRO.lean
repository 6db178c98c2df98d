import Derived.Test.YtjnbgnnlpeoaoaaRN
import Derived.WalkKit
import Derived.WalkSpells
import Derived.WalkLawsBesides
import Derived.Lib.Hide
namespace Go.Proofs.Ytjnbgnnlpeoaoaa
open Go.RowKit
set_option linter.unusedVariables false
set_option maxRecDepth 100000

theorem IS.take {w : World} {L B : Nat} {A : Option Addr} {xs : List Int} (h : IS w L B A xs) (k : Nat) : IS w L B A (xs.take k) := by
  intro hn
  rw [List.length_take] at hn
  obtain ⟨b, o, e, hb, hc⟩ := h (by omega)
  refine ⟨b, o, e, hb, fun i hi => ?_⟩
  have hi' : i < xs.length := by rw [List.length_take] at hi; omega
  rw [List.getElem_take]; exact hc i hi'
set_option maxHeartbeats 1000000 in
theorem areRegisters_any (L B : Nat) (A : Option Addr) (c : Nat) (xs : List Int) (w : World) (hl : xs.length ≤ 1048576) (hx : IS w L B A xs) :
    Calls Try.prog 97 #[.slice A xs.length c] w fun e w' => e = .returned (.bool (riseB xs)) ∧ w = w' := by
  have hX := Lib.hid hx; clear hx
  go_enter Try.func97, Try.ntmps97
  go_wp2
  go_loop [7] (fun i => ∃ k : Nat, k ≤ xs.length ∧ i = .int .i64 k ∧ riseB (xs.take k) = true) (fun i => xs.length - (intOf i).toNat)
  case atStart => exact ⟨0, Nat.zero_le _, rfl, rfl⟩
  case round =>
    obtain ⟨k, hk, rfl, hh⟩ := hrel
    have hH := Lib.hid hh; clear hh
    by_cases hlt : k < xs.length
    · obtain ⟨b, o, rfl, _, hc⟩ := hX.out (by omega)
      cases k with
      | zero =>
        have hcell : w.cell? ⟨b, o, none⟩ = _ := hc 0 hlt
        clear hc
        have hNo := Lib.hid (rise_reg hlt)
        have hS := Lib.hid (rise_snoc0 hlt)
        generalize xs[0] = x at *
        cases hb : reg x
        · have hF := Lib.hid (hNo.out hb)
          go_wp2_with (go_at_call 70; refine (isRegister_any _ _).mono ?_; rintro e w' ⟨rfl, rfl⟩)
          go_ret
          exact ⟨ret_bool hF.out.symm, rfl⟩
        · have hS' := Lib.hid (hS.out hb)
          go_wp2_with (go_at_call 70; refine (isRegister_any _ _).mono ?_; rintro e w' ⟨rfl, rfl⟩)
          go_round
          case rel => exact ⟨1, by omega, by go_num, hS'.out⟩
          case measure => simp [intOf]; omega
      | succ k =>
        have hcell := hc (k + 1) hlt
        have hcell2 := hc k (by omega)
        clear hc
        have hNo := Lib.hid (rise_reg hlt)
        have hLe := Lib.hid (rise_le hlt)
        have hS := Lib.hid (rise_snoc hlt hH.out)
        generalize xs[k + 1] = x at *
        generalize xs[k] = y at *
        cases hb : reg x
        · have hF := Lib.hid (hNo.out hb)
          go_wp2_with (go_at_call 70; refine (isRegister_any _ _).mono ?_; rintro e w' ⟨rfl, rfl⟩)
          go_ret
          exact ⟨ret_bool hF.out.symm, rfl⟩
        · by_cases hxy : x ≤ y
          · have hF := Lib.hid (hLe.out hxy)
            go_wp2_with (go_at_call 70; refine (isRegister_any _ _).mono ?_; rintro e w' ⟨rfl, rfl⟩)
            go_ret
            exact ⟨ret_bool hF.out.symm, rfl⟩
          · have hS' := Lib.hid (hS.out hb (by omega))
            go_wp2_with (go_at_call 70; refine (isRegister_any _ _).mono ?_; rintro e w' ⟨rfl, rfl⟩)
            go_round
            case rel => exact ⟨k + 2, by omega, by go_num, hS'.out⟩
            case measure => simp [intOf]; omega
    · obtain rfl : k = xs.length := by omega
      go_wp2
      go_ret
      exact ⟨ret_bool (by have := hH.out; rw [List.take_length] at this; rw [this]), rfl⟩

set_option maxHeartbeats 1000000 in
theorem areNames_any (L B : Nat) (A : Option Addr) (c : Nat) (xs : List Int) (w : World) (hl : xs.length ≤ 1048576) (hx : IS w L B A xs) (hB : B ≤ w.heap.size) :
    Calls Try.prog 107 #[.slice A xs.length c] w fun e w' => e = .returned (.bool (namesOk xs)) ∧ Below w.heap.size w w' := by
  by_cases h6 : xs.length = 6
  · obtain ⟨b, o, rfl, _, _⟩ := hx (by omega)
    have hC := Lib.hid (CloneI_any b o c xs L B w hl hx hB)
    have hN : Hid (namesOk xs = riseB (sorted xs)) := by rw [Hid, rise_sorted, namesOk, h6]; rfl
    rw [h6] at hC ⊢
    clear hx
    go_enter Try.func107, Try.ntmps107
    go_wp2_with (fail)
    refine hC.out.mono ?_
    rintro e w1 ⟨A1, c1, rfl, ho, hb⟩
    rw [h6] at ho ⊢
    have hb1 := Lib.hid hb
    have hz := hb.size
    have hO := Lib.hid ho
    clear hb ho
    go_wp2_with (fail)
    refine (sortOwn_any w.heap.size w1.heap.size _ _ _ xs _ (by omega) hl hO.out).mono ?_
    rintro e w2 ⟨rfl, ho2, hc2⟩
    have hb2 := Lib.hid (below_chg hb1.out hc2 hz (Nat.le_refl _))
    have hR := Lib.hid (areRegisters_any w.heap.size w1.heap.size A1 c1 (sorted xs) w2 (by rw [sorted_len]; omega) ho2.rs)
    rw [sorted_len, h6] at hR
    clear hc2 ho2
    go_wp2_with (fail)
    refine hR.out.mono ?_
    rintro e w3 ⟨rfl, rfl⟩
    go_wp2
    go_ret
    exact ⟨ret_bool hN.out.symm, hb2.out⟩
  · have hN : Hid (namesOk xs = false) := by simp [Hid, namesOk, h6]
    have h6' : ((xs.length : Int) != 6) = true := by simp; omega
    go_enter Try.func107, Try.ntmps107
    go_wp2
    go_ret
    exact ⟨ret_bool hN.out.symm, Below.refl _ _⟩

set_option maxHeartbeats 1000000 in
theorem cdNames_any (L B : Nat) (A : Option Addr) (c : Nat) (xs : List Int) (w : World) (hl : xs.length ≤ 1048576) (hx : IS w L B A xs) (hcap : xs.length ≤ c) :
    Calls Try.prog 105 #[.slice A xs.length c] w fun e w' => e = .returned (.bool (namesOk xs)) ∧ w = w' := by
  have hX := Lib.hid hx
  have hA := Lib.hid (l1All_any L B A c xs 0 5 w hl hx)
  clear hx
  by_cases h6 : xs.length = 6
  · rw [h6] at hA ⊢ hcap
    have h6' : ((xs.length : Int) == 6) = true := by simp; omega
    cases ha : allIn xs 0 5
    · have hN : Hid (namesOk xs = false) := by simp [Hid, namesOk, ha]
      rw [ha] at hA
      clear ha
      go_enter Try.func105, Try.ntmps105
      go_wp2_with (go_at_call 116; refine hA.out.mono ?_; rintro e w' ⟨rfl, rfl⟩)
      go_ret
      exact ⟨ret_bool hN.out.symm, rfl⟩
    · have hN : Hid (namesOk xs = onceB xs) := by simp [Hid, namesOk, ha, h6]
      rw [ha] at hA
      clear ha
      go_enter Try.func105, Try.ntmps105
      go_wp2_with (go_at_call 116; refine hA.out.mono ?_; rintro e w' ⟨rfl, rfl⟩)
      go_loop [15] (fun i => ∃ k : Nat, k ≤ 6 ∧ i = .int .i64 k ∧ onceB (xs.take k) = true) (fun i => 6 - (intOf i).toNat)
      case atStart => exact ⟨0, Nat.zero_le _, rfl, by simp [onceB]⟩
      case round =>
        obtain ⟨k, hk, rfl, hh⟩ := hrel
        have hH := Lib.hid hh; clear hh
        by_cases hlt : k < 6
        · obtain ⟨b, o, rfl, hbb, hc⟩ := hX.out (by omega)
          have hcell := hc k (by omega)
          have hT := Lib.hid (hX.out.take k)
          have hkc : (k : Int) ≤ (c : Int) := by omega
          have hlt' : (k : Int) < 6 := by omega
          have hkl : Hid (k = (xs.take k).length) := by rw [Hid, List.length_take]; omega
          have hNo := Lib.hid (once_no (xs := xs) (k := k) (by omega))
          have hSn := Lib.hid (once_snoc (xs := xs) (k := k) (by omega) hH.out)
          clear hc
          have hk6 : k < xs.length := by omega
          generalize xs[k] = x at *
          cases hb : hasI (xs.take k) x
          · have hS' := Lib.hid (hSn.out hb)
            have hb' := Lib.hid hb
            clear hb
            go_wp2_with (go_at_call 102; refine (l1Has_lit L B _ k _ (xs.take k) x _ _ hb'.out hkl.out (by have := hkl.out; omega) hT.out).mono ?_; rintro e w' ⟨rfl, rfl⟩)
            go_round
            case rel => exact ⟨k + 1, by omega, by go_num, hS'.out⟩
            case measure => simp [intOf]; omega
          · have hF := Lib.hid (hNo.out hb)
            have hb' := Lib.hid hb
            clear hb
            go_wp2_with (go_at_call 102; refine (l1Has_lit L B _ k _ (xs.take k) x _ _ hb'.out hkl.out (by have := hkl.out; omega) hT.out).mono ?_; rintro e w' ⟨rfl, rfl⟩)
            go_ret
            exact ⟨ret_bool (by rw [hN.out, hF.out]), rfl⟩
        · obtain rfl : k = 6 := by omega
          go_wp2
          go_ret
          exact ⟨ret_bool (by have := hH.out; rw [← h6, List.take_length] at this; rw [hN.out, this]), rfl⟩
  · have hN : Hid (namesOk xs = false) := by simp [Hid, namesOk, h6]
    have h6' : ((xs.length : Int) != 6) = true := by simp; omega
    go_enter Try.func105, Try.ntmps105
    go_wp2
    go_ret
    exact ⟨ret_bool hN.out.symm, rfl⟩
end Go.Proofs.Ytjnbgnnlpeoaoaa
