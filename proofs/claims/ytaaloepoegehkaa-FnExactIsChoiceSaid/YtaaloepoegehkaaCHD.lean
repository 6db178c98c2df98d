import Derived.Test.YtaaloepoegehkaaCHC
import Derived.Test.YtaaloepoegehkaaCF
import Derived.Test.YtaaloepoegehkaaCG
import Derived.Test.YtaaloepoegehkaaEO
import Derived.WalkKit
import Derived.WalkSpells
import Derived.WalkLawsBesides
import Derived.Deep.QuietTactic
import Derived.BigQuiet
import Derived.Deep.RegionLaw
import Derived.Deep.RegionHeld3
import Derived.Lib.Hide
/- Choices: Imms of an op, equal entries. -/
namespace Go.Proofs.Ytaaloepoegehkaa
open Go.RowKit
set_option linter.unusedVariables false
set_option maxRecDepth 100000

def imm7 : List ByteArray := [⟨#[115,101,116]⟩, ⟨#[97,100,100,105]⟩, ⟨#[97,110,100,105]⟩, ⟨#[120,111,114,105]⟩, ⟨#[115,104,108,105]⟩, ⟨#[115,104,114,105]⟩, ⟨#[108,101,97]⟩]
theorem immS (s : ByteArray) : hasS imm7 s = decide (0 < (fm s).hi) := by
  have e1 : (⟨#[115,101,116]⟩ : ByteArray).toList = [115,101,116] := by decide +kernel
  have e2 : (⟨#[97,100,100,105]⟩ : ByteArray).toList = [97,100,100,105] := by decide +kernel
  have e3 : (⟨#[97,110,100,105]⟩ : ByteArray).toList = [97,110,100,105] := by decide +kernel
  have e4 : (⟨#[120,111,114,105]⟩ : ByteArray).toList = [120,111,114,105] := by decide +kernel
  have e5 : (⟨#[115,104,108,105]⟩ : ByteArray).toList = [115,104,108,105] := by decide +kernel
  have e6 : (⟨#[115,104,114,105]⟩ : ByteArray).toList = [115,104,114,105] := by decide +kernel
  have e7 : (⟨#[108,101,97]⟩ : ByteArray).toList = [108,101,97] := by decide +kernel
  unfold hasS imm7
  simp only [List.any_cons, List.any_nil, Bool.or_false, e1, e2, e3, e4, e5, e6, e7]
  unfold fm
  generalize s.toList = l
  clear e1 e2 e3 e4 e5 e6 e7
  by_cases h0 : l = [115,101,116]
  · subst h0; decide +kernel
  rw [if_neg h0]
  by_cases h1 : l = [109,111,118]
  · subst h1; decide +kernel
  rw [if_neg h1]
  by_cases h2 : l = [110,111,116]
  · subst h2; decide +kernel
  rw [if_neg h2]
  by_cases h3 : l = [110,101,103]
  · subst h3; decide +kernel
  rw [if_neg h3]
  by_cases h4 : l = [97,100,100]
  · subst h4; decide +kernel
  rw [if_neg h4]
  by_cases h5 : l = [115,117,98]
  · subst h5; decide +kernel
  rw [if_neg h5]
  by_cases h6 : l = [97,110,100]
  · subst h6; decide +kernel
  rw [if_neg h6]
  by_cases h7 : l = [111,114]
  · subst h7; decide +kernel
  rw [if_neg h7]
  by_cases h8 : l = [120,111,114]
  · subst h8; decide +kernel
  rw [if_neg h8]
  by_cases h9 : l = [108,101,115,115]
  · subst h9; decide +kernel
  rw [if_neg h9]
  by_cases h10 : l = [101,113]
  · subst h10; decide +kernel
  rw [if_neg h10]
  by_cases h11 : l = [115,104,108]
  · subst h11; decide +kernel
  rw [if_neg h11]
  by_cases h12 : l = [115,104,114]
  · subst h12; decide +kernel
  rw [if_neg h12]
  by_cases h13 : l = [109,117,108]
  · subst h13; decide +kernel
  rw [if_neg h13]
  by_cases h14 : l = [97,100,100,105]
  · subst h14; decide +kernel
  rw [if_neg h14]
  by_cases h15 : l = [97,110,100,105]
  · subst h15; decide +kernel
  rw [if_neg h15]
  by_cases h16 : l = [120,111,114,105]
  · subst h16; decide +kernel
  rw [if_neg h16]
  by_cases h17 : l = [115,104,108,105]
  · subst h17; decide +kernel
  rw [if_neg h17]
  by_cases h18 : l = [115,104,114,105]
  · subst h18; decide +kernel
  rw [if_neg h18]
  by_cases h19 : l = [108,101,97]
  · subst h19; decide +kernel
  rw [if_neg h19]
  have hb : ∀ x : List UInt8, ¬ l = x → (x == l) = false := fun x h => by
    cases hx : (x == l)
    · rfl
    · exact absurd (eq_of_beq hx).symm h
  rw [hb _ h0, hb _ h14, hb _ h15, hb _ h16, hb _ h17, hb _ h18, hb _ h19]
  rfl
set_option maxHeartbeats 2000000 in
theorem cdImm_any (s : ByteArray) (w : World) : Calls Try.prog 178 #[.string s] w fun e w' => e = .returned (.bool (decide (0 < (fm s).hi))) ∧ Below w.heap.size w w' := by
  have hb := Lib.hid ((Below.refl w.heap.size w).alloc (Nat.le_refl _) (.cells #[.string ⟨#[115,101,116]⟩, .string ⟨#[97,100,100,105]⟩, .string ⟨#[97,110,100,105]⟩, .string ⟨#[120,111,114,105]⟩, .string ⟨#[115,104,108,105]⟩, .string ⟨#[115,104,114,105]⟩, .string ⟨#[108,101,97]⟩] 9))
  have H := Lib.hid (hasS_new imm7 (by decide) w w.heap.size rfl #[.string ⟨#[115,101,116]⟩, .string ⟨#[97,100,100,105]⟩, .string ⟨#[97,110,100,105]⟩, .string ⟨#[120,111,114,105]⟩, .string ⟨#[115,104,108,105]⟩, .string ⟨#[115,104,114,105]⟩, .string ⟨#[108,101,97]⟩] rfl 9 7 7 rfl s)
  rw [immS] at H
  generalize decide (0 < (fm s).hi) = r at *
  go_enter Try.func178, Try.ntmps178
  go_wp2_with (fail)
  refine H.out.mono ?_
  rintro e w2 ⟨rfl, rfl⟩
  go_wp2
  go_ret
  exact ⟨rfl, hb.out⟩
theorem usesImm_any (f : Fm) (w : World) : Calls Try.prog 179 #[fmV f] w fun e w' => e = .returned (.bool (decide (0 < f.hi))) ∧ Below w.heap.size w w' := by
  obtain ⟨ok, a, b, lo, hi, c⟩ := f
  have hb := Lib.hid ((Below.refl w.heap.size w).alloc (Nat.le_refl _) (.cells #[.bool a, .bool b, .int .i64 lo, .int .i64 hi, .int .i64 c] 117))
  unfold fmV
  dsimp only
  go_enter Try.func179, Try.ntmps179
  go_wp2
  go_ret
  exact ⟨ret_bool (by first | rfl | simp), hb.out⟩
def immOk (imms : List Int) (f : Fm) : Bool := !decide (0 < f.hi) || allIn imms f.lo f.hi
theorem immOk_no {imms : List Int} {f : Fm} (h : decide (0 < f.hi) = false) : immOk imms f = true := by unfold immOk; rw [h]; rfl
theorem immOk_yes {imms : List Int} {f : Fm} (h : decide (0 < f.hi) = true) : immOk imms f = allIn imms f.lo f.hi := by unfold immOk; rw [h]; rfl
theorem allIn_off {xs : List Int} {lo hi : Int} {k : Nat} (h : allIn (xs.take k) lo hi = false) : allIn xs lo hi = false := by
  unfold allIn at *
  rw [List.all_eq_false] at h ⊢
  obtain ⟨x, hx, h⟩ := h
  exact ⟨x, List.mem_of_mem_take hx, h⟩
set_option maxHeartbeats 4000000 in
theorem areImmsOf_any (f : Fm) (L B : Nat) (A : Option Addr) (c : Nat) (imms : List Int) (w : World) (hl : imms.length ≤ 1048576) (hx : IS w L B A imms) (hB : B ≤ w.heap.size) :
    Calls Try.prog 110 #[fmV f, .slice A imms.length c] w fun e w' => e = .returned (.bool (immOk imms f)) ∧ Below w.heap.size w w' := by
  have hU := Lib.hid (usesImm_any f)
  have hN := Lib.hid (immOk_no (imms := imms) (f := f))
  have hY := Lib.hid (immOk_yes (imms := imms) (f := f))
  have hS := Lib.hid fun (k : Nat) (h : k < imms.length) => allIn_snoc (lo := f.lo) (hi := f.hi) h
  have hO := Lib.hid fun (k : Nat) (h : allIn (imms.take k) f.lo f.hi = false) => allIn_off h
  have h0 : Hid (allIn (imms.take 0) f.lo f.hi = true) := rfl
  have hE : Hid (allIn (imms.take imms.length) f.lo f.hi = allIn imms f.lo f.hi) := by rw [Hid, List.take_length]
  have hX := Lib.hid fun (W : World) (hW : Below w.heap.size w W) => hx.below hW hB
  generalize immOk imms f = R at *
  obtain ⟨ok, a, b, lo, hi, cc⟩ := f
  unfold fmV at *
  dsimp only at *
  have hb := Lib.hid ((Below.refl w.heap.size w).alloc (Nat.le_refl _) (.cells #[.bool a, .bool b, .int .i64 lo, .int .i64 hi, .int .i64 cc] 117))
  have hC : Hid (CB 117 (w.alloc (.cells #[.bool a, .bool b, .int .i64 lo, .int .i64 hi, .int .i64 cc] 117)) w.heap.size [.bool a, .bool b, .int .i64 lo, .int .i64 hi, .int .i64 cc]) := heap_alloc_new w _
  generalize allIn imms lo hi = AI at *
  clear hx hB
  go_enter Try.func110, Try.ntmps110
  go_wp2
  generalize w.alloc (.cells #[.bool a, .bool b, .int .i64 lo, .int .i64 hi, .int .i64 cc] 117) = W1 at *
  cases hus : decide (0 < hi)
  · have hR := Lib.hid (hN.out hus)
    rw [hus] at hU
    clear hN hY hS hO h0 hE hus
    go_loopw [9] (fun q wr => ∃ k : Nat, k ≤ imms.length ∧ q = .int .i64 k ∧ Below W1.heap.size W1 wr) (fun q _ => imms.length - (intOf q).toNat)
    case atStart => exact ⟨0, Nat.zero_le _, rfl, Below.refl _ _⟩
    case round =>
      obtain ⟨k, hk, rfl, hbel⟩ := hrel
      have hBL := Lib.hid hbel
      clear hbel
      by_cases hlt : k < imms.length
      · have hbw := Lib.hid (hb.out.trans (hBL.out.mono hb.out.size))
        obtain ⟨xb, xo, rfl, _, hxc⟩ := (hX.out wr hbw.out) (by omega)
        have x0 := hxc k hlt
        have hki : (k : Int) < (imms.length : Int) := by omega
        have hk0 : (0 : Int) ≤ (k : Int) := by omega
        have hcb := hC.out.below hBL.out hC.out.lt
        have q0 := hcb.cell 0
        have q1 := hcb.cell 1
        have q2 := hcb.cell 2
        have q3 := hcb.cell 3
        have q4 := hcb.cell 4
        simp only [List.getElem?_cons_zero, List.getElem?_cons_succ] at q0 q1 q2 q3 q4
        have hU1 := Lib.hid (hU.out wr)
        clear hcb hxc
        generalize imms[k] = x at *
        go_wp2_with (fail)
        refine hU1.out.mono ?_
        rintro e w5 ⟨rfl, hb5⟩
        all_goals
          have hb6 := Lib.hid (hBL.out.trans (hb5.mono hBL.out.size))
          clear hb5
          go_wp2
          go_roundw
          case rel => exact ⟨k + 1, hlt, by go_num, hb6.out⟩
          case measure => simp [intOf]; omega
      · obtain rfl : k = imms.length := by omega
        have hfin := Lib.hid (hb.out.trans (hBL.out.mono hb.out.size))
        go_wp2
        go_ret
        exact ⟨by rw [hR.out]; rfl, hfin.out⟩
  · have hR := Lib.hid (hY.out hus)
    rw [hus] at hU
    clear hN hY hus
    go_loopw [9] (fun q wr => ∃ k : Nat, k ≤ imms.length ∧ q = .int .i64 k ∧ allIn (imms.take k) lo hi = true ∧ Below W1.heap.size W1 wr) (fun q _ => imms.length - (intOf q).toNat)
    case atStart => exact ⟨0, Nat.zero_le _, rfl, h0.out, Below.refl _ _⟩
    case round =>
      obtain ⟨k, hk, rfl, hall, hbel⟩ := hrel
      have hBL := Lib.hid hbel
      have hAll := Lib.hid hall
      clear hbel hall
      by_cases hlt : k < imms.length
      · have hbw := Lib.hid (hb.out.trans (hBL.out.mono hb.out.size))
        obtain ⟨xb, xo, rfl, _, hxc⟩ := (hX.out wr hbw.out) (by omega)
        have x0 := hxc k hlt
        have hki : (k : Int) < (imms.length : Int) := by omega
        have hk0 : (0 : Int) ≤ (k : Int) := by omega
        have hcb := hC.out.below hBL.out hC.out.lt
        have q0 := hcb.cell 0
        have q1 := hcb.cell 1
        have q2 := hcb.cell 2
        have q3 := hcb.cell 3
        have q4 := hcb.cell 4
        simp only [List.getElem?_cons_zero, List.getElem?_cons_succ] at q0 q1 q2 q3 q4
        have hU1 := Lib.hid (hU.out wr)
        have hSk := hS.out k hlt
        rw [hAll.out, Bool.true_and] at hSk
        have hSk := Lib.hid hSk
        have hOk := Lib.hid (hO.out (k + 1))
        have hgl : Hid (w.heap.size < wr.heap.size) := Nat.lt_of_lt_of_le hC.out.lt hBL.out.size
        clear hcb hxc
        generalize hA1 : allIn (imms.take (k + 1)) lo hi = a1 at *
        have hA1h := Lib.hid hA1
        clear hA1
        generalize imms[k] = x at *
        by_cases h1 : x < lo
        · have hF : Hid (R = false) := by
            rw [Hid, hR.out]; apply hOk.out; rw [hSk.out]; unfold inR; rw [decide_eq_false (by omega : ¬ lo ≤ x)]; rfl
          go_wp2_with (fail)
          refine hU1.out.mono ?_
          rintro e w5 ⟨rfl, hb5⟩
          have r2 := (hb5.cell (p := ⟨w.heap.size, 2, none⟩) hgl.out).trans q2
          have r3 := (hb5.cell (p := ⟨w.heap.size, 3, none⟩) hgl.out).trans q3
          all_goals
            have hb6 := Lib.hid (hb.out.trans ((hBL.out.trans (hb5.mono hBL.out.size)).mono hb.out.size))
            go_wp2
            go_ret
            exact ⟨by rw [hF.out]; rfl, hb6.out⟩
        · by_cases h2 : hi < x
          · have hF : Hid (R = false) := by
              rw [Hid, hR.out]; apply hOk.out; rw [hSk.out]; unfold inR; rw [decide_eq_false (by omega : ¬ x ≤ hi)]; simp
            go_wp2_with (fail)
            refine hU1.out.mono ?_
            rintro e w5 ⟨rfl, hb5⟩
            have r2 := (hb5.cell (p := ⟨w.heap.size, 2, none⟩) hgl.out).trans q2
            have r3 := (hb5.cell (p := ⟨w.heap.size, 3, none⟩) hgl.out).trans q3
            all_goals
              have hb6 := Lib.hid (hb.out.trans ((hBL.out.trans (hb5.mono hBL.out.size)).mono hb.out.size))
              go_wp2
              go_ret
              exact ⟨by rw [hF.out]; rfl, hb6.out⟩
          · have hT : Hid (a1 = true) := by
              rw [Hid, hSk.out]; unfold inR; rw [decide_eq_true (by omega : lo ≤ x), decide_eq_true (by omega : x ≤ hi)]; rfl
            go_wp2_with (fail)
            refine hU1.out.mono ?_
            rintro e w5 ⟨rfl, hb5⟩
            have r2 := (hb5.cell (p := ⟨w.heap.size, 2, none⟩) hgl.out).trans q2
            have r3 := (hb5.cell (p := ⟨w.heap.size, 3, none⟩) hgl.out).trans q3
            all_goals
              have hb6 := Lib.hid (hBL.out.trans (hb5.mono hBL.out.size))
              clear hb5
              go_wp2
              go_roundw
              case rel => exact ⟨k + 1, hlt, by go_num, by rw [hA1h.out]; exact hT.out, hb6.out⟩
              case measure => simp [intOf]; omega
      · obtain rfl : k = imms.length := by omega
        have hfin := Lib.hid (hb.out.trans (hBL.out.mono hb.out.size))
        go_wp2
        go_ret
        exact ⟨by rw [hR.out, ← hE.out, hAll.out]; rfl, hfin.out⟩
end Go.Proofs.Ytaaloepoegehkaa
