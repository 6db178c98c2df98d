import Derived.Test.YthjfedidpjfboaaCQ
import Derived.WalkKit
import Derived.WalkSpells
import Derived.WalkLawsBesides
import Derived.Lib.Hide
namespace Go.Proofs.Ythjfedidpjfboaa
open Go.RowKit
set_option linter.unusedVariables false
set_option maxRecDepth 100000

set_option maxHeartbeats 4000000 in
theorem runSteps_any (L B : Nat) (A : Option Addr) (c : Nat) (es : List In) (g : Nat) (rs : List Int) (w : World) (hok : okCode es = true) (hes : RS In.enc 5 w L B A es) (hB : B ≤ g) (h6 : words6 rs) (hI : IB w g 114 rs) :
    Calls Try.prog 108 #[.slice A es.length c, .func (.func 157) #[.pointer (some ⟨g, 0, none⟩)] #[]] w (StepM w g (runL es rs)) := by
  have hl := okCode_len hok
  have hall := Lib.hid (okCode_all hok)
  have hE := Lib.hid hes
  have hBB := Lib.hid hB
  have hH6 := Lib.hid h6
  have hM0 := Lib.hid hI
  have hgl := hI.lt
  have hc0 := Lib.hid (Chg.refl g (g + 1) w)
  clear hes hB hok h6 hI
  go_enter Try.func108, Try.ntmps108
  go_wp2
  go_loopw [8] (fun i wr => ∃ k : Nat, k ≤ es.length ∧ i = .int .i64 k ∧ IB wr g 114 (runL (es.take k) rs) ∧ Chg g (g + 1) w wr) (fun i _ => es.length - (intOf i).toNat)
  case atStart => exact ⟨0, Nat.zero_le _, rfl, hM0.out, hc0.out⟩
  case round =>
    obtain ⟨k, hk, rfl, hib, hchg⟩ := hrel
    have hM := Lib.hid hib
    have hgw := hib.lt
    have hCh := Lib.hid hchg
    clear hib
    by_cases hlt : k < es.length
    · obtain ⟨b, o, rfl, ⟨_, hbB⟩, hc⟩ := In.cells (hE.out.chg hchg (Nat.le_of_lt (Nat.lt_of_le_of_lt hBB.out hgl)) (.inl hBB.out)) (by omega)
      obtain ⟨d1, d2, d3, d4, d5⟩ := hc k hlt
      clear hc hchg
      have hx := Lib.hid (hall.out _ (List.getElem_mem hlt))
      have hS := Lib.hid (runL_snoc (rs := rs) hlt)
      have hW := Lib.hid (runL_words_take hall.out hH6.out k)
      generalize es[k] = nd at *
      obtain ⟨op, d, a, bb, m⟩ := nd
      have hM2 := fun o => Lib.hid (hM.out.below ((Below.refl wr.heap.size wr).alloc (Nat.le_refl _) o) hgw)
      have hC2 := fun o => Lib.hid (hCh.out.alloc o)
      go_wp2_with (fail)
      refine (stepM_any ⟨op, d, a, bb, m⟩ g _ _ hx.out hW.out (hM2 _).out).mono ?_
      rintro e w3 ⟨rfl, hm3, hc3⟩
      have hM3 := Lib.hid hm3
      have hC3 := Lib.hid ((hC2 _).out.trans hc3)
      clear hm3 hc3 d1 d2 d3 d4 d5
      go_wp2
      go_roundw
      case rel => exact ⟨k + 1, by omega, by go_num, by rw [hS.out]; exact hM3.out, hC3.out⟩
      case measure => simp [intOf]; omega
    · obtain rfl : k = es.length := by omega
      clear hchg
      go_wp2
      go_end0
      exact ⟨rfl, by have := hM.out; rwa [List.take_length] at this, hCh.out⟩

theorem okCode_one (x : In) : okCode [x] = goodIn x := by simp [okCode]
theorem runR_one (x : In) (rs : List Int) : runR [x] rs = stepR x rs := by simp only [runR, stepR, okCode_one]; rfl
/-- One instruction in a new slice. -/
theorem one_slice {w : World} {t : TypeId} (x : In) : RS In.enc 5 (w.alloc (.cells #[.string x.op, .int .i64 x.d, .int .i64 x.a, .int .i64 x.b, .int .i64 x.m] t)) w.heap.size (w.heap.size + 1) (some ⟨w.heap.size, 0, none⟩) [x] := In.boxed x
end Go.Proofs.Ythjfedidpjfboaa
