import Derived.Test.YtieljgfocgdngaaK4
import Derived.Test.YtieljgfocgdngaaTM
import Derived.Test.YtieljgfocgdngaaCG
import Derived.WalkKit
import Derived.WalkSpells
import Derived.WalkLawsBesides
import Derived.Outline
import Derived.Lib.Hide
namespace Go.Proofs.Ytieljgfocgdngaa
open Go.RowKit
set_option linter.unusedVariables false
set_option maxRecDepth 100000

/-- The value of an expression. -/
def at2 (es : List Nd) (x0 x1 : Int) : Int := (vals es x0 x1).getD (es.length - 1) 0
def tab (es : List Nd) : List Int := tabTo (at2 es) 4096
def tabR (es : List Nd) : List Int := if good es = true then tab es else []
theorem tabR_len (es : List Nd) : (tabR es).length ≤ 1048576 := by
  unfold tabR; split
  · unfold tab; rw [tabTo_len]; omega
  · simp

set_option maxHeartbeats 4000000 in
theorem exTable_any (L B : Nat) (A : Option Addr) (c : Nat) (es : List Nd) (w : World) (hl : es.length ≤ 24) (hl1 : 1 ≤ es.length) (hes : NS w L B A es) (hB : B ≤ w.heap.size) (hok : okFrom es 0 = true) :
    Calls Try.prog 75 #[.slice A es.length c] w (OwnIs w (tab es)) := by
  obtain ⟨i0, hi, hz0, hz1, hz2⟩ := info_parts Try.infoInt
  have hI := Lib.hid hi
  have hZ0 := Lib.hid hz0
  have hZ1 := Lib.hid hz1
  have hZ2 := Lib.hid hz2
  clear hi hz0 hz1 hz2
  have hat := fun (x0 x1 : Nat) (W : World) (hW : Below w.heap.size w W) (h0 : x0 < 64) (h1 : x1 < 64) => exAt_any L B A c es (x0 : Int) (x1 : Int) W hl hl1 (hes.below hW hB) (Nat.le_trans hB hW.size) hok ⟨by omega, by omega⟩ ⟨by omega, by omega⟩
  have hAt := Lib.hid hat
  have hBel0 := Lib.hid (Below.refl w.heap.size w)
  clear hes hB hok hat hl hl1
  go_enter Try.func75, Try.ntmps75
  go_wp2
  go_loopw [3, 4, 5] (fun v i _ wr => ∃ k : Nat, k ≤ 64 ∧ i = .int .i64 k ∧ OW wr w.heap.size wr.heap.size v (tabTo (at2 es) (64 * k + 0)) ∧ Below w.heap.size w wr) (fun _ i _ _ => 64 - (intOf i).toNat)
  case atStart => exact ⟨0, Nat.zero_le _, rfl, OW.nil _ _ _, hBel0.out⟩
  case round =>
    obtain ⟨k, hk, rfl, how, hbel⟩ := hrel
    have hOW := Lib.hid how
    have hBL := Lib.hid hbel
    clear how hbel
    by_cases hlt : k < 64
    · obtain ⟨wo, hwo⟩ : ∃ wo : World, wo = wr := ⟨_, rfl⟩
      rw [← hwo] at hOW hBL ⊢
      clear hwo
      have hk63 : (k : Int) ≤ 63 := by omega
      have hd63 : decide ((k : Int) ≤ 63) = true := by simpa using hk63
      go_wp2
      go_loopw [3, 5] (fun v j wr => ∃ n : Nat, n ≤ 64 ∧ j = .int .i64 n ∧ OW wr w.heap.size wr.heap.size v (tabTo (at2 es) (64 * k + n)) ∧ Below w.heap.size w wr) (fun _ j _ => 64 - (intOf j).toNat)
      case atStart => exact ⟨0, Nat.zero_le _, rfl, hOW.out, hBL.out⟩
      case round =>
        obtain ⟨n, hn, rfl, how, hbel⟩ := hrel
        have hOI := Lib.hid how
        have hBI := Lib.hid hbel
        obtain ⟨V, cv, rfl, _⟩ := how.form
        have hTL := Lib.hid (tabTo_len (at2 es) (64 * k + n))
        clear how hbel
        by_cases hlt2 : n < 64
        · have hS := Lib.hid (tabTo_succ (at2 es) k n hlt2)
          generalize tabTo (at2 es) (64 * k + n) = xs at *
          go_wp2_with (fail)
          refine (hAt.out k n _ hBI.out hlt hlt2).mono ?_
          rintro e w2 ⟨rfl, hb2⟩
          have hb2' := Lib.hid (hBI.out.trans (hb2.mono hBI.out.size))
          have ho2 := Lib.hid ((hOI.out.below hb2 (Nat.le_refl _)).1.alloc (.cells #[.int .i64 ((vals es (k : Int) (n : Int)).getD (es.length - 1) 0)] 3))
          have hb3 := Lib.hid (hb2'.out.alloc hb2'.out.size (.cells #[.int .i64 ((vals es (k : Int) (n : Int)).getD (es.length - 1) 0)] 3))
          have hlo := Lib.hid hOI.out.lo
          have hxx : Hid (at2 es k n = (vals es (k : Int) (n : Int)).getD (es.length - 1) 0) := rfl
          clear hb2
          generalize (vals es (k : Int) (n : Int)).getD (es.length - 1) 0 = x at *
          have hxl : xs.length ≤ 4096 := by rw [hTL.out]; omega
          go_wp2_with (at_builtin; refine wpList_append_own _ rfl _ _ 76 rfl w.heap.size 3 i0 (.int .i64 0) 1 8 Try.underlying76 hI.out hZ0.out hZ1.out hZ2.out rfl (by decide) _ _ _ rfl ho2.out ⟨w2.heap.size, 0, none⟩ 1 1 [.int .i64 x] rfl rfl (new1 rfl) (one1 _) (by unfold maxLen; omega) (by omega) (by have := hb2'.out.size; simp; omega) ?_; intro v' w4 hown4 hgr4 _)
          have R1 := Lib.hid (OW.push (by simpa using hown4) : OW w4 w.heap.size w4.heap.size v' (xs ++ [x]))
          have R2 := Lib.hid (hb3.out.grown hgr4 hb3.out.size (fun k hk => (hlo.out k hk).1))
          clear hown4 hgr4
          go_wp2
          go_roundw
          case rel => exact ⟨n + 1, by omega, by go_num, by rw [hS.out, hxx.out]; exact R1.out, R2.out⟩
          case measure => simp [intOf]; omega
        · obtain rfl : n = 64 := by omega
          rw [tabTo_next] at hOI
          go_wp2
          go_roundw
          case rel => exact ⟨k + 1, by omega, by go_num, hOI.out, hBI.out⟩
          case measure => simp [intOf]; omega
    · obtain rfl : k = 64 := by omega
      obtain ⟨V, cv, rfl, _⟩ := hOW.out.form
      go_wp2
      go_ret
      exact ⟨V, cv, rfl, hOW.out, hBL.out⟩
end Go.Proofs.Ytieljgfocgdngaa
