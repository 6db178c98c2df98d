import Derived.Test.YthmpkndmgiefjaaIB
import Derived.Test.YthmpkndmgiefjaaCG
import Derived.Test.YthmpkndmgiefjaaLawT
namespace Go.Proofs.Ythmpkndmgiefjaa
open Go.RowKit
set_option linter.unusedVariables false
set_option maxRecDepth 100000

def inUp (es : List Nd) : Nat → List Int
  | 0 => []
  | k + 1 => if hasIn es (k : Int) = true then inUp es k ++ [(k : Int)] else inUp es k
theorem inUp_two (es : List Nd) : inUp es 2 = inputsL es := by
  unfold inputsL twoOf inUp inUp inUp
  cases hasIn es 0 <;> cases hasIn es 1 <;> simp
theorem inUp_len (es : List Nd) : ∀ k, (inUp es k).length ≤ k := by
  intro k
  induction k with
  | zero => simp [inUp]
  | succ k ih =>
    unfold inUp; split
    · rw [List.length_append]; simp; omega
    · omega
set_option maxHeartbeats 2000000 in
theorem iInputsOf_any (L B : Nat) (A : Option Addr) (c : Nat) (es : List Nd) (w : World) (hl : es.length ≤ 1048576) (hes : NS w L B A es) (hB : B ≤ w.heap.size) :
    Calls Try.prog 20 #[.slice A es.length c] w (IntsRes w (inputsR es) (good es)) := by
  have H := Lib.hid (IsExpr_any L B A c es w hl hes hB)
  have hE := Lib.hid hes
  have hBB := Lib.hid hB
  clear hes hB
  cases hg : good es
  · have hR2 : Hid (inputsR es = []) := by simp [Hid, inputsR, hg]
    rw [hg] at H
    clear hg
    go_enter Try.func20, Try.ntmps20
    go_wp2_with (fail)
    refine H.out.mono ?_
    rintro e w2 ⟨rfl, hb⟩
    go_wp2_with (fail)
    go_ret2
    refine ⟨none, 0, ?_, ?_, hb⟩
    · rw [hR2.out]; rfl
    · rw [hR2.out]; exact OW.nil _ _ _
  have hR2 : Hid (inputsR es = inputsL es) := by simp [Hid, inputsR, hg]
  have hT := Lib.hid (inUp_two es)
  have hF := Lib.hid (fun (k : Nat) (W : World) (hW : Below w.heap.size w W) => hasInput_any L B A c es (k : Int) W hl (hE.out.below hW hBB.out) (Nat.le_trans hBB.out hW.size))
  obtain ⟨i0, hi, hz0, hz1, hz2⟩ := info_parts Try.infoInt
  have hI := Lib.hid hi
  have hZ0 := Lib.hid hz0
  have hZ1 := Lib.hid hz1
  have hZ2 := Lib.hid hz2
  clear hi hz0 hz1 hz2
  rw [hg] at H
  clear hg
  go_enter Try.func20, Try.ntmps20
  go_wp2_with (fail)
  refine H.out.mono ?_
  rintro e w2 ⟨rfl, hb⟩
  have hbb := Lib.hid hb
  clear hb
  go_wp2
  go_loopw [4, 9] (fun v i wr => ∃ k : Nat, k ≤ 2 ∧ i = .int .i64 k ∧ OW wr w.heap.size wr.heap.size v (inUp es k) ∧ Below w.heap.size w wr) (fun _ i _ => 2 - (intOf i).toNat)
  case atStart => exact ⟨0, Nat.zero_le _, rfl, OW.nil _ _ _, hbb.out⟩
  case round =>
    obtain ⟨k, hk, rfl, how, hbel⟩ := hrel
    obtain ⟨V, cv, rfl, _⟩ := how.form
    have hOW := Lib.hid how
    have hBL := Lib.hid hbel
    have hlo := Lib.hid how.lo
    have hIL := Lib.hid (inUp_len es k)
    clear how hbel
    by_cases hlt : k < 2
    · have hk2 : (k : Int) < 2 := by omega
      have hC := Lib.hid (hF.out k wr hBL.out)
      cases hh : hasIn es (k : Int)
      · have hx : Hid (inUp es (k + 1) = inUp es k) := by rw [Hid, inUp]; simp [hh]
        rw [hh] at hC
        clear hh
        generalize inUp es k = xs at *
        go_wp2_with (go_at_call 41; (with_reducible refine hC.out.mono ?_); rintro e w3 ⟨rfl, hb3⟩)
        have hB3 := Lib.hid (hBL.out.trans (hb3.mono hBL.out.size))
        have hO3 := Lib.hid (hOW.out.below hb3 (Nat.le_refl _))
        have hs3 := hb3.size
        clear hb3
        go_roundw
        case rel => exact ⟨k + 1, by omega, by go_num, by rw [hx.out]; exact hO3.out.more hs3, hB3.out⟩
        case measure => simp [intOf]; omega
      · have hx : Hid (inUp es (k + 1) = inUp es k ++ [(k : Int)]) := by rw [Hid, inUp]; simp [hh]
        rw [hh] at hC
        clear hh
        generalize inUp es k = xs at *
        have hxl : xs.length ≤ 2 := by have := hIL.out; omega
        go_wp2_with (first | (go_at_call 41; (with_reducible refine hC.out.mono ?_); rintro e w3 ⟨rfl, hb3⟩; have hB3 := Lib.hid (hBL.out.trans (hb3.mono hBL.out.size)); have hO3 := Lib.hid ((hOW.out.below hb3 (Nat.le_refl _)).1.alloc (.cells #[.int .i64 (k : Int)] 3)); clear hb3) | (at_builtin; refine wpList_append_own _ rfl _ _ 24 rfl w.heap.size 3 i0 (.int .i64 0) 1 8 Try.underlying24 hI.out hZ0.out hZ1.out hZ2.out rfl (by decide) _ _ _ rfl hO3.out ⟨w3.heap.size, 0, none⟩ 1 1 [.int .i64 (k : Int)] rfl rfl (new1 rfl) (one1 _) (by unfold maxLen; omega) (by omega) (by have := hB3.out.size; simp; omega) ?_; intro v' w4 hown4 hgr4 _))
        have R1 := Lib.hid (OW.push (by simpa using hown4) : OW w4 w.heap.size w4.heap.size v' (xs ++ [(k : Int)]))
        have R2 := Lib.hid ((hB3.out.alloc hB3.out.size (.cells #[.int .i64 (k : Int)] 3)).grown hgr4 (by have := hB3.out.size; simp; omega) (fun k hk => (hlo.out k hk).1))
        clear hown4 hgr4
        go_wp2
        go_roundw
        case rel => exact ⟨k + 1, by omega, by go_num, by rw [hx.out]; exact R1.out, R2.out⟩
        case measure => simp [intOf]; omega
    · obtain rfl : k = 2 := by omega
      rw [hT.out] at hOW
      have hlen : Hid ((inUp es 2).length = (inputsL es).length) := by rw [Hid, hT.out]
      go_wp2
      go_ret2
      rw [hR2.out]
      exact ⟨V, cv, by rw [hlen.out]; rfl, hOW.out, hBL.out⟩
theorem sInputsOf_k (L B : Nat) (A : Option Addr) (c : Nat) (es : List Nd) (w : World) (hl : es.length ≤ 1048576) (hes : RS Nd.enc 4 w L B A es) (hB : B ≤ w.heap.size) :
    Calls Try.prog 19 #[.slice A es.length c] w (ResInputsOf (inputsR es) (good es) w) := sInputsOf_any L B A c es w hl hes.ns hB
theorem iInputsOf_k (L B : Nat) (A : Option Addr) (c : Nat) (es : List Nd) (w : World) (hl : es.length ≤ 1048576) (hes : RS Nd.enc 4 w L B A es) (hB : B ≤ w.heap.size) :
    Calls Try.prog 20 #[.slice A es.length c] w (ResInputsOf (inputsR es) (good es) w) := iInputsOf_any L B A c es w hl hes.ns hB
end Go.Proofs.Ythmpkndmgiefjaa
