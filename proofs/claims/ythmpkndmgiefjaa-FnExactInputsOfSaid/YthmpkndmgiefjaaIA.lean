import Derived.Test.YthmpkndmgiefjaaTM
import Derived.Test.YthmpkndmgiefjaaCT
import Derived.Test.YthmpkndmgiefjaaK
import Derived.Test.YthmpkndmgiefjaaQ
import Derived.WalkKit
import Derived.WalkSpells
import Derived.WalkLawsBesides
import Derived.Outline
import Derived.Lib.Hide
namespace Go.Proofs.Ythmpkndmgiefjaa
open Go.RowKit
set_option linter.unusedVariables false
set_option maxRecDepth 100000

def inputsL (es : List Nd) : List Int := twoOf (hasIn es 0) (hasIn es 1)
def inputsR (es : List Nd) : List Int := if good es = true then inputsL es else []
theorem inputsR_len (es : List Nd) : (inputsR es).length ≤ 1048576 := by
  unfold inputsR inputsL; split
  · have := twoOf_len (hasIn es 0) (hasIn es 1); omega
  · simp
theorem in_ok {es : List Nd} (hok : okFrom es 0 = true) : ∀ k (h : k < es.length), isIn es[k].op = true → es[k].v = 0 ∨ es[k].v = 1 := by
  intro k h hin
  have hn := ok_get hok h
  unfold isNode at hn
  rw [if_pos hin] at hn
  simp only [Bool.and_eq_true] at hn
  have := (inR_iff _ _ _).1 hn.2
  omega
theorem inTo_all {es : List Nd} (hok : okFrom es 0 = true) : inTo es es.length = inputsL es := by
  rw [inTo_eq (in_ok hok) _ (Nat.le_refl _), List.take_length]; rfl
theorem inTo_len {es : List Nd} (hok : okFrom es 0 = true) (k : Nat) (hk : k ≤ es.length) : (inTo es k).length ≤ 2 := by
  rw [inTo_eq (in_ok hok) _ hk]; exact twoOf_len _ _

set_option maxHeartbeats 2000000 in
theorem sInputsOf_any (L B : Nat) (A : Option Addr) (c : Nat) (es : List Nd) (w : World) (hl : es.length ≤ 1048576) (hes : NS w L B A es) (hB : B ≤ w.heap.size) :
    Calls Try.prog 19 #[.slice A es.length c] w (IntsRes w (inputsR es) (good es)) := by
  have H := Lib.hid (exGood_any L B A c es w hl hes hB)
  have hE := Lib.hid hes
  have hBB := Lib.hid hB
  clear hes hB
  cases hg : good es
  · have hR2 : Hid (inputsR es = []) := by simp [Hid, inputsR, hg]
    rw [hg] at H
    clear hg
    go_enter Try.func19, Try.ntmps19
    go_wp2_with (fail)
    refine H.out.mono ?_
    rintro e w2 ⟨rfl, hb⟩
    go_wp2_with (fail)
    go_ret2
    refine ⟨none, 0, ?_, ?_, hb⟩
    · rw [hR2.out]; rfl
    · rw [hR2.out]; exact OW.nil _ _ _
  have hR2 : Hid (inputsR es = inputsL es) := by simp [Hid, inputsR, hg]
  obtain ⟨hl1, hl24, hok⟩ := good_len hg
  have hOk := Lib.hid hok
  have hT := Lib.hid (inTo_all hok)
  rw [hg] at H
  clear hg hok
  go_enter Try.func19, Try.ntmps19
  go_wp2_with (fail)
  refine H.out.mono ?_
  rintro e w2 ⟨rfl, hb⟩
  have hbb := Lib.hid hb
  clear hb
  go_wp2
  go_loopw [4, 12] (fun v i wr => ∃ k : Nat, k ≤ es.length ∧ i = .int .i64 k ∧ OW wr w.heap.size wr.heap.size v (inTo es k) ∧ Below w.heap.size w wr) (fun _ i _ => es.length - (intOf i).toNat)
  case atStart => exact ⟨0, Nat.zero_le _, rfl, OW.nil _ _ _, hbb.out⟩
  case round =>
    obtain ⟨k, hk, rfl, how, hbel⟩ := hrel
    obtain ⟨V, cv, rfl, _⟩ := how.form
    have hOW := Lib.hid how
    have hBL := Lib.hid hbel
    have hsz := hbel.size
    have hIL := Lib.hid (inTo_len hOk.out k hk)
    clear how
    by_cases hlt : k < es.length
    · obtain ⟨b, o, rfl, ⟨_, hbB⟩, hc⟩ := (hE.out.below hbel hBB.out) (by omega)
      obtain ⟨c1, c2, c3, c4⟩ := hc k hlt
      clear hc hbel
      have hS := Lib.hid (inTo_succ hlt)
      generalize es[k] = nd at *
      generalize inTo es k = xs at *
      obtain ⟨s, a, bb, v⟩ := nd
      have hbz := Lib.hid (hBL.out.alloc hsz (.cells #[.string s, .int .i64 a, .int .i64 bb, .int .i64 v] 45))
      have hoz := Lib.hid (hOW.out.below ((Below.refl wr.heap.size wr).alloc (Nat.le_refl _) (.cells #[.string s, .int .i64 a, .int .i64 bb, .int .i64 v] 45)) (Nat.le_refl _))
      cases hin : isIn s
      · have h1 : (s.toList == [105, 110]) = false := hin
        have hx : Hid (inTo es (k + 1) = xs) := by rw [Hid, hS.out, inStep]; simp [hin]
        clear hin
        go_wp2
        go_roundw
        case rel => exact ⟨k + 1, by omega, by go_num, by rw [hx.out]; exact hoz.out.more (by simp), hbz.out⟩
        case measure => simp [intOf]; omega
      · have h1 : s.toList = [105, 110] := by simpa [isIn] using hin
        have hx : Hid (inTo es (k + 1) = put xs v) := by rw [Hid, hS.out, inStep]; simp [hin]
        clear hin
        go_wp2_with (fail)
        refine (l1Put_any w.heap.size wr.heap.size V xs.length cv xs v _ rfl (by have := hIL.out; omega) hoz.out (by have := hBL.out.size; simp; omega) (by simp)).mono ?_
        rintro e w3 ⟨V3, c3', rfl, ho3, hb3⟩
        have hO3 := Lib.hid ho3
        have hB3 := Lib.hid (hbz.out.trans (hb3.mono hbz.out.size))
        clear ho3 hb3
        go_wp2
        go_roundw
        case rel => exact ⟨k + 1, by omega, by go_num, by rw [hx.out]; exact hO3.out, hB3.out⟩
        case measure => simp [intOf]; omega
    · obtain rfl : k = es.length := by omega
      rw [hT.out] at hOW
      have hlen : Hid ((inTo es es.length).length = (inputsL es).length) := by rw [Hid, hT.out]
      go_wp2
      go_ret2
      rw [hR2.out]
      exact ⟨V, cv, by rw [hlen.out]; rfl, hOW.out, hBL.out⟩
end Go.Proofs.Ythmpkndmgiefjaa
