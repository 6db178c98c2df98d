import Derived.Test.YtgcbfiamhpfkhaaEA
import Derived.Test.YtgcbfiamhpfkhaaJ
import Derived.Test.YtgcbfiamhpfkhaaLI
import Derived.WalkKit
import Derived.WalkSpells
import Derived.WalkLawsBesides
import Derived.Lib.Hide
/- cvConst, cvWords, cvTree, cvCost of the model. -/
namespace Go.Proofs.Ytgcbfiamhpfkhaa
open Go.RowKit
set_option linter.unusedVariables false

def kon (xs : List Int) (n : Nd) : Bool := isConst n.op && hasI xs n.v
def BoolB (w : World) (x : Bool) (e : Ending) (w' : World) : Prop := e = .returned (.bool x) ∧ Below w.heap.size w w'
set_option maxHeartbeats 4000000 in
theorem cvConst_any (L B : Nat) (A : Option Addr) (m c : Nat) (xs : List Int) (s : ByteArray) (a b v : Int) (w : World) (hm : m = xs.length) (hx : IS w L B A xs) (hB : B ≤ w.heap.size) (hl : xs.length ≤ 1000000) :
    Calls Try.prog 129 #[.agg #[.string s, .int .i64 a, .int .i64 b, .int .i64 v], .slice A m c] w (BoolB w (kon xs ⟨s, a, b, v⟩)) := by
  subst hm
  have hB1 := fun o => Lib.hid ((Below.refl w.heap.size w).alloc (Nat.le_refl _) o)
  have hI := fun o => Lib.hid (hx.below (hB1 o).out hB)
  have hT : Hid (kon xs ⟨s, a, b, v⟩ = ((s.toList == [99,111,110,115,116]) && hasI xs v)) := rfl
  clear hx
  cases hc : (s.toList == [99,111,110,115,116])
  · rw [hT.out, hc, Bool.false_and]
    go_enter Try.func129, Try.ntmps129
    go_wp2
    go_ret
    exact ⟨rfl, (hB1 _).out⟩
  · rw [hT.out, hc, Bool.true_and]
    go_enter Try.func129, Try.ntmps129
    go_wp2_with (go_at_call 86; refine (l1Has_eq L B A _ c xs v _ rfl (by omega) (hI _).out).mono ?_; rintro e w' ⟨rfl, rfl⟩)
    go_ret
    exact ⟨rfl, (hB1 _).out⟩

def wordsTo (k : Nat) : List Int := (List.range k).map fun (i : Nat) => (i : Int)
theorem wordsTo_succ (k : Nat) : wordsTo (k + 1) = wordsTo k ++ [(k : Int)] := by simp [wordsTo, List.range_succ]
theorem wordsTo_len (k : Nat) : (wordsTo k).length = k := by simp [wordsTo]
def OwnRet (w : World) (xs : List Int) (e : Ending) (w' : World) : Prop := ∃ A c, e = .returned (.slice A xs.length c) ∧ OW w' w.heap.size w'.heap.size (.slice A xs.length c) xs ∧ Below w.heap.size w w'
set_option maxHeartbeats 4000000 in
theorem cvWords_any (w : World) : Calls Try.prog 130 #[] w (OwnRet w (wordsTo 64)) := by
  obtain ⟨i0, hi', hz0, hz1, hz2⟩ := info_parts Try.infoInt
  have hJ := Lib.hid hi'; have hJ0 := Lib.hid hz0; have hJ1 := Lib.hid hz1; have hJ2 := Lib.hid hz2
  clear hi' hz0 hz1 hz2
  have hS := Lib.hid wordsTo_succ
  have hL := Lib.hid wordsTo_len
  have h0 : Hid (wordsTo 0 = []) := rfl
  generalize wordsTo = T at *
  go_enter Try.func130, Try.ntmps130
  go_wp2_with (fail)
  go_loopw [1, 2] (fun v i wr => ∃ k : Nat, k ≤ 64 ∧ i = .int .i64 k ∧ OW wr w.heap.size wr.heap.size v (T k) ∧ Below w.heap.size w wr) (fun _ i _ => 64 - (intOf i).toNat)
  case atStart => exact ⟨0, by omega, rfl, by rw [h0.out]; exact OW.nil _ _ _, Below.refl _ _⟩
  case round =>
    obtain ⟨k, hk, rfl, ho, hb⟩ := hrel
    obtain ⟨A, c, rfl, _⟩ := ho.form
    have hO := Lib.hid ho
    have hBe := Lib.hid hb
    have hz := hb.size
    clear ho hb
    by_cases hlt : k < 64
    · have k1 : (k : Int) ≤ 63 := by omega
      have hlo := Lib.hid hO.out.lo
      have hx := Lib.hid (hS.out k)
      have hxl : (T k).length ≤ 64 := by rw [hL.out]; omega
      have hO3 := Lib.hid (hO.out.1.alloc (.cells #[.int .i64 (k : Int)] 3))
      generalize T k = xs at *
      go_wp2_with (at_builtin; refine wpList_append_own _ rfl _ _ 23 rfl w.heap.size 3 i0 (.int .i64 0) 1 8 Try.underlying23 hJ.out hJ0.out hJ1.out hJ2.out rfl (by decide) _ _ _ rfl hO3.out ⟨wr.heap.size, 0, none⟩ 1 1 [.int .i64 (k : Int)] rfl rfl (new1 rfl) (one1 _) (by unfold maxLen; omega) (by omega) (by simp; omega) ?_; intro v' w4 hown4 hgr4 _)
      have R1 := Lib.hid (OW.push (by simpa using hown4) : OW w4 w.heap.size w4.heap.size v' (xs ++ [(k : Int)]))
      have R2 := Lib.hid ((hBe.out.alloc hBe.out.size (.cells #[.int .i64 (k : Int)] 3)).grown hgr4 (by have := hBe.out.size; simp; omega) (fun k hk => (hlo.out k hk).1))
      clear hown4 hgr4
      go_wp2
      go_roundw
      case rel => exact ⟨k + 1, by omega, by go_num, by rw [hx.out]; exact R1.out, R2.out⟩
      case measure => simp [intOf]; omega
    · obtain rfl : k = 64 := by omega
      go_wp2
      go_ret
      exact ⟨_, _, rfl, hO.out, hBe.out⟩

theorem cvTree_any (L B : Nat) (A : Option Addr) (c : Nat) (es : List Nd) (w : World) (hl : es.length ≤ 1048576) (hes : NS w L B A es) (hB : B ≤ w.heap.size) :
    Calls Try.prog 53 #[.slice A es.length c] w (BoolB w (treeR es)) := by
  have H := Lib.hid (exGood_any L B A c es w hl hes hB)
  cases hg : good es
  · rw [show treeR es = false by simp [treeR, hg]]
    rw [hg] at H
    go_enter Try.func53, Try.ntmps53
    go_wp2_with (go_at_call 106; refine H.out.mono ?_; rintro e w1 ⟨rfl, hb1⟩; have hbh := Lib.hid hb1)
    go_ret
    exact ⟨rfl, hbh.out⟩
  · obtain ⟨hl1, hl24, hok⟩ := good_len hg
    have H2 := Lib.hid (fun W (h : Below w.heap.size w W) => exTree_any L B A c es W hl24 (hes.below h hB) (Nat.le_trans hB h.size) hok)
    rw [show treeR es = tree es by simp [treeR, hg]]
    rw [hg] at H
    clear hes
    go_enter Try.func53, Try.ntmps53
    go_wp2_with (first | (go_at_call 106; refine H.out.mono ?_; rintro e w1 ⟨rfl, hb1⟩; have hbh := Lib.hid hb1; clear hb1) | (go_at_call 107; refine (H2.out _ hbh.out).mono ?_; rintro e w2 ⟨rfl, hb2⟩; have hbh2 := Lib.hid (hbh.out.trans (hb2.mono hbh.out.size)); clear hb2))
    go_ret
    exact ⟨rfl, hbh2.out⟩
end Go.Proofs.Ytgcbfiamhpfkhaa
