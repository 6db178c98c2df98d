import Derived.Test.YtblgiemhdjndfaaA
import Derived.Test.YtblgiemhdjndfaaN
import Derived.WalkKit
import Derived.WalkSpells
import Derived.WalkLawsBesides
import Derived.Laws.MakeOwn
import Derived.Lib.Hide
namespace Go.Proofs.Ytblgiemhdjndfaa
open Go.RowKit
set_option linter.unusedVariables false

def SzIs (w : World) (left : Int) (n : Nat) (e : Ending) (w' : World) : Prop := ∃ r : Int, e = .returned (.int .i64 r) ∧ r ≤ left ∧ (0 ≤ r → (n : Int) ≤ left) ∧ -1 ≤ r ∧ Below w.heap.size w w'

theorem szNode_any (s : ByteArray) (a b v left : Int) (w : World) (hs : s.size ≤ 9223372036854775807) (h0 : 0 ≤ left) (h1 : left ≤ 1048576) :
    Calls Try.prog 47 #[.agg #[.string s, .int .i64 a, .int .i64 b, .int .i64 v], .int .i64 left] w (SzIs w left 0) := by
  have hB := (Below.refl w.heap.size w).alloc (Nat.le_refl _)
  by_cases h : (s.size : Int) ≤ left
  · go_enter Try.func47, Try.ntmps47
    go_wp2
    go_ret
    exact ⟨left - s.size, rfl, by omega, fun _ => by omega, by omega, hB _⟩
  · go_enter Try.func47, Try.ntmps47
    go_wp2
    go_ret
    exact ⟨-1, rfl, by omega, fun _ => by omega, by omega, hB _⟩

theorem szNodeS_any (L B : Nat) (A : Option Addr) (c : Nat) (es : List Nd) (w : World) (hl : es.length ≤ 9223372036854775807) (hes : NS w L B A es) (hB : B ≤ w.heap.size) (hs : ∀ n ∈ es, n.op.size ≤ 9223372036854775807) :
    Calls Try.prog 15 #[.slice A es.length c, .int .i64 1048576] w (SzIs w 1048576 es.length) := by
  have hE := Lib.hid hes
  have hS := Lib.hid hs
  have hBB := Lib.hid hB
  have hBel0 := Lib.hid (Below.refl w.heap.size w)
  clear hes hs hB
  by_cases h : (es.length : Int) ≤ 1048576
  · go_enter Try.func15, Try.ntmps15
    go_wp2
    go_loopw [1, 5] (fun l i wr => ∃ (k : Nat) (left : Int), k ≤ es.length ∧ i = .int .i64 k ∧ l = .int .i64 left ∧ 0 ≤ left ∧ left ≤ 1048576 ∧ Below w.heap.size w wr) (fun _ i _ => es.length - (intOf i).toNat)
    case atStart => exact ⟨0, 1048576 - es.length, Nat.zero_le _, rfl, rfl, by omega, by omega, hBel0.out⟩
    case round =>
      obtain ⟨k, left, hk, rfl, rfl, hl0, hl1, hbel⟩ := hrel
      by_cases hlt : k < es.length
      · obtain ⟨b, o, rfl, ⟨_, hbB⟩, hc⟩ := (hE.out.below hbel hBB.out) (by omega)
        obtain ⟨c1, c2, c3, c4⟩ := hc k hlt
        clear hc
        have hsz := hS.out _ (List.getElem_mem hlt)
        generalize es[k] = nd at *
        obtain ⟨s, a, bb, v⟩ := nd
        have hBelB := Lib.hid hbel
        go_wp2_with (fail)
        refine (szNode_any _ _ _ _ _ _ hsz hl0 hl1).mono ?_
        rintro e w2 ⟨r, rfl, hr1, _, hr3, hb2⟩
        have hbel2 : Below w.heap.size w w2 := hBelB.out.trans (hb2.mono hBelB.out.size)
        clear hb2 hbel c1 c2 c3 c4
        by_cases hr : 0 ≤ r
        · go_wp2
          go_roundw
          case rel => exact ⟨k + 1, r, by omega, by go_num, rfl, hr, by omega, hbel2⟩
          case measure => simp [intOf]; omega
        · go_wp2
          go_ret
          exact ⟨-1, rfl, by omega, fun _ => by omega, by omega, hbel2⟩
      · obtain rfl : k = es.length := by omega
        go_wp2
        go_ret
        exact ⟨left, rfl, by omega, fun _ => h, by omega, hbel⟩
  · go_enter Try.func15, Try.ntmps15
    go_wp2
    go_ret
    exact ⟨-1, rfl, by omega, fun _ => by omega, by omega, hBel0.out⟩

theorem toNode_any (s : ByteArray) (a b v : Int) (w : World) :
    Calls Try.prog 49 #[.agg #[.string s, .int .i64 a, .int .i64 b, .int .i64 v]] w fun e w' => e = .returned (.agg #[.string s, .int .i64 a, .int .i64 b, .int .i64 v]) ∧ Below w.heap.size w w' := by
  have hB1 := fun o => (Below.refl w.heap.size w).alloc (Nat.le_refl _) o
  have hB2 := fun o o' => (hB1 o).alloc (by simp) o'
  have hB3 := fun o o' o'' => (hB2 o o').alloc (by simp; omega) o''
  go_enter Try.func49, Try.ntmps49
  go_wp2
  simp [bodyPost, results, Try.results49, go_sem]
  exact hB3 _ _ _

theorem eqNode_any (s s' : ByteArray) (a b v a' b' v' : Int) (w : World) :
    Calls Try.prog 53 #[.agg #[.string s, .int .i64 a, .int .i64 b, .int .i64 v], .agg #[.string s', .int .i64 a', .int .i64 b', .int .i64 v']] w fun e w' =>
      e = .returned (.bool (s.toList == s'.toList && a == a' && b == b' && v == v')) ∧ Below w.heap.size w w' := by
  have hB1 := fun o => (Below.refl w.heap.size w).alloc (Nat.le_refl _) o
  have hB2 := fun o o' => (hB1 o).alloc (by simp) o'
  go_enter Try.func53, Try.ntmps53
  go_wp2
  all_goals go_ret
  all_goals exact ⟨ret_bool (by simp_all), hB2 _ _⟩
end Go.Proofs.Ytblgiemhdjndfaa
