import Derived.Test.YthjfedidpjfboaaCP
import Derived.WalkKit
import Derived.WalkSpells
import Derived.WalkLawsBesides
import Derived.Deep.RegionHeld3
import Derived.Lib.Hide
namespace Go.Proofs.Ythjfedidpjfboaa
open Go.RowKit
set_option linter.unusedVariables false
set_option maxRecDepth 100000

def StepM (w : World) (g : Nat) (rs : List Int) (e : Ending) (w' : World) : Prop :=
  e = .returned (.tuple #[]) ∧ IB w' g 114 rs ∧ Chg g (g + 1) w w'
set_option maxHeartbeats 4000000 in
theorem stepM_any (x : In) (g : Nat) (rs : List Int) (w : World) (hx : goodIn x = true) (h6 : words6 rs) (hI : IB w g 114 rs) :
    Calls Try.prog 157 #[.pointer (some ⟨g, 0, none⟩), .agg #[.string x.op, .int .i64 x.d, .int .i64 x.a, .int .i64 x.b, .int .i64 x.m]] w (StepM w g (stepL x rs)) := by
  have hG := Lib.hid hx
  have hW := Lib.hid h6
  obtain ⟨hd, _⟩ := good_parts hx
  obtain ⟨op, d, a, b', m⟩ := x
  obtain ⟨nd, rfl⟩ := Int.eq_ofNat_of_zero_le hd.1
  have hb0 := Lib.hid ((Below.refl w.heap.size w).alloc (Nat.le_refl _) (.cells #[.string op, .int .i64 nd, .int .i64 a, .int .i64 b', .int .i64 m] 90))
  have hS : Hid (stepL ⟨op, nd, a, b', m⟩ rs = rs.set nd (vOf op m (rs.getD a.toNat 0) (rs.getD b'.toNat 0))) := rfl
  obtain ⟨y, hy⟩ : ∃ y, vOf op m (rs.getD a.toNat 0) (rs.getD b'.toNat 0) = y := ⟨_, rfl⟩
  have hV := Lib.hid (fun w' (h1 : g < w'.heap.size) (h2 : Six w' g 0 rs) => (show Calls Try.prog 187 #[.pointer (some ⟨g, 0, none⟩), .agg #[.string op, .int .i64 nd, .int .i64 a, .int .i64 b', .int .i64 m]] w' (fun e w'' => e = .returned (.int .i64 y) ∧ Below w'.heap.size w' w'') from by have := valueOf_any ⟨op, nd, a, b', m⟩ g rs w' hG.out hW.out h1 h2; simp only at this; rw [hy] at this; exact this))
  rw [hy] at hS
  clear hy
  have hgl := hI.lt
  have hM := Lib.hid (hI.below hb0.out hgl)
  have hlen := Lib.hid h6.1
  have hd' : nd < 6 := by simp only at hd; omega
  clear hI hx h6 hd
  go_enter Try.func157, Try.ntmps157
  go_wp2_with (fail)
  obtain ⟨w1, hw1⟩ : ∃ w1 : World, w1 = w.alloc (.cells #[.string op, .int .i64 nd, .int .i64 a, .int .i64 b', .int .i64 m] 90) := ⟨_, rfl⟩
  rw [← hw1] at hM hb0 ⊢
  obtain ⟨xa, xb, xc, xd, xe⟩ := In.old (x := ⟨op, nd, a, b', m⟩) (w2 := w1) (t := 90) rfl (by rw [hw1]; exact Below.refl _ _)
  have hz : w.heap.size < w1.heap.size := by rw [hw1]; simp
  have hz' : w1.heap.size = w.heap.size + 1 := by rw [hw1]; simp
  have hZ := Lib.hid hz'
  have hgz : g < w1.heap.size := by omega
  have hne : g ≠ w.heap.size := by omega
  clear hw1 hz'
  have i0 : (0 : Int) ≤ (nd : Int) := by omega
  have i1 : (nd : Int) < 6 := by omega
  have hS1 := Lib.hid (hM.out.six hlen.out)
  have hb1 := Lib.hid hgz
  go_region_with (go_at_call 187; refine (hV.out _ (by exact hb1.out) (by exact Six.heap rfl hS1.out)).mono ?_; rintro e w2 ⟨rfl, hb2⟩; have hb3 := Lib.hid ((Below.refl w1.heap.size w1).drew.trans hb2); have hM2 := Lib.hid (hM.out.below hb3.out hgz); have c1 := hM2.out.cell nd (by rw [hlen.out]; omega); have f1 := hM2.out.frozen nd; have xb2 := (hb3.out.cell (p := ⟨w.heap.size, 1, none⟩) hz).trans xb)
  all_goals
    have hfin := Lib.hid (hM2.out.set nd y)
    have hchg : Hid (Chg g (g + 1) w (w2.setCell ⟨g, nd, none⟩ (.int .i64 y))) := (Chg.ofBelow (hb0.out.trans (hb3.out.mono (by omega)))).setCell (p := ⟨g, nd, none⟩) (by simp) _
    go_wp2
    go_end0
    exact ⟨rfl, by rw [hS.out]; exact hfin.out, hchg.out⟩

theorem words_any (g : Nat) (rs : List Int) (w : World) (h6 : rs.length = 6) (hI : IB w g 114 rs) :
    Calls Try.prog 156 #[.pointer (some ⟨g, 0, none⟩)] w (Own6 w rs) := by
  have hC := Lib.hid ((CloneI_any g 0 6 rs g (g + 1) w (by omega) hI.toIS hI.lt).mono fun _ _ => own6_of h6)
  rw [h6] at hC
  clear hI
  go_enter Try.func156, Try.ntmps156
  go_wp2_with (fail)
  refine hC.out.mono ?_
  rintro e w1 ⟨g1, c1, rfl, hg1, ho1, hb1⟩
  have hO1 := Lib.hid ho1
  go_wp2
  go_ret
  exact ⟨g1, c1, rfl, hg1, hO1.out, hb1⟩
end Go.Proofs.Ythjfedidpjfboaa
