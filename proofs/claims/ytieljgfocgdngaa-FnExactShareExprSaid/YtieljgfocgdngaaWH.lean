import Derived.Test.YtieljgfocgdngaaWG
import Derived.WalkKit
import Derived.WalkSpells
import Derived.WalkLawsBesides
import Derived.Deep.RegionHeld3
import Derived.Lib.Hide
/- The program's walk that moves nodes: one move. -/
namespace Go.Proofs.Ytieljgfocgdngaa
open Go.RowKit
set_option linter.unusedVariables false
set_option maxRecDepth 100000

theorem xn_chg {w w' : World} {L b q : Nat} {n : Nd} (h : XN w b n) (hc : Chg L b w w') (hq : q ≠ b) (v : Value) : XN (w'.setCell ⟨q, 0, none⟩ v) b n := by
  have h1 : XN w' b n := (hc.block b h.lt (by omega)).trans h
  exact h1.other 0 v hq

set_option maxHeartbeats 4000000 in
theorem move_any (q g L m k cc : Nat) (AV : Option Addr) (cv : Nat) (xs : List Nd) (ps : List Int) (n : Nd) (w : World) (hx : xs.length < 24) (hn : isNode n k = true) (hk : k < m) (hm : ps.length = m) (hqg : q ≠ g) (hqL : q < L) (hgL : g < L) (hL : L ≤ w.heap.size)
    (h0 : w.cell? ⟨q, 0, none⟩ = some (.slice AV xs.length cv)) (h1 : w.cell? ⟨q, 1, none⟩ = some (.bool false)) (h2 : w.cell? ⟨q, 2, none⟩ = some (.slice (some ⟨g, 0, none⟩) m cc)) (hf : w.frozen? ⟨q, 0, none⟩ = false) (hi : IB w g 3 ps) (ho : OK Nd.enc 4 62 w L w.heap.size (.slice AV xs.length cv) xs) :
    Calls Try.prog 73 #[.pointer (some ⟨q, 0, none⟩), .int .i64 k, .agg #[.string n.op, .int .i64 n.a, .int .i64 n.b, .int .i64 n.v]] w fun e w' => e = .returned (.tuple #[]) ∧ ∃ v' w1, w' = (w1.setCell ⟨q, 0, none⟩ v').setCell ⟨g, k, none⟩ (.int .i64 xs.length) ∧ Below L w w1 ∧ OK Nd.enc 4 62 w1 L w1.heap.size v' (xs ++ [moved n ps]) := by
  have hal := Lib.hid ((Below.refl w.heap.size w).alloc (Nat.le_refl _) (.cells #[.string n.op, .int .i64 n.a, .int .i64 n.b, .int .i64 n.v] 62))
  have k1 : (0 : Int) ≤ (k : Int) := by omega
  have k2 : (k : Int) < (m : Int) := by omega
  have hc2 := (hal.out.cell (p := ⟨q, 2, none⟩) (by show q < _; omega)).trans h2
  have X0 : Hid (XN (w.alloc (.cells #[.string n.op, .int .i64 n.a, .int .i64 n.b, .int .i64 n.v] 62)) w.heap.size n) := xn_new _ n
  have hWO := Lib.hid fun (W : World) (hW : Below w.heap.size w W) => withOperands_any q g m k cc n ps W hm hn hk (by have := hW.size; omega) ((hW.cell (p := ⟨q, 2, none⟩) (by show q < _; omega)).trans h2) (hi.below hW hi.lt)
  have hPut := Lib.hid fun (W : World) (hW : Below w.heap.size w W) => put_any q L w.heap.size AV cv xs (moved n ps) W hx (by omega) (Nat.le_trans hL hW.size) ((hW.cell (p := ⟨q, 0, none⟩) (by show q < _; omega)).trans h0) ((hW.cell (p := ⟨q, 1, none⟩) (by show q < _; omega)).trans h1) ((hW.frozen (p := ⟨q, 0, none⟩) (by show q < _; omega)).trans hf) hW.size (ho.below hW (Nat.le_refl _))
  have hK2 := Lib.hid fun (W : World) (hW : Below w.heap.size w W) => (hW.cell (p := ⟨q, 2, none⟩) (by show q < _; omega)).trans h2
  have hK5 := Lib.hid fun (W W5 : World) (v : Value) (hW : Below w.heap.size w W) (h5 : Below L W W5) => ((World.cell?_setCell_other W5 ⟨q, 0, none⟩ ⟨q, 2, none⟩ v (by simp)).trans ((h5.cell (p := ⟨q, 2, none⟩) (by show q < L; omega)).trans ((hW.cell (p := ⟨q, 2, none⟩) (by show q < _; omega)).trans h2)) : (W5.setCell ⟨q, 0, none⟩ v).cell? ⟨q, 2, none⟩ = some (.slice (some ⟨g, 0, none⟩) m cc))
  have hGk := Lib.hid fun (W W5 : World) (v : Value) (hW : Below w.heap.size w W) (h5 : Below L W W5) => ((Below.heap_setCell W5 ⟨q, 0, none⟩ v g (by simp; omega)).trans ((h5.block g hgL).trans (hi.below hW hi.lt)) : IB (W5.setCell ⟨q, 0, none⟩ v) g 3 ps)
  clear hi ho h0 h1 h2 hf
  go_enter Try.func73, Try.ntmps73
  go_wp2_with (fail)
  generalize w.alloc (.cells #[.string n.op, .int .i64 n.a, .int .i64 n.b, .int .i64 n.v] 62) = w0 at *
  obtain ⟨m0, m1, m2, m3⟩ := X0.out.cells
  go_region_held3 (fun w' => w'.cell? ⟨q, 2, none⟩ = some (.slice (some ⟨g, 0, none⟩) m cc) ∧ w'.cell? ⟨w.heap.size, 0, none⟩ = some (.string n.op) ∧ w'.cell? ⟨w.heap.size, 1, none⟩ = some (.int .i64 n.a) ∧ w'.cell? ⟨w.heap.size, 2, none⟩ = some (.int .i64 n.b) ∧ w'.cell? ⟨w.heap.size, 3, none⟩ = some (.int .i64 n.v))
    (first | exact ⟨(World.cell?_setCell_far _ ⟨g, k, none⟩ ⟨q, 2, none⟩ _ (by simp; omega)).trans (hK5.out _ _ _ hbw hb5), ((xn_chg hx3 hc5 (by omega) _).other k _ (by omega)).cells⟩ | exact ⟨hK5.out _ _ _ hbw hb5, (xn_chg hx3 hc5 (by omega) _).cells⟩ | exact ⟨hK2.out _ hbw, hx3.cells⟩ | assumption | go_keep)
    (first
      | (go_at_call 103; refine (hWO.out _ (by first | exact hal.out | exact hal.out.drew)).mono ?_; rintro e w3 ⟨rfl, hb3⟩; have hbw : Below w.heap.size w w3 := (by first | exact hal.out.trans (hb3.mono hal.out.size) | exact hal.out.drew.trans (hb3.mono hal.out.size)); have hx3 : XN w3 w.heap.size n := (by first | exact X0.out.next hb3 | exact XN.next (w := w0.drew) X0.out hb3))
      | (go_at_call 102; refine (hPut.out _ (by first | exact hbw | exact hbw.drew)).mono ?_; rintro e w4 ⟨rfl, v', w5, rfl, hb5, hc5, ho5⟩; have hib5 := hGk.out _ _ v' hbw hb5; have s1 := IB.cell hib5 k (by omega); have s2 := IB.frozen hib5 k))
  all_goals
    have H1 := Lib.hid (hbw.mono (show L ≤ w.heap.size from hL) |>.trans hb5)
    have H2 := Lib.hid ho5
    clear hbw hb5 hc5 ho5 hb3 hx3 hib5 s1 s2
    go_wp2
    first | (refine bodyPost_end (results_none rfl _ _ _) rfl ?_) | (refine bodyPost_ret (results_none rfl _ _ _) rfl ?_)
    exact ⟨rfl, v', w5, rfl, H1.out, H2.out⟩
end Go.Proofs.Ytieljgfocgdngaa
