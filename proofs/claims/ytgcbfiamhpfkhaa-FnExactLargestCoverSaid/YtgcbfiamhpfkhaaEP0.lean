import Derived.Test.YtgcbfiamhpfkhaaEO
import Derived.WalkKit
import Derived.WalkSpells
import Derived.WalkLawsBesides
import Derived.BigRegion
import Derived.BigQuiet
import Derived.Lib.Hide
/- cvTile at the tile 0. -/
namespace Go.Proofs.Ytgcbfiamhpfkhaa
open Go.RowKit
set_option linter.unusedVariables false
set_option linter.unusedSimpArgs false

set_option maxRecDepth 100000 in
set_option maxHeartbeats 8000000 in
theorem cvTile_0 (L B : Nat) (A : Option Addr) (c : Nat) (es : List Nd) (k : Nat) (hk : k < es.length) (w : World) (hes : NS w L B A es) (hB : B ≤ w.heap.size) :
    Calls Try.prog 73 #[.slice A es.length c, .int .i64 (k : Int), .int .i64 0] w (TileM w (mt es es[k] 0)) := by
  obtain ⟨b0, o0, rfl, ⟨_, hbB⟩, hc⟩ := hes (by omega)
  have hbw : b0 < w.heap.size := by omega
  obtain ⟨c1, c2, c3, c4⟩ := hc k hk
  have hB1 := fun o => Lib.hid ((Below.refl w.heap.size w).alloc (Nat.le_refl _) o)
  clear hc hes hB hbB
  have k1 : (k : Int) < (es.length : Int) := by omega
  have hm : Hid (mt es es[k] 0 = if (es[k].op.toList == [105,110]) = true then some ⟨0, [], [], 0⟩ else none) := rfl
  have hm1 : ((mt es es[k] 0).map Ti.ps).getD [] = [] := by rw [hm.out]; split <;> rfl
  have hm2 : ((mt es es[k] 0).map Ti.ins).getD [] = [] := by rw [hm.out]; split <;> rfl
  have hm3 : (mt es es[k] 0).isSome = (es[k].op.toList == [105,110]) := by rw [hm.out]; cases (es[k].op.toList == [105,110]) <;> rfl
  have H1 := Lib.hid hm1; have H2 := Lib.hid hm2; have H3 := Lib.hid hm3
  clear hm hm1 hm2 hm3
  generalize mt es es[k] 0 = o at *
  generalize es[k] = nd at *
  obtain ⟨s, a, b, v⟩ := nd
  dsimp only at c1 c2 c3 c4 H3
  go_enter Try.func73, Try.ntmps73
  go_wp2
  go_quiet (fail)
  go_wp2
  go_ret3
  exact TileM.no H1.out H2.out H3.out (belowDrewN (hB1 _).out _)
end Go.Proofs.Ytgcbfiamhpfkhaa
